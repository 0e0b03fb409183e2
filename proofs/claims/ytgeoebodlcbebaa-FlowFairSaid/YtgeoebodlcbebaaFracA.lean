/-
  What the functions of the library that layer 5 (frac) calls return: bits.Mul64, cmp.Compare.
-/
import Derived.Test.YtgeoebodlcbebaaBase
import Derived.Test.YtgeoebodlcbebaaFracMath
import Derived.Laws.Bits64b
namespace Go.Proofs.Ytgeoebodlcbebaa
open Go.RowKit
set_option linter.unusedVariables false

theorem low32 (a : Nat) (h : a < 18446744073709551616) : bits .and .u64 (a : Int) 4294967295 = ((a % 4294967296 : Nat) : Int) := by
  rw [show (4294967295 : Int) = ((4294967295 : Nat) : Int) from rfl, u64_and_nat a 4294967295 h (by omega)]
  exact congrArg Nat.cast (Nat.and_two_pow_sub_one_eq_mod a 32)
theorem cdiv32 (a : Nat) : (a : Int) / 4294967296 = ((a / 4294967296 : Nat) : Int) := rfl
theorem cmul (a b : Nat) : (a : Int) * (b : Int) = ((a * b : Nat) : Int) := rfl
theorem cadd (a b : Nat) : (a : Int) + (b : Int) = ((a + b : Nat) : Int) := rfl
theorem cwrap (a : Nat) : IntKind.u64.wrap (a : Int) = ((a % 18446744073709551616 : Nat) : Int) := by rw [IntKind.wrap_u64]; rfl
theorem cwrap_id (a : Nat) (h : a < 18446744073709551616) : IntKind.u64.wrap (a : Int) = (a : Int) := by rw [cwrap, Nat.mod_eq_of_lt h]

theorem ctdiv32 (a : Nat) : (a : Int).tdiv 4294967296 = ((a / 4294967296 : Nat) : Int) := rfl
theorem ctmod32 (a : Nat) : (a : Int).tmod 4294967296 = ((a % 4294967296 : Nat) : Int) := rfl
theorem cmul32 (a : Nat) : (a : Int) * 4294967296 = ((a * 4294967296 : Nat) : Int) := rfl
theorem cmod32 (a : Nat) : (a : Int) % 4294967296 = ((a % 4294967296 : Nat) : Int) := rfl
/-- how two numbers stand -/
@[irreducible] def cmpI (x y : Int) : Int := if x < y then -1 else if x = y then 0 else 1
theorem cmpI_lt {x y : Int} (h : x < y) : cmpI x y = -1 := by unfold cmpI; rw [if_pos h]
theorem cmpI_eq (x : Int) : cmpI x x = 0 := by unfold cmpI; rw [if_neg (by omega), if_pos rfl]
theorem cmpI_gt {x y : Int} (h : y < x) : cmpI x y = 1 := by unfold cmpI; rw [if_neg (by omega), if_neg (by omega)]
/-- the halves decide -/
theorem cmpI_halves (p q : Nat) : cmpI (p : Int) (q : Int) = if ((p / 18446744073709551616 : Nat) : Int) = ((q / 18446744073709551616 : Nat) : Int) then cmpI ((p % 18446744073709551616 : Nat) : Int) ((q % 18446744073709551616 : Nat) : Int) else cmpI ((p / 18446744073709551616 : Nat) : Int) ((q / 18446744073709551616 : Nat) : Int) := by
  have h1 := Fr.halves_lt p q 18446744073709551616 (by omega)
  have h2 := Fr.halves_eq p q 18446744073709551616
  split
  · rename_i h
    unfold cmpI
    congr 1
    · exact propext (by omega)
    · congr 1; exact propext (by omega)
  · rename_i h
    unfold cmpI
    congr 1
    · exact propext (by omega)
    · congr 1; exact propext (by omega)

end Go.Proofs.Ytgeoebodlcbebaa
