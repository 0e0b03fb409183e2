/-
  What the functions of the library that layer 5 (frac) calls return: bits.Mul64, cmp.Compare.
-/
import Derived.Test.YtipljafpmpagjaaBase
import Derived.Test.YtipljafpmpagjaaFracMath
import Derived.Laws.Bits64b
namespace Go.Proofs.Ytipljafpmpagjaa
open Go.RowKit
set_option linter.unusedVariables false

theorem low32 (a : Nat) (h : a < 18446744073709551616) : bits .and .u64 (a : Int) 4294967295 = ((a % 4294967296 : Nat) : Int) := by
  rw [show (4294967295 : Int) = ((4294967295 : Nat) : Int) from rfl, u64_and_nat a 4294967295 h (by omega)]
  exact congrArg Nat.cast (Nat.and_two_pow_sub_one_eq_mod a 32)
theorem cdiv32 (a : Nat) : (a : Int) / 4294967296 = ((a / 4294967296 : Nat) : Int) := rfl
theorem cmul (a b : Nat) : (a : Int) * (b : Int) = ((a * b : Nat) : Int) := rfl
theorem cadd (a b : Nat) : (a : Int) + (b : Int) = ((a + b : Nat) : Int) := rfl
theorem cwrap (a : Nat) : IntKind.u64.wrap (a : Int) = ((a % 18446744073709551616 : Nat) : Int) := by rw [IntKind.wrap_u64]; rfl
theorem cwrap_id (a : Nat) (h : a < 18446744073709551616) : IntKind.u64.wrap (a : Int) = (a : Int) := by rw [cwrap, Nat.mod_eq_of_lt h]

set_option maxHeartbeats 1000000 in
theorem mul64C (x y : Nat) (hx : x < 18446744073709551616) (hy : y < 18446744073709551616) (w : World) :
    Calls Try.prog 15 #[.int .u64 x, .int .u64 y] w (Same (.tuple #[.int .u64 ((x * y / 18446744073709551616 : Nat) : Int), .int .u64 ((x * y % 18446744073709551616 : Nat) : Int)]) w) := by
  obtain ⟨h1, h2, h3, h4, h5⟩ := Fr.parts_eq x y hx hy
  rw [Nat.add_comm (x % 4294967296 * (y / 4294967296))] at h3 h4
  have hq : x * y / 18446744073709551616 < 18446744073709551616 := by
    have := Nat.mul_lt_mul'' hx hy
    omega
  have h6 : (x / 4294967296) * (y % 4294967296) < 18446744073709551616 := by omega
  have h7 : (x % 4294967296) * (y / 4294967296) < 18446744073709551616 := by omega
  have h8 : (x / 4294967296) * (y / 4294967296) < 18446744073709551616 := by omega
  have h9 : (x / 4294967296) * (y / 4294967296) + ((x / 4294967296) * (y % 4294967296) + (x % 4294967296) * (y % 4294967296) / 4294967296) / 4294967296 < 18446744073709551616 := by omega
  go_enter Try.func15, Try.ntmps15
  go_wp2
  simp only [low32 x hx, low32 y hy, cdiv32, cmul, cadd, cwrap_id _ h1, cwrap_id _ h6, cwrap_id _ h2, low32 _ h2, cwrap_id _ h7, cwrap_id _ h3, cwrap_id _ h8, cwrap_id _ h9, h4, cwrap_id _ hq, cwrap (x * y)]
  go_ret2
  exact ⟨rfl, rfl⟩

theorem ctdiv32 (a : Nat) : (a : Int).tdiv 4294967296 = ((a / 4294967296 : Nat) : Int) := rfl
theorem ctmod32 (a : Nat) : (a : Int).tmod 4294967296 = ((a % 4294967296 : Nat) : Int) := rfl
theorem cmul32 (a : Nat) : (a : Int) * 4294967296 = ((a * 4294967296 : Nat) : Int) := rfl
theorem cmod32 (a : Nat) : (a : Int) % 4294967296 = ((a % 4294967296 : Nat) : Int) := rfl
set_option maxHeartbeats 1000000 in
theorem partsC (x y : Nat) (hx : x < 18446744073709551616) (hy : y < 18446744073709551616) (w : World) :
    Calls Try.prog 17 #[.int .u64 x, .int .u64 y] w (Same (.tuple #[.int .u64 ((x * y / 18446744073709551616 : Nat) : Int), .int .u64 ((x * y % 18446744073709551616 : Nat) : Int)]) w) := by
  obtain ⟨h1, h2, h3, h4, h5⟩ := Fr.parts_eq x y hx hy
  have hq : x * y / 18446744073709551616 < 18446744073709551616 := by
    have := Nat.mul_lt_mul'' hx hy
    omega
  have h6 : (x / 4294967296) * (y % 4294967296) < 18446744073709551616 := by omega
  have h7 : (x % 4294967296) * (y / 4294967296) < 18446744073709551616 := by omega
  have h8 : (x / 4294967296) * (y / 4294967296) < 18446744073709551616 := by omega
  have h9 : (x / 4294967296) * (y / 4294967296) + ((x / 4294967296) * (y % 4294967296) + (x % 4294967296) * (y % 4294967296) / 4294967296) / 4294967296 < 18446744073709551616 := by omega
  have h11 : (x % 4294967296) * (y % 4294967296) / 4294967296 < 18446744073709551616 := by omega
  have h12 : ((x / 4294967296) * (y % 4294967296) + (x % 4294967296) * (y % 4294967296) / 4294967296) / 4294967296 < 18446744073709551616 := by omega
  have h13 : ((x % 4294967296) * (y / 4294967296) + ((x / 4294967296) * (y % 4294967296) + (x % 4294967296) * (y % 4294967296) / 4294967296) % 4294967296) / 4294967296 < 18446744073709551616 := by omega
  have h14 : ((x % 4294967296) * (y / 4294967296) + ((x / 4294967296) * (y % 4294967296) + (x % 4294967296) * (y % 4294967296) / 4294967296) % 4294967296) % 4294967296 * 4294967296 < 18446744073709551616 := by omega
  have h15 : x * y % 18446744073709551616 < 18446744073709551616 := Nat.mod_lt _ (by omega)
  go_enter Try.func17, Try.ntmps17
  go_wp2
  simp only [cdiv32, cmod32, ctdiv32, ctmod32, cmul32, cmul, cadd, cwrap_id _ h1, cwrap_id _ h6, cwrap_id _ h11, cwrap_id _ h2, cwrap_id _ h12, cwrap_id _ h7, cwrap_id _ h3, cwrap_id _ h13, cwrap_id _ h8, cwrap_id _ h9, cwrap_id _ h14, h5, cwrap_id _ h15, h4, cwrap_id _ hq]
  go_ret2
  exact ⟨rfl, rfl⟩

/-- how two numbers stand -/
@[irreducible] def cmpI (x y : Int) : Int := if x < y then -1 else if x = y then 0 else 1
theorem cmpI_lt {x y : Int} (h : x < y) : cmpI x y = -1 := by unfold cmpI; rw [if_pos h]
theorem cmpI_eq (x : Int) : cmpI x x = 0 := by unfold cmpI; rw [if_neg (by omega), if_pos rfl]
theorem cmpI_gt {x y : Int} (h : y < x) : cmpI x y = 1 := by unfold cmpI; rw [if_neg (by omega), if_neg (by omega)]
theorem isNaNC (x : Int) (w : World) : Calls Try.prog 21 #[.int .u64 x] w (Same (.bool false) w) := by
  go_enter Try.func21, Try.ntmps21
  go_wp2
  go_ret
  exact ⟨rfl, rfl⟩
theorem cmpC (x y : Int) (w : World) : Calls Try.prog 16 #[.int .u64 x, .int .u64 y] w (Same (.int .i64 (cmpI x y)) w) := by
  have n := fun z W => isNaNC z W
  have N := Lib.hid n; clear n
  rcases Int.lt_trichotomy x y with h | h | h
  · rw [cmpI_lt h]
    go_enter Try.func16, Try.ntmps16
    go_wp2_with (go_at_call 21; (with_reducible refine (N.out _ _).mono ?_); rintro e w1 ⟨rfl, rfl⟩)
    go_ret
    exact ⟨rfl, rfl⟩
  · subst h
    rw [cmpI_eq]
    go_enter Try.func16, Try.ntmps16
    go_wp2_with (go_at_call 21; (with_reducible refine (N.out _ _).mono ?_); rintro e w1 ⟨rfl, rfl⟩)
    go_ret
    exact ⟨rfl, rfl⟩
  · rw [cmpI_gt h]
    have h' : ¬ x < y := by omega
    go_enter Try.func16, Try.ntmps16
    go_wp2_with (go_at_call 21; (with_reducible refine (N.out _ _).mono ?_); rintro e w1 ⟨rfl, rfl⟩)
    go_ret
    exact ⟨rfl, rfl⟩

/-- the halves decide -/
theorem cmpI_halves (p q : Nat) : cmpI (p : Int) (q : Int) = if ((p / 18446744073709551616 : Nat) : Int) = ((q / 18446744073709551616 : Nat) : Int) then cmpI ((p % 18446744073709551616 : Nat) : Int) ((q % 18446744073709551616 : Nat) : Int) else cmpI ((p / 18446744073709551616 : Nat) : Int) ((q / 18446744073709551616 : Nat) : Int) := by
  have h1 := Fr.halves_lt p q 18446744073709551616 (by omega)
  have h2 := Fr.halves_eq p q 18446744073709551616
  split
  · rename_i h
    unfold cmpI
    congr 1
    · exact propext (by omega)
    · congr 1; exact propext (by omega)
  · rename_i h
    unfold cmpI
    congr 1
    · exact propext (by omega)
    · congr 1; exact propext (by omega)

theorem fracCompareC (a b c d : Nat) (ha : a < 18446744073709551616) (hb : b < 18446744073709551616) (hc : c < 18446744073709551616) (hd : d < 18446744073709551616) (w : World) :
    Calls Try.prog 6 #[.int .u64 a, .int .u64 b, .int .u64 c, .int .u64 d] w (Same (.int .i64 (cmpI ((a * d : Nat) : Int) ((b * c : Nat) : Int))) w) := by
  have m1 := fun W => mul64C a d ha hd W
  have m2 := fun W => mul64C b c hb hc W
  have k := fun x y W => cmpC x y W
  have hh := cmpI_halves (a * d) (b * c)
  obtain ⟨h1, e1⟩ : ∃ h1 : Int, h1 = ((a * d / 18446744073709551616 : Nat) : Int) := ⟨_, rfl⟩
  obtain ⟨l1, e2⟩ : ∃ h1 : Int, h1 = ((a * d % 18446744073709551616 : Nat) : Int) := ⟨_, rfl⟩
  obtain ⟨h2, e3⟩ : ∃ h1 : Int, h1 = ((b * c / 18446744073709551616 : Nat) : Int) := ⟨_, rfl⟩
  obtain ⟨l2, e4⟩ : ∃ h1 : Int, h1 = ((b * c % 18446744073709551616 : Nat) : Int) := ⟨_, rfl⟩
  rw [← e1, ← e2] at m1
  rw [← e3, ← e4] at m2
  rw [← e1, ← e2, ← e3, ← e4] at hh
  rw [hh]
  clear e1 e2 e3 e4 hh ha hb hc hd
  have M1 := Lib.hid m1; clear m1
  have M2 := Lib.hid m2; clear m2
  have K := Lib.hid k; clear k
  by_cases h : h1 = h2
  · subst h
    rw [if_pos rfl]
    go_enter Try.func6, Try.ntmps6
    go_wp2_with (first
      | (go_at_call 15; (with_reducible refine (M1.out _).mono ?_); rintro e w1 ⟨rfl, rfl⟩)
      | (go_at_call 15; (with_reducible refine (M2.out _).mono ?_); rintro e w1 ⟨rfl, rfl⟩)
      | (go_at_call 16; (with_reducible refine (K.out _ _ _).mono ?_); rintro e w1 ⟨rfl, rfl⟩))
    go_ret
    exact ⟨rfl, rfl⟩
  · rw [if_neg h]
    go_enter Try.func6, Try.ntmps6
    go_wp2_with (first
      | (go_at_call 15; (with_reducible refine (M1.out _).mono ?_); rintro e w1 ⟨rfl, rfl⟩)
      | (go_at_call 15; (with_reducible refine (M2.out _).mono ?_); rintro e w1 ⟨rfl, rfl⟩)
      | (go_at_call 16; (with_reducible refine (K.out _ _ _).mono ?_); rintro e w1 ⟨rfl, rfl⟩))
    go_ret
    exact ⟨rfl, rfl⟩
end Go.Proofs.Ytipljafpmpagjaa
