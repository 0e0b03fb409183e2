/-
  What frac.Near and the document's Near return.
-/
import Derived.Test.YtgeoebodlcbebaaFracA
namespace Go.Proofs.Ytgeoebodlcbebaa
open Go.RowKit
set_option linter.unusedVariables false

@[irreducible] def minI (a b : Int) : Int := if b < a then b else a
theorem minI_is (a b : Int) : (minI a b = a ∧ a ≤ b) ∨ (minI a b = b ∧ b < a) := by unfold minI; split <;> omega
def max2I (x y : Int) : Int := if y > x then y else x
theorem max2I_ge (x y n : Int) : n ≤ max2I x y ↔ n ≤ x ∨ n ≤ y := by unfold max2I; split <;> omega
@[irreducible] def max6 (a b c d e f : Int) : Int := max2I (max2I (max2I (max2I (max2I a b) c) d) e) f
theorem max6_ge (a b c d e f n : Int) : n ≤ max6 a b c d e f ↔ n ≤ a ∨ n ≤ b ∨ n ≤ c ∨ n ≤ d ∨ n ≤ e ∨ n ≤ f := by
  unfold max6; simp only [max2I_ge]; omega
theorem max6_lt {a b c d e f n : Int} (h : ¬ n ≤ max6 a b c d e f) : a < n ∧ b < n ∧ c < n ∧ d < n ∧ e < n ∧ f < n := by
  rw [max6_ge] at h; omega
theorem run_max6 (ts : Array TypeId) (t : TypeId) (P : Program) (w : World) (a b c d e f : Int) :
    (Builtin.max_ ts t #[.int .u64 a, .int .u64 b, .int .u64 c, .int .u64 d, .int .u64 e, .int .u64 f]).run P w = .ok (.int .u64 (max6 a b c d e f)) w := by
  unfold max6 max2I
  simp [Builtin.max_, Builtin.max2]

/-- six numbers, none below 0 -/
structure Six (x v y z q c : Int) : Prop where
  x : 0 ≤ x
  v : 0 ≤ v
  y : 0 ≤ y
  z : 0 ≤ z
  q : 0 ≤ q
  c : 0 ≤ c
@[irreducible] def nearI (x v y z q c : Int) : Bool :=
  decide (x < 1048576 ∧ v < 1048576 ∧ y < 1048576 ∧ z < 1048576 ∧ q < 1048576 ∧ c < 1048576 ∧ 0 < v ∧ 0 < z ∧ x * z ≤ y * v + (q * v * z + c * z + c * v) ∧ y * v ≤ x * z + (q * v * z + c * z + c * v))
theorem prod_lt {a b m n k : Int} (ha : 0 ≤ a) (hb : 0 ≤ b) (h1 : a < m) (h2 : b < n) (hk : m * n = k) : 0 ≤ a * b ∧ a * b < k := by
  have e := Int.mul_le_mul (show a ≤ m - 1 by omega) (show b ≤ n - 1 by omega) hb (by omega)
  have e2 : (m - 1) * (n - 1) = m * n - m - n + 1 := by grind
  exact ⟨Int.mul_nonneg ha hb, by omega⟩
theorem prod20 {a b : Int} (ha : 0 ≤ a) (hb : 0 ≤ b) (h1 : a < 1048576) (h2 : b < 1048576) : 0 ≤ a * b ∧ a * b < 1099511627776 := prod_lt ha hb h1 h2 (by decide)
theorem prod40 {a b : Int} (ha : 0 ≤ a) (hb : 0 ≤ b) (h1 : a < 1099511627776) (h2 : b < 1048576) : 0 ≤ a * b ∧ a * b < 1152921504606846976 := prod_lt ha hb h1 h2 (by decide)
theorem wrap64_in {a : Int} (h0 : 0 ≤ a) (h1 : a < 18446744073709551616) : IntKind.u64.wrap a = a := by rw [IntKind.wrap_u64]; omega


end Go.Proofs.Ytgeoebodlcbebaa
