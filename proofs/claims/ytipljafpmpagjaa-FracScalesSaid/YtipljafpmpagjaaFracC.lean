/-
  What frac.Near and the document's Near return.
-/
import Derived.Test.YtipljafpmpagjaaFracA
namespace Go.Proofs.Ytipljafpmpagjaa
open Go.RowKit
set_option linter.unusedVariables false

@[irreducible] def minI (a b : Int) : Int := if b < a then b else a
theorem minI_is (a b : Int) : (minI a b = a ∧ a ≤ b) ∨ (minI a b = b ∧ b < a) := by unfold minI; split <;> omega
theorem leastC (a b : Int) (w : World) : Calls Try.prog 20 #[.int .u64 a, .int .u64 b] w (Same (.int .u64 (minI a b)) w) := by
  rcases minI_is a b with ⟨e, h⟩ | ⟨e, h⟩
  · rw [e]
    have h' : ¬ b < a := by omega
    clear e
    go_enter Try.func20, Try.ntmps20
    go_wp2
    go_ret
    exact ⟨rfl, rfl⟩
  · rw [e]
    clear e
    go_enter Try.func20, Try.ntmps20
    go_wp2
    go_ret
    exact ⟨rfl, rfl⟩

def max2I (x y : Int) : Int := if y > x then y else x
theorem max2I_ge (x y n : Int) : n ≤ max2I x y ↔ n ≤ x ∨ n ≤ y := by unfold max2I; split <;> omega
@[irreducible] def max6 (a b c d e f : Int) : Int := max2I (max2I (max2I (max2I (max2I a b) c) d) e) f
theorem max6_ge (a b c d e f n : Int) : n ≤ max6 a b c d e f ↔ n ≤ a ∨ n ≤ b ∨ n ≤ c ∨ n ≤ d ∨ n ≤ e ∨ n ≤ f := by
  unfold max6; simp only [max2I_ge]; omega
theorem max6_lt {a b c d e f n : Int} (h : ¬ n ≤ max6 a b c d e f) : a < n ∧ b < n ∧ c < n ∧ d < n ∧ e < n ∧ f < n := by
  rw [max6_ge] at h; omega
theorem run_max6 (ts : Array TypeId) (t : TypeId) (P : Program) (w : World) (a b c d e f : Int) :
    (Builtin.max_ ts t #[.int .u64 a, .int .u64 b, .int .u64 c, .int .u64 d, .int .u64 e, .int .u64 f]).run P w = .ok (.int .u64 (max6 a b c d e f)) w := by
  unfold max6 max2I
  simp [Builtin.max_, Builtin.max2]

/-- six numbers, none below 0 -/
structure Six (x v y z q c : Int) : Prop where
  x : 0 ≤ x
  v : 0 ≤ v
  y : 0 ≤ y
  z : 0 ≤ z
  q : 0 ≤ q
  c : 0 ≤ c
@[irreducible] def nearI (x v y z q c : Int) : Bool :=
  decide (x < 1048576 ∧ v < 1048576 ∧ y < 1048576 ∧ z < 1048576 ∧ q < 1048576 ∧ c < 1048576 ∧ 0 < v ∧ 0 < z ∧ x * z ≤ y * v + (q * v * z + c * z + c * v) ∧ y * v ≤ x * z + (q * v * z + c * z + c * v))
theorem prod_lt {a b m n k : Int} (ha : 0 ≤ a) (hb : 0 ≤ b) (h1 : a < m) (h2 : b < n) (hk : m * n = k) : 0 ≤ a * b ∧ a * b < k := by
  have e := Int.mul_le_mul (show a ≤ m - 1 by omega) (show b ≤ n - 1 by omega) hb (by omega)
  have e2 : (m - 1) * (n - 1) = m * n - m - n + 1 := by grind
  exact ⟨Int.mul_nonneg ha hb, by omega⟩
theorem prod20 {a b : Int} (ha : 0 ≤ a) (hb : 0 ≤ b) (h1 : a < 1048576) (h2 : b < 1048576) : 0 ≤ a * b ∧ a * b < 1099511627776 := prod_lt ha hb h1 h2 (by decide)
theorem prod40 {a b : Int} (ha : 0 ≤ a) (hb : 0 ≤ b) (h1 : a < 1099511627776) (h2 : b < 1048576) : 0 ≤ a * b ∧ a * b < 1152921504606846976 := prod_lt ha hb h1 h2 (by decide)
theorem wrap64_in {a : Int} (h0 : 0 ≤ a) (h1 : a < 18446744073709551616) : IntKind.u64.wrap a = a := by rw [IntKind.wrap_u64]; omega


theorem fracNear0 (x v y z q c : Int) (w : World) (k1 : ∀ W, Calls Try.prog 20 #[.int .u64 v, .int .u64 z] W (Same (.int .u64 0) W)) :
    Calls Try.prog 13 #[.int .u64 x, .int .u64 v, .int .u64 y, .int .u64 z, .int .u64 q, .int .u64 c] w (Same (.bool false) w) := by
  have K1 := Lib.hid k1; clear k1
  go_enter Try.func13, Try.ntmps13
  go_wp2_with (go_at_call 20; (with_reducible refine (K1.out _).mono ?_); rintro e w1 ⟨rfl, rfl⟩)
  go_ret
  exact ⟨rfl, rfl⟩
theorem fracNear1 (x v y z q c m M : Int) (w : World) (k1 : ∀ W, Calls Try.prog 20 #[.int .u64 v, .int .u64 z] W (Same (.int .u64 m) W)) (e0 : (m == 0) = false)
    (r : ∀ ts t P w, (Builtin.max_ ts t #[.int .u64 x, .int .u64 v, .int .u64 y, .int .u64 z, .int .u64 q, .int .u64 c]).run P w = .ok (.int .u64 M) w) (e1 : decide (1048576 ≤ M) = true) :
    Calls Try.prog 13 #[.int .u64 x, .int .u64 v, .int .u64 y, .int .u64 z, .int .u64 q, .int .u64 c] w (Same (.bool false) w) := by
  have K1 := Lib.hid k1; clear k1
  go_enter Try.func13, Try.ntmps13
  go_wp2_with (go_at_call 20; (with_reducible refine (K1.out _).mono ?_); rintro e w1 ⟨rfl, rfl⟩)
  go_ret
  exact ⟨rfl, rfl⟩
theorem fracNear2 (x v y z q c m M m2 L R Q A C D : Int) (w : World) (k1 : ∀ W, Calls Try.prog 20 #[.int .u64 v, .int .u64 z] W (Same (.int .u64 m) W)) (e0 : (m == 0) = false)
    (r : ∀ ts t P w, (Builtin.max_ ts t #[.int .u64 x, .int .u64 v, .int .u64 y, .int .u64 z, .int .u64 q, .int .u64 c]).run P w = .ok (.int .u64 M) w) (e1 : decide (1048576 ≤ M) = false)
    (k2 : ∀ W, Calls Try.prog 20 #[.int .u64 L, .int .u64 R] W (Same (.int .u64 m2) W))
    (w1 : IntKind.u64.wrap (x * z) = L) (w2 : IntKind.u64.wrap (y * v) = R) (w3 : IntKind.u64.wrap (q * v) = Q) (w4 : IntKind.u64.wrap (Q * z) = A) (w5 : IntKind.u64.wrap (c * z) = C) (w6 : IntKind.u64.wrap (c * v) = D)
    (p10 : 0 ≤ L) (p11 : L < 1099511627776) (p20 : 0 ≤ R) (p21 : R < 1099511627776) (p40 : 0 ≤ A) (p41 : A < 1152921504606846976) (p50 : 0 ≤ C) (p51 : C < 1099511627776) (p60 : 0 ≤ D) (p61 : D < 1099511627776)
    (hm0 : 0 ≤ m2) (hm1 : m2 < 1099511627776) (hd0 : 0 ≤ L + R - 2 * m2) :
    Calls Try.prog 13 #[.int .u64 x, .int .u64 v, .int .u64 y, .int .u64 z, .int .u64 q, .int .u64 c] w (Same (.bool (decide (L + R - 2 * m2 ≤ A + C + D))) w) := by
  have K1 := Lib.hid k1; clear k1
  have K2 := Lib.hid k2; clear k2
  go_enter Try.func13, Try.ntmps13
  go_wp2_with (first | (go_at_call 20; (with_reducible refine (K1.out _).mono ?_); rintro e w1 ⟨rfl, rfl⟩) | (go_at_call 20; (with_reducible refine (K2.out _).mono ?_); rintro e w1 ⟨rfl, rfl⟩))
  go_ret
  exact ⟨rfl, rfl⟩

set_option maxHeartbeats 1000000 in
theorem fracNearC (x v y z q c : Int) (h : Six x v y z q c) (w : World) :
    Calls Try.prog 13 #[.int .u64 x, .int .u64 v, .int .u64 y, .int .u64 z, .int .u64 q, .int .u64 c] w (Same (.bool (nearI x v y z q c)) w) := by
  obtain ⟨hx0, hv0, hy0, hz0, hq0, hc0⟩ := h
  have k1 := fun W => leastC v z W
  have r := fun ts t P w => run_max6 ts t P w x v y z q c
  have hg := (max6_ge x v y z q c 1048576).1
  have hl := max6_lt (a := x) (b := v) (c := y) (d := z) (e := q) (f := c) (n := 1048576)
  have hmin := minI_is v z
  generalize max6 x v y z q c = M at r hg hl
  generalize minI v z = m at k1 hmin
  by_cases h0 : v = 0 ∨ z = 0
  · have hn : nearI x v y z q c = false := by unfold nearI; rw [decide_eq_false_iff_not]; rintro ⟨_, _, _, _, _, _, a1, a2, _⟩; omega
    have e0 : m = 0 := by clear hg hl; omega
    subst e0
    rw [hn]
    exact fracNear0 x v y z q c w k1
  · have e0 : (m == 0) = false := by clear hg hl; simp; omega
    by_cases h1 : 1048576 ≤ M
    · have hn : nearI x v y z q c = false := by unfold nearI; rw [decide_eq_false_iff_not]; rintro ⟨a1, a2, a3, a4, a5, a6, _⟩; have := hg h1; omega
      rw [hn]
      exact fracNear1 x v y z q c m M w k1 e0 r (by simp; omega)
    · have e1 : decide (1048576 ≤ M) = false := by simp; omega
      obtain ⟨a1, a2, a3, a4, a5, a6⟩ := hl h1
      clear hg hl
      have p1 := prod20 hx0 hz0 (by omega) (by omega)
      have p2 := prod20 hy0 hv0 (by omega) (by omega)
      have p3 := prod20 hq0 hv0 (by omega) (by omega)
      have p4 := prod40 p3.1 hz0 p3.2 (by omega)
      have p5 := prod20 hc0 hz0 (by omega) (by omega)
      have p6 := prod20 hc0 hv0 (by omega) (by omega)
      have hn : nearI x v y z q c = decide (x * z ≤ y * v + (q * v * z + c * z + c * v) ∧ y * v ≤ x * z + (q * v * z + c * z + c * v)) := by
        unfold nearI
        rw [decide_eq_decide]
        constructor
        · rintro ⟨_, _, _, _, _, _, _, _, h⟩; exact h
        · intro h; clear hmin r k1; exact ⟨by omega, by omega, by omega, by omega, by omega, by omega, by omega, by omega, h⟩
      rw [hn]
      clear hn
      have w1 := wrap64_in p1.1 (by omega)
      have w2 := wrap64_in p2.1 (by omega)
      have w3 := wrap64_in p3.1 (by omega)
      have w4 := wrap64_in p4.1 (by omega)
      have w5 := wrap64_in p5.1 (by omega)
      have w6 := wrap64_in p6.1 (by omega)
      have k2 := fun W => leastC (x * z) (y * v) W
      have hmin2 := minI_is (x * z) (y * v)
      generalize minI (x * z) (y * v) = m2 at k2 hmin2
      have hr : decide (x * z ≤ y * v + (q * v * z + c * z + c * v) ∧ y * v ≤ x * z + (q * v * z + c * z + c * v)) = decide (x * z + y * v - 2 * m2 ≤ q * v * z + c * z + c * v) := by
        rw [decide_eq_decide]; omega
      rw [hr]
      exact fracNear2 x v y z q c m M m2 _ _ _ _ _ _ w k1 e0 r e1 k2 w1 w2 w3 w4 w5 w6 p1.1 p1.2 p2.1 p2.2 p4.1 p4.2 p5.1 p5.2 p6.1 p6.2 (by omega) (by omega) (by omega)
end Go.Proofs.Ytipljafpmpagjaa
