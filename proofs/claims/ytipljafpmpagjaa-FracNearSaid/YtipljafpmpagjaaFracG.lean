/-
  FracNear walks.
-/
import Derived.Test.YtipljafpmpagjaaFracF
namespace Go.Proofs.Ytipljafpmpagjaa
open Go.RowKit
set_option linter.unusedVariables false

theorem nearI_true {x v y z q c : Int} (h : nearI x v y z q c = true) : (x < 1048576 ∧ v < 1048576 ∧ y < 1048576 ∧ z < 1048576 ∧ q < 1048576 ∧ c < 1048576) ∧ 0 < v ∧ 0 < z ∧ x * z ≤ y * v + (q * v * z + c * z + c * v) ∧ y * v ≤ x * z + (q * v * z + c * z + c * v) := by
  unfold nearI at h
  obtain ⟨a1, a2, a3, a4, a5, a6, h⟩ := of_decide_eq_true h
  exact ⟨⟨a1, a2, a3, a4, a5, a6⟩, h⟩
theorem nearI_turn (x v y z q c : Int) : nearI y z x v q c = nearI x v y z q c := by
  unfold nearI
  rw [decide_eq_decide, show q * z * v = q * v * z by grind]
  constructor
  · rintro ⟨a1, a2, a3, a4, a5, a6, a7, a8, a9, a10⟩
    exact ⟨a3, a4, a1, a2, a5, a6, a8, a7, by omega, by omega⟩
  · rintro ⟨a1, a2, a3, a4, a5, a6, a7, a8, a9, a10⟩
    exact ⟨a3, a4, a1, a2, a5, a6, a8, a7, by omega, by omega⟩
theorem nearI_more {x v y z q c : Int} (h : nearI x v y z q c = true) (hq : q < 1048575) : nearI x v y z (q + 1) c = true := by
  obtain ⟨⟨a1, a2, a3, a4, a5, a6⟩, a7, a8, a9, a10⟩ := nearI_true h
  unfold nearI
  rw [decide_eq_true_iff, show (q + 1) * v * z = q * v * z + v * z by grind]
  have := Int.mul_pos a7 a8
  exact ⟨a1, a2, a3, a4, by omega, a6, a7, a8, by omega, by omega⟩

set_option maxHeartbeats 1000000 in
theorem fracNear_at (a b c d q e : Int) (n : Bool) (w : World)
    (k1 : ∀ W, Calls Try.prog 13 #[.int .u64 a, .int .u64 b, .int .u64 c, .int .u64 d, .int .u64 q, .int .u64 e] W (Same (.bool n) W))
    (k2 : ∀ W, Calls Try.prog 14 #[.int .u64 a, .int .u64 b, .int .u64 c, .int .u64 d, .int .u64 q, .int .u64 e] W (Ret (.bool n) W))
    (k3 : ∀ W, Calls Try.prog 13 #[.int .u64 c, .int .u64 d, .int .u64 a, .int .u64 b, .int .u64 q, .int .u64 e] W (Same (.bool n) W))
    (k4 : n = true → q < 1048575 → ∀ W, Calls Try.prog 13 #[.int .u64 a, .int .u64 b, .int .u64 c, .int .u64 d, .int .u64 (q + 1), .int .u64 e] W (Same (.bool true) W))
    (hq : 0 ≤ q) :
    Calls Try.prog 5 #[.agg #[.int .u64 a, .int .u64 b, .int .u64 c, .int .u64 d], .int .u64 q, .int .u64 e] w (Ret (.bool true) w) := by
  have k5 := fun W => liveOk W
  cases n with
  | false =>
    have K1 := Lib.hid k1
    have K2 := Lib.hid k2
    have K3 := Lib.hid k3
    have K5 := Lib.hid k5
    clear k1 k2 k3 k4 k5
    go_enter Try.func5, Try.ntmps5
    go_wp2_with (first
      | (go_at_call 13; (with_reducible refine (K1.out _).mono ?_); rintro e w1 ⟨rfl, rfl⟩)
      | (go_at_call 13; (with_reducible refine (K3.out _).mono ?_); rintro e w1 ⟨rfl, rfl⟩)
      | (go_at_call 14; (with_reducible refine (K2.out _).mono ?_); rintro e w1 ⟨rfl, hbx⟩; obtain ⟨hc, hf⟩ := below_cells hbx w.heap.size (by simp))
      | (go_at_call 8; (with_reducible refine (K5.out _).mono ?_); rintro e w1 ⟨rfl, rfl⟩))
    go_ret
    exact ⟨rfl, ((Below.refl _ _).alloc (Nat.le_refl _) _).trans (hbx.mono (by simp))⟩
  | true =>
    by_cases h : q < 1048575
    · have k6 := k4 rfl h
      have hd : decide (1048575 ≤ q) = false := by simp; omega
      have K1 := Lib.hid k1
      have K2 := Lib.hid k2
      have K3 := Lib.hid k3
      have K5 := Lib.hid k5
      have K6 := Lib.hid k6
      clear k1 k2 k3 k4 k5 k6
      go_enter Try.func5, Try.ntmps5
      go_wp2_with (first
        | (go_at_call 13; (with_reducible refine (K1.out _).mono ?_); rintro e w1 ⟨rfl, rfl⟩)
        | (go_at_call 13; (with_reducible refine (K3.out _).mono ?_); rintro e w1 ⟨rfl, rfl⟩)
        | (go_at_call 13; (with_reducible refine (K6.out _).mono ?_); rintro e w1 ⟨rfl, rfl⟩)
        | (go_at_call 14; (with_reducible refine (K2.out _).mono ?_); rintro e w1 ⟨rfl, hbx⟩; obtain ⟨hc, hf⟩ := below_cells hbx w.heap.size (by simp))
        | (go_at_call 8; (with_reducible refine (K5.out _).mono ?_); rintro e w1 ⟨rfl, rfl⟩))
      go_ret
      exact ⟨rfl, ((Below.refl _ _).alloc (Nat.le_refl _) _).trans (hbx.mono (by simp))⟩
    · have hd : decide (1048575 ≤ q) = true := by simp; omega
      have K1 := Lib.hid k1
      have K2 := Lib.hid k2
      have K3 := Lib.hid k3
      have K5 := Lib.hid k5
      clear k1 k2 k3 k4 k5
      go_enter Try.func5, Try.ntmps5
      go_wp2_with (first
        | (go_at_call 13; (with_reducible refine (K1.out _).mono ?_); rintro e w1 ⟨rfl, rfl⟩)
        | (go_at_call 13; (with_reducible refine (K3.out _).mono ?_); rintro e w1 ⟨rfl, rfl⟩)
        | (go_at_call 14; (with_reducible refine (K2.out _).mono ?_); rintro e w1 ⟨rfl, hbx⟩; obtain ⟨hc, hf⟩ := below_cells hbx w.heap.size (by simp))
        | (go_at_call 8; (with_reducible refine (K5.out _).mono ?_); rintro e w1 ⟨rfl, rfl⟩))
      go_ret
      exact ⟨rfl, ((Below.refl _ _).alloc (Nat.le_refl _) _).trans (hbx.mono (by simp))⟩

theorem fracNear_walk (a b c d q e : Int) (w : World) (w0 : (Lit.int .u64 a).wf = true) (w1 : (Lit.int .u64 b).wf = true) (w2 : (Lit.int .u64 c).wf = true) (w3 : (Lit.int .u64 d).wf = true) (w4 : (Lit.int .u64 q).wf = true) (w5 : (Lit.int .u64 e).wf = true) :
    Calls Try.prog 5 #[.agg #[.int .u64 a, .int .u64 b, .int .u64 c, .int .u64 d], .int .u64 q, .int .u64 e] w (Ret (.bool true) w) := by
  have h0 := (wf_u64 w0).1
  have h1 := (wf_u64 w1).1
  have h2 := (wf_u64 w2).1
  have h3 := (wf_u64 w3).1
  have h4 := (wf_u64 w4).1
  have h5 := (wf_u64 w5).1
  refine fracNear_at a b c d q e (nearI a b c d q e) w (fracNearC a b c d q e ⟨h0, h1, h2, h3, h4, h5⟩) (refNearC a b c d q e ⟨h0, h1, h2, h3, h4, h5⟩) ?_ ?_ h4
  · intro W
    rw [← nearI_turn]
    exact fracNearC c d a b q e ⟨h2, h3, h0, h1, h4, h5⟩ W
  · intro hn hq W
    rw [← nearI_more hn hq]
    exact fracNearC a b c d (q + 1) e ⟨h0, h1, h2, h3, by omega, h5⟩ W
end Go.Proofs.Ytipljafpmpagjaa
