/-
  FracCompares walks.
-/
import Derived.Test.YtipljafpmpagjaaFracE
import Derived.Deep.QuietTactic
import Derived.BigQuiet
namespace Go.Proofs.Ytipljafpmpagjaa
open Go.RowKit
set_option linter.unusedVariables false

set_option maxHeartbeats 1000000 in
theorem fracCompares_at (a b c d s t : Int) (w : World)
    (k1 : ∀ W, Calls Try.prog 6 #[.int .u64 a, .int .u64 b, .int .u64 c, .int .u64 d] W (Same (.int .i64 s) W))
    (k2 : ∀ W, Calls Try.prog 7 #[.int .u64 a, .int .u64 b, .int .u64 c, .int .u64 d] W (Same (.int .i64 s) W))
    (k3 : ∀ W, Calls Try.prog 6 #[.int .u64 c, .int .u64 d, .int .u64 a, .int .u64 b] W (Same (.int .i64 t) W))
    (hs : (s = -1 ∧ t = 1) ∨ (s = 0 ∧ t = 0) ∨ (s = 1 ∧ t = -1)) :
    Calls Try.prog 3 #[.agg #[.int .u64 a, .int .u64 b, .int .u64 c, .int .u64 d]] w (Ret (.bool true) w) := by
  have k4 := fun W => liveOk W
  rcases hs with ⟨rfl, rfl⟩ | ⟨rfl, rfl⟩ | ⟨rfl, rfl⟩
  all_goals
    have K1 := Lib.hid k1
    have K2 := Lib.hid k2
    have K3 := Lib.hid k3
    have K4 := Lib.hid k4
    clear k1 k2 k3 k4
    go_enter Try.func3, Try.ntmps3
    go_wp2
    go_quiet ((first
      | (go_at_call 6; with_reducible exact Calls.quiet_of_same ((K1.out _).mono fun _ _ h => ⟨h.e, h.w.symm⟩))
      | (go_at_call 6; with_reducible exact Calls.quiet_of_same ((K3.out _).mono fun _ _ h => ⟨h.e, h.w.symm⟩))
      | (go_at_call 7; with_reducible exact Calls.quiet_of_same ((K2.out _).mono fun _ _ h => ⟨h.e, h.w.symm⟩))
      | (go_at_call 8; with_reducible exact Calls.quiet_of_same ((K4.out _).mono fun _ _ h => ⟨h.e, h.w.symm⟩))))
    go_wp2
    go_ret
    exact ⟨rfl, below_drewN ((Below.refl _ _).alloc (Nat.le_refl _) _) _⟩
theorem cmpI_turn (x y : Int) : (cmpI x y = -1 ∧ cmpI y x = 1) ∨ (cmpI x y = 0 ∧ cmpI y x = 0) ∨ (cmpI x y = 1 ∧ cmpI y x = -1) := by
  rcases Int.lt_trichotomy x y with h | rfl | h
  · exact Or.inl ⟨cmpI_lt h, cmpI_gt h⟩
  · exact Or.inr (Or.inl ⟨cmpI_eq _, cmpI_eq _⟩)
  · exact Or.inr (Or.inr ⟨cmpI_gt h, cmpI_lt h⟩)
theorem fracCompares_walk (a b c d : Int) (w : World) (w0 : (Lit.int .u64 a).wf = true) (w1 : (Lit.int .u64 b).wf = true) (w2 : (Lit.int .u64 c).wf = true) (w3 : (Lit.int .u64 d).wf = true) :
    Calls Try.prog 3 #[.agg #[.int .u64 a, .int .u64 b, .int .u64 c, .int .u64 d]] w (Ret (.bool true) w) := by
  have h0 := wf_u64 w0
  have h1 := wf_u64 w1
  have h2 := wf_u64 w2
  have h3 := wf_u64 w3
  obtain ⟨A, rfl⟩ := Int.eq_ofNat_of_zero_le h0.1
  obtain ⟨B, rfl⟩ := Int.eq_ofNat_of_zero_le h1.1
  obtain ⟨C, rfl⟩ := Int.eq_ofNat_of_zero_le h2.1
  obtain ⟨D, rfl⟩ := Int.eq_ofNat_of_zero_le h3.1
  refine fracCompares_at _ _ _ _ _ _ w (fracCompareC A B C D (by omega) (by omega) (by omega) (by omega)) (refCompareC A B C D (by omega) (by omega) (by omega) (by omega)) (fracCompareC C D A B (by omega) (by omega) (by omega) (by omega)) ?_
  rw [Nat.mul_comm C B, Nat.mul_comm D A]
  exact cmpI_turn _ _
end Go.Proofs.Ytipljafpmpagjaa
