/-
  TickAdds and TickWaits walk.
-/
import Derived.Test.YtdjpedgfhdfghaaTickB
import Derived.Deep.QuietTactic
import Derived.BigQuiet
namespace Go.Proofs.Ytdjpedgfhdfghaa
open Go.RowKit
set_option linter.unusedVariables false

theorem liveOk (w : World) : Calls Try.prog 9 #[] w (Same (.bool true) w) := by
  have c1 : ∀ W, Calls Try.prog 10 #[.int .i64 3, .int .i64 20, .int .i64 1] W (Same (.int .i64 3) W) := fun W => by
    have h := waitC 3 20 1 (by omega) (by omega) W
    rw [show Tk.wait 3 20 1 = 3 by decide] at h
    exact h
  have c2 : ∀ W, Calls Try.prog 10 #[.int .i64 3, .int .i64 20, .int .i64 4] W (Same (.int .i64 20) W) := fun W => by
    have h := waitC 3 20 4 (by omega) (by omega) W
    rw [show Tk.wait 3 20 4 = 20 by decide] at h
    exact h
  have c3 : ∀ W, Calls Try.prog 12 #[.int .i64 3, .int .i64 20] W (Same (.int .i64 4) W) := fun W =>
    roundsC1 3 20 (by omega) (by omega) (by omega) 4 ⟨by omega, by omega, by decide, fun j hj => by
      rcases (show j = 0 ∨ j = 1 ∨ j = 2 by omega) with rfl | rfl | rfl <;> decide⟩ W
  have c4 : ∀ W, Calls Try.prog 5 #[.int .u64 18446744073709551614, .int .i64 5] W (Same (.int .u64 18446744073709551615) W) := fun W => by
    have h := addC 18446744073709551614 5 (by omega) (by omega) (by omega) W
    rw [show addI 18446744073709551614 5 = 18446744073709551615 by unfold addI; decide] at h
    exact h
  have C1 := Lib.hid c1; clear c1
  have C2 := Lib.hid c2; clear c2
  have C3 := Lib.hid c3; clear c3
  have C4 := Lib.hid c4; clear c4
  go_enter Try.func9, Try.ntmps9
  go_wp2_with (first | (go_at_call 10; (with_reducible refine (C1.out _).mono ?_); rintro e w1 ⟨rfl, rfl⟩) | (go_at_call 10; (with_reducible refine (C2.out _).mono ?_); rintro e w1 ⟨rfl, rfl⟩) | (go_at_call 12; (with_reducible refine (C3.out _).mono ?_); rintro e w1 ⟨rfl, rfl⟩) | (go_at_call 5; (with_reducible refine (C4.out _).mono ?_); rintro e w1 ⟨rfl, rfl⟩))
  go_ret
  exact ⟨rfl, rfl⟩

def max0 (n : Int) : Int := if 0 > n then 0 else n
theorem run_max0 (ts : Array TypeId) (t : TypeId) (P : Program) (w : World) (a : Int) :
    (Builtin.max_ ts t #[.int .i64 a, .int .i64 0]).run P w = .ok (.int .i64 (max0 a)) w := by
  unfold max0
  simp [Builtin.max_, Builtin.max2]
theorem tickAdds_at (a n b X L D M : Int) (w : World)
    (k1 : ∀ W, Calls Try.prog 5 #[.int .u64 a, .int .i64 n] W (Same (.int .u64 X) W))
    (k2 : ∀ W, Calls Try.prog 6 #[.int .u64 a, .int .i64 n] W (Same (.int .u64 X) W))
    (k3 : ∀ W, Calls Try.prog 7 #[.int .u64 a, .int .u64 b] W (Same (.int .u64 L) W))
    (k4 : ∀ W, Calls Try.prog 8 #[.int .u64 a, .int .u64 b] W (Same (.int .u64 L) W))
    (k5 : ∀ W, Calls Try.prog 7 #[.int .u64 a, .int .u64 X] W (Same (.int .u64 D) W))
    (r : ∀ ts t P w, (Builtin.max_ ts t #[.int .i64 n, .int .i64 0]).run P w = .ok (.int .i64 M) w)
    (hX : a ≤ X) (hD : D ≤ M) (hM0 : 0 ≤ M) (hM : M ≤ 9223372036854775807) :
    Calls Try.prog 3 #[.int .u64 a, .int .i64 n, .int .u64 b] w (Ret (.bool true) w) := by
  have k6 := fun W => liveOk W
  have K1 := Lib.hid k1
  have K2 := Lib.hid k2
  have K3 := Lib.hid k3
  have K4 := Lib.hid k4
  have K5 := Lib.hid k5
  have K6 := Lib.hid k6
  clear k1 k2 k3 k4 k5 k6
  go_enter Try.func3, Try.ntmps3
  go_wp2_with (first
    | (go_at_call 5; (with_reducible refine (K1.out _).mono ?_); rintro e w1 ⟨rfl, rfl⟩)
    | (go_at_call 6; (with_reducible refine (K2.out _).mono ?_); rintro e w1 ⟨rfl, rfl⟩)
    | (go_at_call 7; (with_reducible refine (K3.out _).mono ?_); rintro e w1 ⟨rfl, rfl⟩)
    | (go_at_call 7; (with_reducible refine (K5.out _).mono ?_); rintro e w1 ⟨rfl, rfl⟩)
    | (go_at_call 8; (with_reducible refine (K4.out _).mono ?_); rintro e w1 ⟨rfl, rfl⟩)
    | (go_at_call 9; (with_reducible refine (K6.out _).mono ?_); rintro e w1 ⟨rfl, rfl⟩))
  go_ret
  exact ⟨rfl, Below.refl _ _⟩
theorem tickAdds_walk (a n b : Int) (w : World) (w0 : (Lit.int .u64 a).wf = true) (w1 : (Lit.int .i64 n).wf = true) (w2 : (Lit.int .u64 b).wf = true) :
    Calls Try.prog 3 #[.int .u64 a, .int .i64 n, .int .u64 b] w (Ret (.bool true) w) := by
  have h0 := wf_u64 w0
  have h1 := wf_i64 w1
  have h2 := wf_u64 w2
  have hx : 0 ≤ addI a n ∧ addI a n < 18446744073709551616 ∧ a ≤ addI a n ∧ leftI a (addI a n) ≤ max0 n := by
    unfold leftI addI max0
    refine ⟨?_, ?_, ?_, ?_⟩ <;> repeat' split
    all_goals omega
  exact tickAdds_at a n b _ _ _ _ w (addC a n h0.1 h0.2 h1.2) (refAddC a n h0.1 h0.2 h1.2) (leftC a b h0.1 h0.2 h2.1 h2.2) (refLeftC a b h0.1 h0.2 h2.1 h2.2) (leftC a _ h0.1 h0.2 hx.1 hx.2.1) (fun ts t P w => run_max0 ts t P w n) hx.2.2.1 hx.2.2.2 (by unfold max0; split <;> omega) (by unfold max0; split <;> omega)

theorem tickWaits_no (b m n X Z : Int) (w : World)
    (k1 : ∀ W, Calls Try.prog 10 #[.int .i64 b, .int .i64 m, .int .i64 n] W (Same (.int .i64 X) W))
    (k2 : ∀ W, Calls Try.prog 11 #[.int .i64 b, .int .i64 m, .int .i64 n] W (Same (.int .i64 X) W))
    (k3 : ∀ W, Calls Try.prog 12 #[.int .i64 b, .int .i64 m] W (Same (.int .i64 Z) W))
    (k4 : ∀ W, Calls Try.prog 13 #[.int .i64 b, .int .i64 m] W (Same (.int .i64 Z) W))
    (h : n < 1 ∨ 1000 < n) :
    Calls Try.prog 4 #[.int .i64 b, .int .i64 m, .int .i64 n] w (Ret (.bool true) w) := by
  have k6 := fun W => liveOk W
  have K1 := Lib.hid k1
  have K2 := Lib.hid k2
  have K3 := Lib.hid k3
  have K4 := Lib.hid k4
  have K6 := Lib.hid k6
  clear k1 k2 k3 k4 k6
  rcases h with h | h
  all_goals
    go_enter Try.func4, Try.ntmps4
    go_wp2_with (first
      | (go_at_call 10; (with_reducible refine (K1.out _).mono ?_); rintro e w1 ⟨rfl, rfl⟩)
      | (go_at_call 11; (with_reducible refine (K2.out _).mono ?_); rintro e w1 ⟨rfl, rfl⟩)
      | (go_at_call 12; (with_reducible refine (K3.out _).mono ?_); rintro e w1 ⟨rfl, rfl⟩)
      | (go_at_call 13; (with_reducible refine (K4.out _).mono ?_); rintro e w1 ⟨rfl, rfl⟩)
      | (go_at_call 9; (with_reducible refine (K6.out _).mono ?_); rintro e w1 ⟨rfl, rfl⟩))
    go_ret
    exact ⟨rfl, Below.refl _ _⟩
theorem tickWaits_yes (b m n X Y Z : Int) (w : World)
    (k1 : ∀ W, Calls Try.prog 10 #[.int .i64 b, .int .i64 m, .int .i64 n] W (Same (.int .i64 X) W))
    (k2 : ∀ W, Calls Try.prog 11 #[.int .i64 b, .int .i64 m, .int .i64 n] W (Same (.int .i64 X) W))
    (k3 : ∀ W, Calls Try.prog 12 #[.int .i64 b, .int .i64 m] W (Same (.int .i64 Z) W))
    (k4 : ∀ W, Calls Try.prog 13 #[.int .i64 b, .int .i64 m] W (Same (.int .i64 Z) W))
    (k5 : ∀ W, Calls Try.prog 10 #[.int .i64 b, .int .i64 m, .int .i64 (n + 1)] W (Same (.int .i64 Y) W))
    (h1 : 1 ≤ n) (h2 : n ≤ 1000) (hX : 0 ≤ X) (hXY : X ≤ Y) (hY : Y - X ≤ X) (hY2 : Y ≤ 9223372036854775807) (hm : b < 1 ∨ m < 1 ∨ (1 ≤ b ∧ 1 ≤ m ∧ X ≤ m)) :
    Calls Try.prog 4 #[.int .i64 b, .int .i64 m, .int .i64 n] w (Ret (.bool true) w) := by
  have k6 := fun W => liveOk W
  have K1 := Lib.hid k1
  have K2 := Lib.hid k2
  have K3 := Lib.hid k3
  have K4 := Lib.hid k4
  have K5 := Lib.hid k5
  have K6 := Lib.hid k6
  clear k1 k2 k3 k4 k5 k6
  by_cases hb : b < 1
  · clear hm
    go_enter Try.func4, Try.ntmps4
    go_wp2_with (first
      | (go_at_call 10; (with_reducible refine (K1.out _).mono ?_); rintro e w1 ⟨rfl, rfl⟩)
      | (go_at_call 10; (with_reducible refine (K5.out _).mono ?_); rintro e w1 ⟨rfl, rfl⟩)
      | (go_at_call 11; (with_reducible refine (K2.out _).mono ?_); rintro e w1 ⟨rfl, rfl⟩)
      | (go_at_call 12; (with_reducible refine (K3.out _).mono ?_); rintro e w1 ⟨rfl, rfl⟩)
      | (go_at_call 13; (with_reducible refine (K4.out _).mono ?_); rintro e w1 ⟨rfl, rfl⟩)
      | (go_at_call 9; (with_reducible refine (K6.out _).mono ?_); rintro e w1 ⟨rfl, rfl⟩))
    go_ret
    exact ⟨rfl, Below.refl _ _⟩
  · by_cases hm1 : m < 1
    · clear hm
      go_enter Try.func4, Try.ntmps4
      go_wp2_with (first
        | (go_at_call 10; (with_reducible refine (K1.out _).mono ?_); rintro e w1 ⟨rfl, rfl⟩)
        | (go_at_call 10; (with_reducible refine (K5.out _).mono ?_); rintro e w1 ⟨rfl, rfl⟩)
        | (go_at_call 11; (with_reducible refine (K2.out _).mono ?_); rintro e w1 ⟨rfl, rfl⟩)
        | (go_at_call 12; (with_reducible refine (K3.out _).mono ?_); rintro e w1 ⟨rfl, rfl⟩)
        | (go_at_call 13; (with_reducible refine (K4.out _).mono ?_); rintro e w1 ⟨rfl, rfl⟩)
        | (go_at_call 9; (with_reducible refine (K6.out _).mono ?_); rintro e w1 ⟨rfl, rfl⟩))
      go_ret
      exact ⟨rfl, Below.refl _ _⟩
    · have hx : X ≤ m := by omega
      clear hm
      go_enter Try.func4, Try.ntmps4
      go_wp2_with (first
        | (go_at_call 10; (with_reducible refine (K1.out _).mono ?_); rintro e w1 ⟨rfl, rfl⟩)
        | (go_at_call 10; (with_reducible refine (K5.out _).mono ?_); rintro e w1 ⟨rfl, rfl⟩)
        | (go_at_call 11; (with_reducible refine (K2.out _).mono ?_); rintro e w1 ⟨rfl, rfl⟩)
        | (go_at_call 12; (with_reducible refine (K3.out _).mono ?_); rintro e w1 ⟨rfl, rfl⟩)
        | (go_at_call 13; (with_reducible refine (K4.out _).mono ?_); rintro e w1 ⟨rfl, rfl⟩)
        | (go_at_call 9; (with_reducible refine (K6.out _).mono ?_); rintro e w1 ⟨rfl, rfl⟩))
      go_ret
      exact ⟨rfl, Below.refl _ _⟩
theorem tickWaits_walk (b m n : Int) (w : World) (w0 : (Lit.int .i64 b).wf = true) (w1 : (Lit.int .i64 m).wf = true) (w2 : (Lit.int .i64 n).wf = true) :
    Calls Try.prog 4 #[.int .i64 b, .int .i64 m, .int .i64 n] w (Ret (.bool true) w) := by
  have h0 := wf_i64 w0
  have h1 := wf_i64 w1
  have h2 := wf_i64 w2
  have hz : ∃ Z, (∀ W, Calls Try.prog 12 #[.int .i64 b, .int .i64 m] W (Same (.int .i64 Z) W)) ∧ (∀ W, Calls Try.prog 13 #[.int .i64 b, .int .i64 m] W (Same (.int .i64 Z) W)) := by
    by_cases h : b < 1 ∨ m < 1
    · exact ⟨0, roundsC0 b m h, refRoundsC0 b m h⟩
    · obtain ⟨r, hr⟩ := Tk.rounds_is (b := b) (m := m) (by omega) (by omega) h1.2
      exact ⟨r, roundsC1 b m (by omega) (by omega) h1.2 r hr, refRoundsC1 b m (by omega) h0.2 (by omega) h1.2 r hr⟩
  obtain ⟨Z, k3, k4⟩ := hz
  by_cases h : n < 1 ∨ 1000 < n
  · exact tickWaits_no b m n _ Z w (waitC b m n h2.2 h1.2) (refWaitC b m n h2.2 h0.2 h1.2) k3 k4 h
  · have hx : 0 ≤ Tk.wait b m n ∧ Tk.wait b m n ≤ Tk.wait b m (n + 1) ∧ Tk.wait b m (n + 1) - Tk.wait b m n ≤ Tk.wait b m n ∧ Tk.wait b m (n + 1) ≤ 9223372036854775807 ∧ (b < 1 ∨ m < 1 ∨ (1 ≤ b ∧ 1 ≤ m ∧ Tk.wait b m n ≤ m)) := by
      by_cases hb : b < 1 ∨ m < 1
      · rw [Tk.wait_no (by omega), Tk.wait_no (by omega)]; omega
      · have e1 := Tk.wait_at (b := b) (m := m) (by omega) (by omega) (n - 1).toNat
        have e2 := Tk.wait_at (b := b) (m := m) (by omega) (by omega) ((n - 1).toNat + 1)
        rw [show (((n - 1).toNat + 1 : Nat) : Int) = n by omega] at e1
        rw [show (((n - 1).toNat + 1 + 1 : Nat) : Int) = n + 1 by omega] at e2
        rw [e1, e2]
        have s1 := Tk.dub_in (b := b) (m := m) (by omega) (by omega) (n - 1).toNat
        have s2 := Tk.dub_step (b := b) (m := m) (by omega) (by omega) (n - 1).toNat
        have s3 := Tk.dub_in (b := b) (m := m) (by omega) (by omega) ((n - 1).toNat + 1)
        omega
    exact tickWaits_yes b m n _ _ Z w (waitC b m n h2.2 h1.2) (refWaitC b m n h2.2 h0.2 h1.2) k3 k4 (waitC b m (n + 1) (by omega) h1.2) (by omega) (by omega) hx.1 hx.2.1 hx.2.2.1 hx.2.2.2.1 hx.2.2.2.2
end Go.Proofs.Ytdjpedgfhdfghaa
