/-
  What tick.Wait, tick.Rounds and the document's own return.
-/
import Derived.Test.YtdjpedgfhdfghaaTickA
namespace Go.Proofs.Ytdjpedgfhdfghaa
open Go.RowKit
set_option linter.unusedVariables false

@[irreducible] def min2 (x y : Int) : Int := if y < x then y else x
theorem run_min2 (ts : Array TypeId) (t : TypeId) (P : Program) (w : World) (a b : Int) :
    (Builtin.min_ ts t #[.int .i64 a, .int .i64 b]).run P w = .ok (.int .i64 (min2 a b)) w := by
  unfold min2
  simp [Builtin.min_, Builtin.min2]
theorem run_min3 (ts : Array TypeId) (t : TypeId) (P : Program) (w : World) (a b c : Int) :
    (Builtin.min_ ts t #[.int .i64 a, .int .i64 b, .int .i64 c]).run P w = .ok (.int .i64 (min2 (min2 a b) c)) w := by
  unfold min2
  simp [Builtin.min_, Builtin.min2]
theorem min2_lt (a b n : Int) : min2 a b < n ↔ a < n ∨ b < n := by unfold min2; split <;> omega
theorem min2_dub (b m : Int) : min2 b m = Tk.dub b m 0 := by unfold min2 Tk.dub; split <;> split <;> omega

theorem waitC0 (b m n : Int) (h : n < 1 ∨ b < 1 ∨ m < 1) (w : World) :
    Calls Try.prog 10 #[.int .i64 b, .int .i64 m, .int .i64 n] w (Same (.int .i64 0) w) := by
  have r := fun ts t P w => run_min3 ts t P w b m n
  have h1 : decide (min2 (min2 b m) n < 1) = true := by rw [decide_eq_true_iff, min2_lt, min2_lt]; omega
  generalize min2 (min2 b m) n = M at r h1
  clear h
  go_enter Try.func10, Try.ntmps10
  go_wp2
  go_ret
  exact ⟨rfl, rfl⟩
theorem waitC1 (b m n : Int) (hn : 1 ≤ n) (hn2 : n ≤ 9223372036854775807) (hb : 1 ≤ b) (hm : 1 ≤ m) (hm2 : m ≤ 9223372036854775807) (R : Int) (hR : Tk.dub b m (n - 1).toNat = R) (w : World) :
    Calls Try.prog 10 #[.int .i64 b, .int .i64 m, .int .i64 n] w (Same (.int .i64 R) w) := by
  have HR := Lib.hid hR; clear hR
  have r3 := fun ts t P w => run_min3 ts t P w b m n
  have r2 := fun ts t P w => run_min2 ts t P w b m
  have h1 : decide (min2 (min2 b m) n < 1) = false := by rw [decide_eq_false_iff_not, min2_lt, min2_lt]; omega
  rw [min2_dub] at r2
  have hd0 := Tk.dub_in hb hm 0
  generalize hM : min2 (min2 b m) n = M at r3 h1
  clear hM
  go_enter Try.func10, Try.ntmps10
  go_wp2
  go_loop [7, 18] (fun d i => ∃ k : Nat, (k : Int) ≤ n - 1 ∧ i = .int .i64 k ∧ d = .int .i64 (Tk.dub b m k)) (fun _ i => (n - intOf i).toNat)
  case atStart => exact ⟨0, by omega, rfl, rfl⟩
  case round =>
    obtain ⟨k, hk, rfl, rfl⟩ := hrel
    have hd := Tk.dub_in hb hm k
    by_cases hlt : (k : Int) < n - 1
    · by_cases hhi : Tk.dub b m k > m / 2
      · have E := Lib.hid (Tk.dub_top' hb hm (Tk.dub_hi hhi) (show k + 1 ≤ (n - 1).toNat by omega))
        go_wp2
        go_ret
        exact ⟨by rw [← HR.out, E.out]; rfl, rfl⟩
      · have E := Lib.hid (Tk.dub_lo hhi)
        go_wp2
        go_round
        case rel => exact ⟨k + 1, by omega, by go_num, by rw [E.out]⟩
        case measure => simp [intOf]; omega
    · have E : Hid ((n - 1).toNat = k) := Lib.hid (by omega)
      go_wp2
      go_ret
      exact ⟨by rw [← HR.out, E.out]; rfl, rfl⟩
theorem refWaitC0 (b m n : Int) (h : n < 1 ∨ b < 1 ∨ m < 1) (w : World) :
    Calls Try.prog 11 #[.int .i64 b, .int .i64 m, .int .i64 n] w (Same (.int .i64 0) w) := by
  by_cases h1 : n < 1
  · go_enter Try.func11, Try.ntmps11
    go_wp2
    go_ret
    exact ⟨rfl, rfl⟩
  · by_cases h2 : b < 1
    · go_enter Try.func11, Try.ntmps11
      go_wp2
      go_ret
      exact ⟨rfl, rfl⟩
    · have h3 : m < 1 := by omega
      clear h
      go_enter Try.func11, Try.ntmps11
      go_wp2
      go_ret
      exact ⟨rfl, rfl⟩
theorem min2_le {a b : Int} (h : b ≤ a) : min2 a b = b := by unfold min2; split <;> omega
theorem min2_lt' {a b : Int} (h : a < b) : min2 a b = a := by unfold min2; split <;> omega
set_option maxHeartbeats 600000 in
theorem refWaitC1 (b m n : Int) (hn : 1 ≤ n) (hn2 : n ≤ 9223372036854775807) (hb : 1 ≤ b) (hb2 : b ≤ 9223372036854775807) (hm : 1 ≤ m) (hm2 : m ≤ 9223372036854775807) (R : Int) (hR : Tk.dub b m (n - 1).toNat = R) (w : World) :
    Calls Try.prog 11 #[.int .i64 b, .int .i64 m, .int .i64 n] w (Same (.int .i64 R) w) := by
  have HR := Lib.hid hR; clear hR
  have r2 := fun ts t P w x => run_min2 ts t P w x m
  have hd0 := Tk.dub_in hb hm 0
  have D0 := Lib.hid (min2_dub b m)
  go_enter Try.func11, Try.ntmps11
  go_wp2
  go_loop [7, 8] (fun d i => ∃ (k : Nat) (x : Int), (k : Int) + 1 ≤ n ∧ 1 ≤ x ∧ x ≤ 9223372036854775807 ∧ min2 x m = Tk.dub b m k ∧ i = .int .i64 (k + 1) ∧ d = .int .i64 x) (fun _ i => (n - intOf i).toNat)
  case atStart => exact ⟨0, b, by omega, by omega, by omega, D0.out, rfl, rfl⟩
  case round =>
    obtain ⟨k, x, hk, hx, hx2, hmin, rfl, rfl⟩ := hrel
    have HM := Lib.hid hmin; clear hmin
    have hd := Tk.dub_in hb hm k
    by_cases hlt : x < m
    · have ex := Lib.hid ((min2_lt' hlt).symm.trans HM.out)
      by_cases hkn : (k : Int) + 1 < n
      · by_cases hhi : x > m / 2
        · have E := Lib.hid (Tk.dub_hi (b := b) (k := k) (by rw [← ex.out]; exact hhi))
          go_wp2
          go_round
          case rel => exact ⟨k + 1, m, by omega, by omega, by omega, by rw [E.out, min2_le (Int.le_refl _)], by go_num, rfl⟩
          case measure => simp [intOf]; omega
        · have E := Lib.hid (Tk.dub_lo (b := b) (k := k) (by rw [← ex.out]; exact hhi))
          go_wp2
          go_round
          case rel => exact ⟨k + 1, 2 * x, by omega, by omega, by omega, by rw [E.out, ← ex.out]; unfold min2; split <;> omega, by go_num, rfl⟩
          case measure => simp [intOf]; omega
      · have E : Hid ((n - 1).toNat = k) := Lib.hid (by omega)
        go_wp2
        go_ret
        exact ⟨by rw [← HR.out, E.out, ← HM.out]; rfl, rfl⟩
    · have E := Lib.hid (Tk.dub_top' hb hm ((min2_le (show m ≤ x by omega)).symm.trans HM.out).symm (show k ≤ (n - 1).toNat by omega))
      have E2 := Lib.hid (min2_le (show m ≤ x by omega))
      go_wp2
      go_ret
      exact ⟨show Ending.returned (.int .i64 (min2 x m)) = .returned (.int .i64 R) from by rw [E2.out, ← HR.out, E.out], rfl⟩

theorem waitC (b m n : Int) (hn2 : n ≤ 9223372036854775807) (hm2 : m ≤ 9223372036854775807) (w : World) :
    Calls Try.prog 10 #[.int .i64 b, .int .i64 m, .int .i64 n] w (Same (.int .i64 (Tk.wait b m n)) w) := by
  by_cases h : n < 1 ∨ b < 1 ∨ m < 1
  · rw [Tk.wait_no h]; exact waitC0 b m n h w
  · exact waitC1 b m n (by omega) hn2 (by omega) (by omega) hm2 _ (by unfold Tk.wait; rw [if_neg h]) w
theorem refWaitC (b m n : Int) (hn2 : n ≤ 9223372036854775807) (hb2 : b ≤ 9223372036854775807) (hm2 : m ≤ 9223372036854775807) (w : World) :
    Calls Try.prog 11 #[.int .i64 b, .int .i64 m, .int .i64 n] w (Same (.int .i64 (Tk.wait b m n)) w) := by
  by_cases h : n < 1 ∨ b < 1 ∨ m < 1
  · rw [Tk.wait_no h]; exact refWaitC0 b m n h w
  · exact refWaitC1 b m n (by omega) hn2 (by omega) hb2 (by omega) hm2 _ (by unfold Tk.wait; rw [if_neg h]) w
theorem roundsC0 (b m : Int) (h : b < 1 ∨ m < 1) (w : World) :
    Calls Try.prog 12 #[.int .i64 b, .int .i64 m] w (Same (.int .i64 0) w) := by
  have r := fun ts t P w => run_min2 ts t P w b m
  have h1 : decide (min2 b m < 1) = true := by rw [decide_eq_true_iff, min2_lt]; omega
  generalize min2 b m = M at r h1
  clear h
  go_enter Try.func12, Try.ntmps12
  go_wp2
  go_ret
  exact ⟨rfl, rfl⟩
theorem roundsC1 (b m : Int) (hb : 1 ≤ b) (hm : 1 ≤ m) (hm2 : m ≤ 9223372036854775807) (r : Nat) (hr : Tk.IsRounds b m r) (w : World) :
    Calls Try.prog 12 #[.int .i64 b, .int .i64 m] w (Same (.int .i64 r) w) := by
  have r2 := fun ts t P w => run_min2 ts t P w b m
  have h1 : decide (min2 b m < 1) = false := by rw [decide_eq_false_iff_not, min2_lt]; omega
  have HR := Lib.hid hr; clear hr
  generalize min2 b m = M at r2 h1
  go_enter Try.func12, Try.ntmps12
  go_wp2
  go_loop [10] (fun i => ∃ k : Nat, k ≤ 64 ∧ k ≤ r ∧ i = .int .i64 k) (fun i => (64 - intOf i).toNat)
  case atStart => exact ⟨0, by omega, by omega, rfl⟩
  case round =>
    obtain ⟨k, hk, hkr, rfl⟩ := hrel
    by_cases hlt : k < 64
    · by_cases he : k = r
      · have c : ∀ W, Calls Try.prog 10 #[.int .i64 b, .int .i64 m, .int .i64 k] W (Same (.int .i64 m) W) := fun W => by
          have h := waitC b m k (by omega) hm2 W
          obtain ⟨a1, a2, a3, a4⟩ := HR.out
          have e : Tk.wait b m k = m := by
            have := Tk.wait_at hb hm (r - 1)
            rw [show ((r - 1 + 1 : Nat) : Int) = k by omega] at this
            rw [this, a3]
          rw [e] at h; exact h
        have E : Hid (k = r) := Lib.hid he
        clear he
        have C := Lib.hid c; clear c
        go_wp2_with (go_at_call 10; (with_reducible refine (C.out _).mono ?_); rintro e w1 ⟨rfl, rfl⟩)
        go_ret
        exact ⟨by rw [← E.out]; rfl, rfl⟩
      · have hv : Tk.wait b m k < m := by
          rcases Nat.eq_zero_or_pos k with rfl | hk0
          · rw [Tk.wait_no (by omega)]; omega
          · have := Tk.wait_at hb hm (k - 1)
            rw [show ((k - 1 + 1 : Nat) : Int) = k by omega] at this
            rw [this]
            exact HR.out.2.2.2 (k - 1) (by omega)
        have c := fun W => waitC b m k (by omega) hm2 W
        generalize Tk.wait b m k = v at hv c
        have C := Lib.hid c; clear c
        go_wp2_with (go_at_call 10; (with_reducible refine (C.out _).mono ?_); rintro e w1 ⟨rfl, rfl⟩)
        go_round
        case rel => exact ⟨k + 1, by omega, by omega, by go_num⟩
        case measure => simp [intOf]; omega
    · have E : Hid (r = 64) := Lib.hid (by have := HR.out.2.1; omega)
      go_wp2
      go_ret
      exact ⟨by rw [E.out]; rfl, rfl⟩
theorem refRoundsC0 (b m : Int) (h : b < 1 ∨ m < 1) (w : World) :
    Calls Try.prog 13 #[.int .i64 b, .int .i64 m] w (Same (.int .i64 0) w) := by
  by_cases h2 : b < 1
  · go_enter Try.func13, Try.ntmps13
    go_wp2
    go_ret
    exact ⟨rfl, rfl⟩
  · have h3 : m < 1 := by omega
    clear h
    go_enter Try.func13, Try.ntmps13
    go_wp2
    go_ret
    exact ⟨rfl, rfl⟩
theorem refRoundsC1 (b m : Int) (hb : 1 ≤ b) (hb2 : b ≤ 9223372036854775807) (hm : 1 ≤ m) (hm2 : m ≤ 9223372036854775807) (r : Nat) (hr : Tk.IsRounds b m r) (w : World) :
    Calls Try.prog 13 #[.int .i64 b, .int .i64 m] w (Same (.int .i64 r) w) := by
  have HR := Lib.hid hr; clear hr
  go_enter Try.func13, Try.ntmps13
  go_wp2
  go_loop [5] (fun i => ∃ k : Nat, k ≤ 64 ∧ 1 ≤ k ∧ k ≤ r ∧ i = .int .i64 k) (fun i => (64 - intOf i).toNat)
  case atStart => exact ⟨1, by omega, by omega, HR.out.1, rfl⟩
  case round =>
    obtain ⟨k, hk, hk1, hkr, rfl⟩ := hrel
    by_cases he : k = r
    · have c : ∀ W, Calls Try.prog 11 #[.int .i64 b, .int .i64 m, .int .i64 k] W (Same (.int .i64 m) W) := fun W => by
        have h := refWaitC b m k (by omega) hb2 hm2 W
        obtain ⟨a1, a2, a3, a4⟩ := HR.out
        have e : Tk.wait b m k = m := by
          have := Tk.wait_at hb hm (r - 1)
          rw [show ((r - 1 + 1 : Nat) : Int) = k by omega] at this
          rw [this, a3]
        rw [e] at h; exact h
      have E : Hid (k = r) := Lib.hid he
      clear he
      have C := Lib.hid c; clear c
      go_wp2_with (go_at_call 11; (with_reducible refine (C.out _).mono ?_); rintro e w1 ⟨rfl, rfl⟩)
      go_ret
      exact ⟨by rw [← E.out]; rfl, rfl⟩
    · have hv : Tk.wait b m k < m := by
        have := Tk.wait_at hb hm (k - 1)
        rw [show ((k - 1 + 1 : Nat) : Int) = k by omega] at this
        rw [this]
        exact HR.out.2.2.2 (k - 1) (by omega)
      have hk64 : k < 64 := by have := HR.out.2.1; omega
      have c := fun W => refWaitC b m k (by omega) hb2 hm2 W
      generalize Tk.wait b m k = v at hv c
      have C := Lib.hid c; clear c
      go_wp2_with (go_at_call 11; (with_reducible refine (C.out _).mono ?_); rintro e w1 ⟨rfl, rfl⟩)
      go_round
      case rel => exact ⟨k + 1, by omega, by omega, by omega, by go_num⟩
      case measure => simp [intOf]; omega
end Go.Proofs.Ytdjpedgfhdfghaa
