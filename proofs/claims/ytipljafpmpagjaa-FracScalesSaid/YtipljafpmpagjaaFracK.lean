/-
  The document's Scale; FracScales walks.
-/
import Derived.Test.YtipljafpmpagjaaFracJ
namespace Go.Proofs.Ytipljafpmpagjaa
open Go.RowKit
set_option linter.unusedVariables false

theorem below_scale {n c a b : Nat} (hc : 0 < c) (hn : n < 18446744073709551616) : belowB n c a b = decide (n ≤ scaleN a b c) := by
  unfold belowB scaleN
  rw [if_neg (by omega), decide_eq_decide, ← Nat.le_div_iff_mul_le hc]
  omega

theorem bit_room {Q i : Nat} (hi : i ≤ 63) (hQ : Q < 18446744073709551616) : Q / 2 ^ (i + 1) * 2 ^ (i + 1) + 2 ^ i < 18446744073709551616 := by
  have e : 2 ^ (63 - i) * 2 ^ (i + 1) = 18446744073709551616 := by rw [← Nat.pow_add, show 63 - i + (i + 1) = 64 by omega]
  have h : Q / 2 ^ (i + 1) < 2 ^ (63 - i) := by
    rw [Nat.div_lt_iff_lt_mul (Nat.two_pow_pos _), e]; exact hQ
  have h2 := Nat.mul_le_mul_right (2 ^ (i + 1)) h
  rw [e, Nat.succ_mul] at h2
  have h3 : 2 ^ (i + 1) = 2 ^ i * 2 := Nat.pow_succ ..
  have h4 : 0 < 2 ^ i := Nat.two_pow_pos i
  omega
set_option maxHeartbeats 1000000 in
theorem refScaleC (a b c : Nat) (ha : a < 18446744073709551616) (hb : b < 18446744073709551616) (hc : c < 18446744073709551616) (w : World) :
    Calls Try.prog 12 #[.int .u64 a, .int .u64 b, .int .u64 c] w (Same (.int .u64 (scaleN a b c)) w) := by
  by_cases h0 : c = 0
  · subst h0
    rw [show scaleN a b 0 = 0 by unfold scaleN; simp]
    go_enter Try.func12, Try.ntmps12
    go_wp2
    go_ret
    exact ⟨rfl, rfl⟩
  · have m := fun n hn W => belowC n c a b hn hc ha hb W
    have hs := fun n hn => below_scale (n := n) (a := a) (b := b) (show 0 < c by omega) hn
    have hQ := scaleN_le a b c
    obtain ⟨Q, eQ⟩ : ∃ Q, Q = scaleN a b c := ⟨_, rfl⟩
    rw [← eQ] at hs hQ ⊢
    have M := Lib.hid m
    have HS := Lib.hid hs
    have HQ := Lib.hid hQ
    have e0 : (((c : Nat) : Int) == 0) = false := by simp; omega
    clear m hs hQ eQ ha hb hc h0
    go_enter Try.func12, Try.ntmps12
    go_wp2
    go_loop [7, 8] (fun n k => ∃ j : Nat, j ≤ 64 ∧ k = .int .i64 ((j : Int) - 1) ∧ n = .int .u64 ((Q / 2 ^ j * 2 ^ j : Nat) : Int)) (fun _ k => (intOf k + 1).toNat)
    case atStart => exact ⟨64, by omega, rfl, by rw [Nat.div_eq_of_lt (by have := HQ.out; omega)]; rfl⟩
    case round =>
      obtain ⟨j, hj, rfl, rfl⟩ := hrel
      rcases j with _ | i
      · have hz : Q / 2 ^ 0 * 2 ^ 0 = Q := by simp
        rw [hz]
        have e1 : decide ((0 : Int) ≤ ((0 : Nat) : Int) - 1) = false := by decide
        clear hz
        go_wp2
        go_ret
        exact ⟨rfl, rfl⟩
      · have e1 : ((i + 1 : Nat) : Int) - 1 = (i : Int) := by omega
        rw [e1]
        obtain ⟨n, hn⟩ : ∃ n, n = Q / 2 ^ (i + 1) * 2 ^ (i + 1) := ⟨_, rfl⟩
        rw [← hn]
        clear e1
        have hroom := bit_room (Q := Q) (i := i) (by omega) (by have := HQ.out; omega)
        obtain ⟨hb1, hb2⟩ := Fr.bit_step Q i
        rw [← hn] at hroom hb1 hb2
        obtain ⟨P, hP⟩ : ∃ P : Int, P = ((2 ^ i : Nat) : Int) := ⟨_, rfl⟩
        have w1 : IntKind.u64.wrap ((2 : Int) ^ i) = P := by rw [hP, cpow]; exact cwrap_id _ (by omega)
        obtain ⟨x, hx⟩ : ∃ x, x = n + 2 ^ i := ⟨_, rfl⟩
        rw [← hx] at hroom hb1 hb2
        have w2 : IntKind.u64.wrap ((n : Int) + P) = (x : Int) := by rw [hP, cadd, ← hx]; exact cwrap_id _ hroom
        have m1 := fun W => M.out x hroom W
        rw [HS.out x hroom] at m1
        have HJ : Hid (i ≤ 64) := Lib.hid (by omega)
        have hiv : (0 : Int) ≤ (i : Int) := by omega
        by_cases hle : x ≤ Q
        · rw [show decide (x ≤ Q) = true by simpa using hle] at m1
          have HN := Lib.hid (hb1 hle)
          have M1 := Lib.hid m1
          clear hb1 hb2 hle m1 hroom hx hP hn
          go_wp2_with (go_at_call 19; (with_reducible refine (M1.out _).mono ?_); rintro e w1 ⟨rfl, rfl⟩)
          exact ⟨⟨i, HJ.out, rfl, by rw [HN.out]⟩, by simp [intOf]⟩
        · rw [show decide (x ≤ Q) = false by simpa using hle] at m1
          have HN := Lib.hid (hb2 hle)
          have M1 := Lib.hid m1
          clear hb1 hb2 hle m1 hroom hx hP hn
          go_wp2_with (go_at_call 19; (with_reducible refine (M1.out _).mono ?_); rintro e w1 ⟨rfl, rfl⟩)
          exact ⟨⟨i, HJ.out, rfl, by rw [HN.out]⟩, by simp [intOf]⟩

set_option maxHeartbeats 1000000 in
theorem fracScales_at (a b c p q : Int) (w : World)
    (k1 : ∀ W, Calls Try.prog 9 #[.int .u64 a, .int .u64 b] W (Same (.int .u64 p) W))
    (k2 : ∀ W, Calls Try.prog 10 #[.int .u64 a, .int .u64 b] W (Same (.int .u64 p) W))
    (k3 : ∀ W, Calls Try.prog 11 #[.int .u64 a, .int .u64 b, .int .u64 c] W (Drew (.int .u64 q) W))
    (k4 : ∀ W, Calls Try.prog 12 #[.int .u64 a, .int .u64 b, .int .u64 c] W (Same (.int .u64 q) W)) :
    Calls Try.prog 4 #[.int .u64 a, .int .u64 b, .int .u64 c] w (Ret (.bool true) w) := by
  have k5 := fun W => liveOk W
  have K1 := Lib.hid k1
  have K2 := Lib.hid k2
  have K3 := Lib.hid k3
  have K4 := Lib.hid k4
  have K5 := Lib.hid k5
  clear k1 k2 k3 k4 k5
  go_enter Try.func4, Try.ntmps4
  go_wp2_with (first | (go_at_call 9; (with_reducible refine (K1.out _).mono ?_); rintro e w1 ⟨rfl, rfl⟩) | (go_at_call 10; (with_reducible refine (K2.out _).mono ?_); rintro e w1 ⟨rfl, rfl⟩) | (go_at_call 11; (with_reducible refine (K3.out _).mono ?_); rintro e w1 ⟨rfl, n, rfl⟩) | (go_at_call 12; (with_reducible refine (K4.out _).mono ?_); rintro e w1 ⟨rfl, rfl⟩) | (go_at_call 8; (with_reducible refine (K5.out _).mono ?_); rintro e w1 ⟨rfl, rfl⟩))
  go_ret
  exact ⟨rfl, below_drewN (Below.refl _ _) _⟩
theorem fracScales_walk (a b c : Int) (w : World) (w0 : (Lit.int .u64 a).wf = true) (w1 : (Lit.int .u64 b).wf = true) (w2 : (Lit.int .u64 c).wf = true) :
    Calls Try.prog 4 #[.int .u64 a, .int .u64 b, .int .u64 c] w (Ret (.bool true) w) := by
  have h0 := wf_u64 w0
  have h1 := wf_u64 w1
  have h2 := wf_u64 w2
  obtain ⟨A, rfl⟩ := Int.eq_ofNat_of_zero_le h0.1
  obtain ⟨B, rfl⟩ := Int.eq_ofNat_of_zero_le h1.1
  obtain ⟨C, rfl⟩ := Int.eq_ofNat_of_zero_le h2.1
  exact fracScales_at _ _ _ _ _ w (fracCeilC A B h0.1 h0.2 h1.1) (refCeilC A B h0.1 h0.2 h1.1) (fracScaleC A B C (by omega) (by omega) (by omega)) (refScaleC A B C (by omega) (by omega) (by omega))
end Go.Proofs.Ytipljafpmpagjaa
