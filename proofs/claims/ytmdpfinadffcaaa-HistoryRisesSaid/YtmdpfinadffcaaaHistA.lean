/-
  High, and the document's Bucket and High.
-/
import Derived.Test.YtmdpfinadffcaaaBase
import Derived.Test.YtmdpfinadffcaaaHistMath
import Derived.LoopTactic
namespace Go.Proofs.Ytmdpfinadffcaaa
open Go.RowKit
set_option linter.unusedVariables false

set_option maxRecDepth 100000 in
set_option maxHeartbeats 1000000 in
theorem refBucketC (v : Int) (h0 : 0 ≤ v) (h1 : v < 18446744073709551616) (w : World) :
    Calls Try.prog 43 #[.int .u64 v] w (Same (.int .i64 (Hi.bk v.toNat : Nat)) w) := by
  obtain ⟨R, hR⟩ : ∃ R, R = Hi.bk v.toNat := ⟨_, rfl⟩
  rw [← hR]
  have HR := Lib.hid hR; clear hR
  go_enter Try.func43, Try.ntmps43
  go_wp2
  go_loop [0, 3] (fun x i => ∃ (b : Nat) (u : Int), b ≤ 15 ∧ i = .int .i64 (b : Int) ∧ x = .int .u64 u ∧ 0 ≤ u ∧ u < 18446744073709551616 ∧ Hid (u.toNat = v.toNat / 2 ^ b) ∧ Hid (b ≤ Lib.bitLen v.toNat)) (fun _ i => 15 - (intOf i).toNat)
  case atStart => exact ⟨0, v, by omega, rfl, rfl, h0, h1, Lib.hid (by simp), Lib.hid (Nat.zero_le _)⟩
  case round =>
    obtain ⟨b, u, hb, rfl, rfl, hu0, hu1, HU, HB⟩ := hrel
    by_cases hz : u > 0
    · by_cases h15 : b < 15
      · have HS := Lib.hid (Hi.bk_step (v := v.toNat) (b := b) (by omega) (by rw [← HU.out]; omega))
        go_wp2
        go_round
        case rel => exact ⟨b + 1, u / 2, by omega, by go_num, rfl, by omega, by omega, Lib.hid (by rw [Nat.pow_succ, ← Nat.div_div_eq_div_mul, ← HU.out]; omega), HS⟩
        case measure => simp [intOf]; omega
      · have HS := Lib.hid (HR.out.trans (Hi.bk_stop (v := v.toNat) (b := b) (by omega) HB.out hb (Or.inr (by omega))))
        go_wp2
        go_ret
        exact ⟨by rw [HS.out]; rfl, rfl⟩
    · have HS := Lib.hid (HR.out.trans (Hi.bk_stop (v := v.toNat) (b := b) (by omega) HB.out hb (Or.inl (by rw [← HU.out]; omega))))
      go_wp2
      go_ret
      exact ⟨by rw [HS.out]; rfl, rfl⟩

set_option maxRecDepth 100000 in
theorem highC (b : Int) (w : World) : Calls Try.prog 49 #[.int .i64 b] w (Same (.int .u64 (Hi.high b)) w) := by
  by_cases h : b < 0
  · rw [Hi.high_lo h]
    go_enter Try.func49, Try.ntmps49
    go_wp2
    go_ret
    exact ⟨rfl, rfl⟩
  · by_cases h2 : b > 15
    · rw [Hi.high_hi h2]
      go_enter Try.func49, Try.ntmps49
      go_wp2
      go_ret
      exact ⟨rfl, rfl⟩
    · by_cases h3 : b = 15
      · subst h3
        rw [Hi.high_15]
        go_enter Try.func49, Try.ntmps49
        go_wp2
        go_ret
        exact ⟨rfl, rfl⟩
      · obtain ⟨n, rfl⟩ : ∃ n : Nat, b = (n : Int) := ⟨b.toNat, by omega⟩
        rw [Hi.high_nat (by omega)]
        rcases (show n = 0 ∨ n = 1 ∨ n = 2 ∨ n = 3 ∨ n = 4 ∨ n = 5 ∨ n = 6 ∨ n = 7 ∨ n = 8 ∨ n = 9 ∨ n = 10 ∨ n = 11 ∨ n = 12 ∨ n = 13 ∨ n = 14 by omega) with rfl | rfl | rfl | rfl | rfl | rfl | rfl | rfl | rfl | rfl | rfl | rfl | rfl | rfl | rfl
        all_goals
          clear h h2 h3
          go_enter Try.func49, Try.ntmps49
          go_wp2
          go_ret
          exact ⟨rfl, rfl⟩

set_option maxRecDepth 100000 in
set_option maxHeartbeats 1000000 in
theorem refHighC (b : Int) (w : World) : Calls Try.prog 45 #[.int .i64 b] w (Same (.int .u64 (Hi.high b)) w) := by
  by_cases h : b < 0
  · rw [Hi.high_lo h]
    go_enter Try.func45, Try.ntmps45
    go_wp2
    go_ret
    exact ⟨rfl, rfl⟩
  · by_cases h2 : b > 15
    · rw [Hi.high_hi h2]
      go_enter Try.func45, Try.ntmps45
      go_wp2
      go_ret
      exact ⟨rfl, rfl⟩
    · by_cases h3 : b = 15
      · subst h3
        rw [Hi.high_15]
        go_enter Try.func45, Try.ntmps45
        go_wp2
        go_ret
        exact ⟨rfl, rfl⟩
      · obtain ⟨n, rfl⟩ : ∃ n : Nat, b = (n : Int) := ⟨b.toNat, by omega⟩
        obtain ⟨R, hR⟩ : ∃ R : Int, R = ((2 ^ n - 1 : Nat) : Int) := ⟨_, rfl⟩
        rw [Hi.high_nat (by omega), ← hR]
        have HR := Lib.hid hR; clear hR
        go_enter Try.func45, Try.ntmps45
        go_wp2
        go_loop [3, 4] (fun x i => ∃ (k : Nat) (u : Int), k ≤ n ∧ i = .int .i64 (k : Int) ∧ x = .int .u64 u ∧ 0 ≤ u ∧ u < 65536 ∧ Hid (u = ((2 ^ k - 1 : Nat) : Int))) (fun _ i => n - (intOf i).toNat)
        case atStart => exact ⟨0, 0, by omega, rfl, rfl, by omega, by omega, Lib.hid (by simp)⟩
        case round =>
          obtain ⟨k, u, hk, rfl, rfl, hu0, hu1, HU⟩ := hrel
          by_cases hlt : k < n
          · have hs : 2 * u + 1 = ((2 ^ (k + 1) - 1 : Nat) : Int) ∧ 2 * u + 1 < 65536 := by
              have e := HU.out
              have h1 := Nat.one_le_two_pow (n := k)
              have h2 := Nat.pow_le_pow_right (n := 2) (i := k + 1) (j := 15) (by omega) (by omega)
              have h3 : (2 : Nat) ^ (k + 1) = 2 * 2 ^ k := by rw [Nat.pow_succ]; omega
              have h4 : (2 : Nat) ^ 15 = 32768 := by decide
              omega
            have HS := Lib.hid hs; clear hs
            go_wp2
            go_round
            case rel => exact ⟨k + 1, 2 * u + 1, by omega, by go_num, by first | rfl | (congr 1; omega), by omega, HS.out.2, Lib.hid HS.out.1⟩
            case measure => simp [intOf]; omega
          · obtain rfl : k = n := by omega
            have HS := Lib.hid (HR.out.trans HU.out.symm)
            go_wp2
            go_ret
            exact ⟨by rw [HS.out]; rfl, rfl⟩
end Go.Proofs.Ytmdpfinadffcaaa
