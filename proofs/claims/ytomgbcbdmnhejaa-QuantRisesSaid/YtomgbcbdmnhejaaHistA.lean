/-
  High, and the document's Bucket and High.
-/
import Derived.Test.YtomgbcbdmnhejaaBase
import Derived.Test.YtomgbcbdmnhejaaHistMath
import Derived.LoopTactic
namespace Go.Proofs.Ytomgbcbdmnhejaa
open Go.RowKit
set_option linter.unusedVariables false

set_option maxRecDepth 100000 in
theorem highC (b : Int) (w : World) : Calls Try.prog 11 #[.int .i64 b] w (Same (.int .u64 (Hi.high b)) w) := by
  by_cases h : b < 0
  · rw [Hi.high_lo h]
    go_enter Try.func11, Try.ntmps11
    go_wp2
    go_ret
    exact ⟨rfl, rfl⟩
  · by_cases h2 : b > 15
    · rw [Hi.high_hi h2]
      go_enter Try.func11, Try.ntmps11
      go_wp2
      go_ret
      exact ⟨rfl, rfl⟩
    · by_cases h3 : b = 15
      · subst h3
        rw [Hi.high_15]
        go_enter Try.func11, Try.ntmps11
        go_wp2
        go_ret
        exact ⟨rfl, rfl⟩
      · obtain ⟨n, rfl⟩ : ∃ n : Nat, b = (n : Int) := ⟨b.toNat, by omega⟩
        rw [Hi.high_nat (by omega)]
        rcases (show n = 0 ∨ n = 1 ∨ n = 2 ∨ n = 3 ∨ n = 4 ∨ n = 5 ∨ n = 6 ∨ n = 7 ∨ n = 8 ∨ n = 9 ∨ n = 10 ∨ n = 11 ∨ n = 12 ∨ n = 13 ∨ n = 14 by omega) with rfl | rfl | rfl | rfl | rfl | rfl | rfl | rfl | rfl | rfl | rfl | rfl | rfl | rfl | rfl
        all_goals
          clear h h2 h3
          go_enter Try.func11, Try.ntmps11
          go_wp2
          go_ret
          exact ⟨rfl, rfl⟩

set_option maxRecDepth 100000 in
set_option maxHeartbeats 1000000 in
theorem refHighC (b : Int) (w : World) : Calls Try.prog 19 #[.int .i64 b] w (Same (.int .u64 (Hi.high b)) w) := by
  by_cases h : b < 0
  · rw [Hi.high_lo h]
    go_enter Try.func19, Try.ntmps19
    go_wp2
    go_ret
    exact ⟨rfl, rfl⟩
  · by_cases h2 : b > 15
    · rw [Hi.high_hi h2]
      go_enter Try.func19, Try.ntmps19
      go_wp2
      go_ret
      exact ⟨rfl, rfl⟩
    · by_cases h3 : b = 15
      · subst h3
        rw [Hi.high_15]
        go_enter Try.func19, Try.ntmps19
        go_wp2
        go_ret
        exact ⟨rfl, rfl⟩
      · obtain ⟨n, rfl⟩ : ∃ n : Nat, b = (n : Int) := ⟨b.toNat, by omega⟩
        obtain ⟨R, hR⟩ : ∃ R : Int, R = ((2 ^ n - 1 : Nat) : Int) := ⟨_, rfl⟩
        rw [Hi.high_nat (by omega), ← hR]
        have HR := Lib.hid hR; clear hR
        go_enter Try.func19, Try.ntmps19
        go_wp2
        go_loop [3, 4] (fun x i => ∃ (k : Nat) (u : Int), k ≤ n ∧ i = .int .i64 (k : Int) ∧ x = .int .u64 u ∧ 0 ≤ u ∧ u < 65536 ∧ Hid (u = ((2 ^ k - 1 : Nat) : Int))) (fun _ i => n - (intOf i).toNat)
        case atStart => exact ⟨0, 0, by omega, rfl, rfl, by omega, by omega, Lib.hid (by simp)⟩
        case round =>
          obtain ⟨k, u, hk, rfl, rfl, hu0, hu1, HU⟩ := hrel
          by_cases hlt : k < n
          · have hs : 2 * u + 1 = ((2 ^ (k + 1) - 1 : Nat) : Int) ∧ 2 * u + 1 < 65536 := by
              have e := HU.out
              have h1 := Nat.one_le_two_pow (n := k)
              have h2 := Nat.pow_le_pow_right (n := 2) (i := k + 1) (j := 15) (by omega) (by omega)
              have h3 : (2 : Nat) ^ (k + 1) = 2 * 2 ^ k := by rw [Nat.pow_succ]; omega
              have h4 : (2 : Nat) ^ 15 = 32768 := by decide
              omega
            have HS := Lib.hid hs; clear hs
            go_wp2
            go_round
            case rel => exact ⟨k + 1, 2 * u + 1, by omega, by go_num, by first | rfl | (congr 1; omega), by omega, HS.out.2, Lib.hid HS.out.1⟩
            case measure => simp [intOf]; omega
          · obtain rfl : k = n := by omega
            have HS := Lib.hid (HR.out.trans HU.out.symm)
            go_wp2
            go_ret
            exact ⟨by rw [HS.out]; rfl, rfl⟩
end Go.Proofs.Ytomgbcbdmnhejaa
