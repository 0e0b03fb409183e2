/-
  The chapter's example; HistBuckets walks.
-/
import Derived.Test.YtnecdelmhfeneaaHistF
namespace Go.Proofs.Ytnecdelmhfeneaa
open Go.RowKit
set_option linter.unusedVariables false

set_option maxRecDepth 100000 in
set_option maxHeartbeats 1000000 in
theorem liveOk (w : World) : Calls Try.prog 10 #[] w (Ret (.bool true) w) := by
  have c1 : ∀ W, Calls Try.prog 6 #[.int .u64 3] W (Same (.int .i64 2) W) := fun W => by
    have h := bucketC 3 (by omega) (by omega) W
    rwa [show Hi.bk (3 : Int).toNat = 2 by decide] at h
  have c2 : ∀ W, Calls Try.prog 6 #[.int .u64 4] W (Same (.int .i64 3) W) := fun W => by
    have h := bucketC 4 (by omega) (by omega) W
    rwa [show Hi.bk (4 : Int).toNat = 3 by decide] at h
  have c3 : ∀ W, Calls Try.prog 8 #[.int .i64 3] W (Same (.int .u64 7) W) := fun W => by
    have h := highC 3 W
    rwa [show Hi.high 3 = 7 by decide] at h
  have c4 : ∀ W, Calls Try.prog 8 #[.int .i64 15] W (Same (.int .u64 18446744073709551615) W) := fun W => by
    have h := highC 15 W
    rwa [Hi.high_15] at h
  obtain ⟨m, hm⟩ : ∃ m, m = Hi.add Hi.zeros (Hi.bk (9 : Int).toNat) := ⟨_, rfl⟩
  have c5 : ∀ W, Calls Try.prog 11 #[.agg #[.int .i64 0, .int .i64 0, .int .i64 0, .int .i64 0, .int .i64 0, .int .i64 0, .int .i64 0, .int .i64 0, .int .i64 0, .int .i64 0, .int .i64 0, .int .i64 0, .int .i64 0, .int .i64 0, .int .i64 0, .int .i64 0], .int .u64 9] W (Ret (.agg (Hi.cells m)) W) := fun W => by
    have h := addC Hi.zeros rfl 9 (by omega) (by omega) W
    rwa [← hm] at h
  have c6 : ∀ W, Calls Try.prog 15 #[.agg (Hi.cells m)] W (Ret (.int .i64 1) W) := fun W => by
    have hk := Hi.bk_lt (9 : Int).toNat
    have ho := Hi.add_ok (l := Hi.zeros) rfl Hi.zeros_ok hk
    have h := totalC m (by rw [hm]; exact Hi.add_length rfl _) (by rw [hm]; exact Hi.small.wide (Hi.ok_iff.1 ho.1).1) W
    rwa [show Hi.tot m = 1 by rw [hm]; decide] at h
  clear hm
  have C1 := Lib.hid c1; clear c1
  have C2 := Lib.hid c2; clear c2
  have C3 := Lib.hid c3; clear c3
  have C4 := Lib.hid c4; clear c4
  have C5 := Lib.hid c5; clear c5
  have C6 := Lib.hid c6; clear c6
  go_enter Try.func10, Try.ntmps10
  go_wp2_with (first
      | (go_at_call 6; (with_reducible refine (C1.out _).mono ?_); rintro e w1 ⟨rfl, rfl⟩)
      | (go_at_call 6; (with_reducible refine (C2.out _).mono ?_); rintro e w1 ⟨rfl, rfl⟩)
      | (go_at_call 8; (with_reducible refine (C3.out _).mono ?_); rintro e w1 ⟨rfl, rfl⟩)
      | (go_at_call 8; (with_reducible refine (C4.out _).mono ?_); rintro e w1 ⟨rfl, rfl⟩)
      | (go_at_call 11; (with_reducible refine (C5.out _).mono ?_); rintro e w1 ⟨rfl, hb1⟩)
      | (go_at_call 15; (with_reducible refine (C6.out _).mono ?_); rintro e w2 ⟨rfl, hb2⟩))
  go_ret
  exact ⟨rfl, hb1.trans (hb2.mono hb1.size)⟩

set_option maxRecDepth 100000 in
set_option maxHeartbeats 1000000 in
theorem histBuckets_walk (v b : Int) (w : World) (w0 : (Lit.int .u64 v).wf = true) (w1 : (Lit.int .i64 b).wf = true) :
    Calls Try.prog 3 #[.int .u64 v, .int .i64 b] w (Ret (.bool true) w) := by
  obtain ⟨h0, h1⟩ := wf_u64 w0
  have k1 := Lib.hid (fun W => bucketC v h0 h1 W)
  have k2 := Lib.hid (fun W => refBucketC v h0 h1 W)
  have k3 := Lib.hid (fun W => highC b W)
  have k4 := Lib.hid (fun W => refHighC b W)
  have k5 := Lib.hid (fun W => highC (Hi.bk v.toNat : Nat) W)
  have k6 := Lib.hid (fun W => highC ((Hi.bk v.toNat : Nat) - 1) W)
  have k7 := Lib.hid (fun W => liveOk W)
  have hX : v ≤ Hi.high (Hi.bk v.toNat : Nat) := by
    have := Hi.le_high v.toNat (by omega)
    omega
  have hY : (Hi.bk v.toNat : Nat) ≠ 0 → Hi.high ((Hi.bk v.toNat : Nat) - 1) < v := fun h => by
    have := Hi.high_lt v.toNat (by omega) h
    omega
  have hk := Hi.bk_lt v.toNat
  generalize Hi.high b = Z at *
  generalize Hi.high (Hi.bk v.toNat : Nat) = X at *
  generalize Hi.high ((Hi.bk v.toNat : Nat) - 1) = Y at *
  obtain ⟨K, hKe⟩ : ∃ K : Int, K = ((Hi.bk v.toNat : Nat) : Int) := ⟨_, rfl⟩
  rw [← hKe] at k1 k2 k5 k6
  replace hY : K ≠ 0 → Y < v := fun h => hY (by omega)
  replace hk : 0 ≤ K ∧ K ≤ 15 := by omega
  clear hKe
  obtain ⟨hk0, hk1⟩ := hk
  clear w0 w1
  by_cases hK : K = 0
  · subst hK
    clear hY k6
    go_enter Try.func3, Try.ntmps3
    go_wp2_with (first
      | (go_at_call 6; (with_reducible refine (k1.out _).mono ?_); rintro e w1 ⟨rfl, rfl⟩)
      | (go_at_call 7; (with_reducible refine (k2.out _).mono ?_); rintro e w1 ⟨rfl, rfl⟩)
      | (go_at_call 8; (with_reducible refine (k3.out _).mono ?_); rintro e w1 ⟨rfl, rfl⟩)
      | (go_at_call 9; (with_reducible refine (k4.out _).mono ?_); rintro e w1 ⟨rfl, rfl⟩)
      | (go_at_call 8; (with_reducible refine (k5.out _).mono ?_); rintro e w1 ⟨rfl, rfl⟩)
      | (go_at_call 10; (with_reducible refine (k7.out _).mono ?_); rintro e w2 ⟨rfl, hb⟩))
    go_ret
    exact ⟨rfl, hb⟩
  · replace hY := hY hK
    go_enter Try.func3, Try.ntmps3
    go_wp2_with (first
      | (go_at_call 6; (with_reducible refine (k1.out _).mono ?_); rintro e w1 ⟨rfl, rfl⟩)
      | (go_at_call 7; (with_reducible refine (k2.out _).mono ?_); rintro e w1 ⟨rfl, rfl⟩)
      | (go_at_call 8; (with_reducible refine (k3.out _).mono ?_); rintro e w1 ⟨rfl, rfl⟩)
      | (go_at_call 9; (with_reducible refine (k4.out _).mono ?_); rintro e w1 ⟨rfl, rfl⟩)
      | (go_at_call 8; (with_reducible refine (k5.out _).mono ?_); rintro e w1 ⟨rfl, rfl⟩)
      | (go_at_call 8; (with_reducible refine (k6.out _).mono ?_); rintro e w1 ⟨rfl, rfl⟩)
      | (go_at_call 10; (with_reducible refine (k7.out _).mono ?_); rintro e w2 ⟨rfl, hb⟩))
    go_ret
    exact ⟨rfl, hb⟩
end Go.Proofs.Ytnecdelmhfeneaa
