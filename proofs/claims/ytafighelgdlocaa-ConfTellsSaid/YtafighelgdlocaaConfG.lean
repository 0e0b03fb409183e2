/-
  Which configurations are valid: the document's Check.
-/
import Derived.Test.YtafighelgdlocaaConfF
import Derived.Deep.CutBlock
import Derived.Deep.CutRange
namespace Go.Proofs.Ytafighelgdlocaa
open Go.RowKit
set_option linter.unusedVariables false

set_option maxRecDepth 100000 in
set_option maxHeartbeats 4000000 in
theorem refErr (c : Cf.C) (t : Nat → Cf.T) (e : Int) (he : (e != 0) = true) (w : World) (kt : Hid (∀ W, TenAt W c.ta c.tl t → Calls Try.prog 22 #[.slice c.ta c.tl c.tc] W (Ret (.int .i64 e) W))) (hT : Hid (TenAt w c.ta c.tl t)) :
    Calls Try.prog 8 #[c.val] w (Ret (.int .i64 e) w) := by
  unfold Cf.C.val
  go_enter Try.func8, Try.ntmps8
  go_wp2_with (go_at_call 22; (with_reducible refine (kt.out _ ?_).mono ?_); (exact hT.out.below ((Below.refl _ _).alloc (Nat.le_refl _) _)); rintro e1 wA ⟨rfl, hbA⟩)
  go_ret
  exact ⟨rfl, ((Below.refl _ _).alloc (Nat.le_refl _) _).trans (hbA.mono (by simp))⟩

set_option maxRecDepth 100000 in
set_option maxHeartbeats 4000000 in
theorem refMany (c : Cf.C) (t : Nat → Cf.T) (h3 : 3 < c.ll) (w : World) (kt : Hid (∀ W, TenAt W c.ta c.tl t → Calls Try.prog 22 #[.slice c.ta c.tl c.tc] W (Ret (.int .i64 0) W))) (hT : Hid (TenAt w c.ta c.tl t)) :
    Calls Try.prog 8 #[c.val] w (Ret (.int .i64 9) w) := by
  unfold Cf.C.val
  go_enter Try.func8, Try.ntmps8
  go_wp2_with (go_at_call 22; (with_reducible refine (kt.out _ ?_).mono ?_); (exact hT.out.below ((Below.refl _ _).alloc (Nat.le_refl _) _)); rintro e1 wA ⟨rfl, hbA⟩; obtain ⟨hx, hbA2, hlA⟩ := boxedNew (c := c) hbA; have b1 := (boxed_of hx).b1)
  go_ret
  exact ⟨rfl, hbA2⟩

set_option maxRecDepth 100000 in
set_option maxHeartbeats 4000000 in
theorem refRest (c : Cf.C) (t : Nat → Cf.T) (l : Nat → Int) (h3 : c.ll ≤ 3) (x2 x3 x4 x5 x6 x7 x8 x9 x10 x11 x12 x13 x14 x15 x16 x17 x18 rs : Bool) (w : World) (kt : Hid (∀ W, TenAt W c.ta c.tl t → Calls Try.prog 22 #[.slice c.ta c.tl c.tc] W (Ret (.int .i64 0) W))) (hT : Hid (TenAt w c.ta c.tl t)) (hL : Hid (LimAt w c.la c.ll l))
    (kr : Hid (∀ W, LimAt W c.la c.ll l → Calls Try.prog 24 #[.slice c.la c.ll c.lc] W (Ret (.bool rs) W)))
    (k2 : Hid (∀ W, Calls Try.prog 23 #[.int .i64 c.f2, .int .i64 1, .int .i64 64] W (Same (.bool x2) W)))
    (k3 : Hid (∀ W, Calls Try.prog 23 #[.int .i64 c.f3, .int .i64 1, .int .i64 64] W (Same (.bool x3) W)))
    (k4 : Hid (∀ W, Calls Try.prog 23 #[.int .i64 c.f4, .int .i64 1, .int .i64 32] W (Same (.bool x4) W)))
    (k5 : Hid (∀ W, Calls Try.prog 23 #[.int .i64 c.f5, .int .i64 1, .int .i64 8] W (Same (.bool x5) W)))
    (k6 : Hid (∀ W, Calls Try.prog 23 #[.int .i64 c.f6, .int .i64 1, .int .i64 16] W (Same (.bool x6) W)))
    (k7 : Hid (∀ W, Calls Try.prog 23 #[.int .i64 c.f7, .int .i64 1, .int .i64 8] W (Same (.bool x7) W)))
    (k8 : Hid (∀ W, Calls Try.prog 23 #[.int .i64 c.f8, .int .i64 0, .int .i64 5] W (Same (.bool x8) W)))
    (k9 : Hid (∀ W, Calls Try.prog 23 #[.int .i64 c.f9, .int .i64 0, .int .i64 5] W (Same (.bool x9) W)))
    (k10 : Hid (∀ W, Calls Try.prog 23 #[.int .i64 c.f10, .int .i64 1, .int .i64 1048576] W (Same (.bool x10) W)))
    (k11 : Hid (∀ W, Calls Try.prog 23 #[.int .i64 c.f11, .int .i64 c.f10, .int .i64 1048576] W (Same (.bool x11) W)))
    (k12 : Hid (∀ W, Calls Try.prog 23 #[.int .i64 c.f12, .int .i64 1, .int .i64 1048576] W (Same (.bool x12) W)))
    (k13 : Hid (∀ W, Calls Try.prog 23 #[.int .i64 c.f13, .int .i64 1, .int .i64 32] W (Same (.bool x13) W)))
    (k14 : Hid (∀ W, Calls Try.prog 23 #[.int .i64 c.f14, .int .i64 1, .int .i64 64] W (Same (.bool x14) W)))
    (k15 : Hid (∀ W, Calls Try.prog 23 #[.int .i64 c.f15, .int .i64 1, .int .i64 32] W (Same (.bool x15) W)))
    (k16 : Hid (∀ W, Calls Try.prog 23 #[.int .i64 c.f16, .int .i64 1, .int .i64 100] W (Same (.bool x16) W)))
    (k17 : Hid (∀ W, Calls Try.prog 23 #[.int .i64 c.f17, .int .i64 1, .int .i64 16] W (Same (.bool x17) W)))
    (k18 : Hid (∀ W, Calls Try.prog 23 #[.int .i64 c.f18, .int .i64 0, .int .i64 16] W (Same (.bool x18) W))) :
    Calls Try.prog 8 #[c.val] w (Ret (.int .i64 (if (rs && (((((x2 && x3) && x4) && x5) && x6) && x7) && ((((x8 && x9) && x10) && x11) && x12) && (((((x13 && x14) && x15) && x16) && x17) && x18)) = false then 1 else 0)) w) := by
  unfold Cf.C.val
  go_enter Try.func8, Try.ntmps8
  go_upto_region 6 with (go_at_call 22; (with_reducible refine (kt.out _ ?_).mono ?_); (exact hT.out.below ((Below.refl _ _).alloc (Nat.le_refl _) _)); rintro e1 wA ⟨rfl, hbA⟩; obtain ⟨hx, hbA2, hlA⟩ := boxedNew (c := c) hbA; obtain ⟨b0, b1, b2, b3, b4, b5, b6, b7, b8, b9, b10, b11, b12, b13, b14, b15, b16, b17, b18⟩ := boxed_of hx)
  go_cut [4] from 17 to 44 (fun q wx => q = .bool (((((x2 && x3) && x4) && x5) && x6) && x7) ∧ wx = wA)
  case first =>
    cases x2 with
    | false =>
      go_wp2_with (first | (go_at_call 23; (with_reducible refine (k2.out _).mono ?_); rintro e w1 ⟨rfl, rfl⟩))
      go_meet
      exact ⟨congrArg Value.bool (by simp), rfl⟩
    | true =>
      cases x3 with
      | false =>
        go_wp2_with (first | (go_at_call 23; (with_reducible refine (k2.out _).mono ?_); rintro e w1 ⟨rfl, rfl⟩) | (go_at_call 23; (with_reducible refine (k3.out _).mono ?_); rintro e w1 ⟨rfl, rfl⟩))
        go_meet
        exact ⟨congrArg Value.bool (by simp), rfl⟩
      | true =>
        cases x4 with
        | false =>
          go_wp2_with (first | (go_at_call 23; (with_reducible refine (k2.out _).mono ?_); rintro e w1 ⟨rfl, rfl⟩) | (go_at_call 23; (with_reducible refine (k3.out _).mono ?_); rintro e w1 ⟨rfl, rfl⟩) | (go_at_call 23; (with_reducible refine (k4.out _).mono ?_); rintro e w1 ⟨rfl, rfl⟩))
          go_meet
          exact ⟨congrArg Value.bool (by simp), rfl⟩
        | true =>
          cases x5 with
          | false =>
            go_wp2_with (first | (go_at_call 23; (with_reducible refine (k2.out _).mono ?_); rintro e w1 ⟨rfl, rfl⟩) | (go_at_call 23; (with_reducible refine (k3.out _).mono ?_); rintro e w1 ⟨rfl, rfl⟩) | (go_at_call 23; (with_reducible refine (k4.out _).mono ?_); rintro e w1 ⟨rfl, rfl⟩) | (go_at_call 23; (with_reducible refine (k5.out _).mono ?_); rintro e w1 ⟨rfl, rfl⟩))
            go_meet
            exact ⟨congrArg Value.bool (by simp), rfl⟩
          | true =>
            cases x6 with
            | false =>
              go_wp2_with (first | (go_at_call 23; (with_reducible refine (k2.out _).mono ?_); rintro e w1 ⟨rfl, rfl⟩) | (go_at_call 23; (with_reducible refine (k3.out _).mono ?_); rintro e w1 ⟨rfl, rfl⟩) | (go_at_call 23; (with_reducible refine (k4.out _).mono ?_); rintro e w1 ⟨rfl, rfl⟩) | (go_at_call 23; (with_reducible refine (k5.out _).mono ?_); rintro e w1 ⟨rfl, rfl⟩) | (go_at_call 23; (with_reducible refine (k6.out _).mono ?_); rintro e w1 ⟨rfl, rfl⟩))
              go_meet
              exact ⟨congrArg Value.bool (by simp), rfl⟩
            | true =>
              cases x7 with
              | false =>
                go_wp2_with (first | (go_at_call 23; (with_reducible refine (k2.out _).mono ?_); rintro e w1 ⟨rfl, rfl⟩) | (go_at_call 23; (with_reducible refine (k3.out _).mono ?_); rintro e w1 ⟨rfl, rfl⟩) | (go_at_call 23; (with_reducible refine (k4.out _).mono ?_); rintro e w1 ⟨rfl, rfl⟩) | (go_at_call 23; (with_reducible refine (k5.out _).mono ?_); rintro e w1 ⟨rfl, rfl⟩) | (go_at_call 23; (with_reducible refine (k6.out _).mono ?_); rintro e w1 ⟨rfl, rfl⟩) | (go_at_call 23; (with_reducible refine (k7.out _).mono ?_); rintro e w1 ⟨rfl, rfl⟩))
                go_meet
                exact ⟨congrArg Value.bool (by simp), rfl⟩
              | true =>
                go_wp2_with (first | (go_at_call 23; (with_reducible refine (k2.out _).mono ?_); rintro e w1 ⟨rfl, rfl⟩) | (go_at_call 23; (with_reducible refine (k3.out _).mono ?_); rintro e w1 ⟨rfl, rfl⟩) | (go_at_call 23; (with_reducible refine (k4.out _).mono ?_); rintro e w1 ⟨rfl, rfl⟩) | (go_at_call 23; (with_reducible refine (k5.out _).mono ?_); rintro e w1 ⟨rfl, rfl⟩) | (go_at_call 23; (with_reducible refine (k6.out _).mono ?_); rintro e w1 ⟨rfl, rfl⟩) | (go_at_call 23; (with_reducible refine (k7.out _).mono ?_); rintro e w1 ⟨rfl, rfl⟩))
                go_meet
                exact ⟨rfl, rfl⟩
  case rest =>
  obtain ⟨rfl, rfl⟩ := hcut
  go_upto_region 7 with fail
  go_cut [5] from 45 to 69 (fun q wx => q = .bool ((((x8 && x9) && x10) && x11) && x12) ∧ wx = wc)
  case first =>
    cases x8 with
    | false =>
      go_wp2_with (first | (go_at_call 23; (with_reducible refine (k8.out _).mono ?_); rintro e w1 ⟨rfl, rfl⟩))
      go_meet
      exact ⟨congrArg Value.bool (by simp), rfl⟩
    | true =>
      cases x9 with
      | false =>
        go_wp2_with (first | (go_at_call 23; (with_reducible refine (k8.out _).mono ?_); rintro e w1 ⟨rfl, rfl⟩) | (go_at_call 23; (with_reducible refine (k9.out _).mono ?_); rintro e w1 ⟨rfl, rfl⟩))
        go_meet
        exact ⟨congrArg Value.bool (by simp), rfl⟩
      | true =>
        cases x10 with
        | false =>
          go_wp2_with (first | (go_at_call 23; (with_reducible refine (k8.out _).mono ?_); rintro e w1 ⟨rfl, rfl⟩) | (go_at_call 23; (with_reducible refine (k9.out _).mono ?_); rintro e w1 ⟨rfl, rfl⟩) | (go_at_call 23; (with_reducible refine (k10.out _).mono ?_); rintro e w1 ⟨rfl, rfl⟩))
          go_meet
          exact ⟨congrArg Value.bool (by simp), rfl⟩
        | true =>
          cases x11 with
          | false =>
            go_wp2_with (first | (go_at_call 23; (with_reducible refine (k8.out _).mono ?_); rintro e w1 ⟨rfl, rfl⟩) | (go_at_call 23; (with_reducible refine (k9.out _).mono ?_); rintro e w1 ⟨rfl, rfl⟩) | (go_at_call 23; (with_reducible refine (k10.out _).mono ?_); rintro e w1 ⟨rfl, rfl⟩) | (go_at_call 23; (with_reducible refine (k11.out _).mono ?_); rintro e w1 ⟨rfl, rfl⟩))
            go_meet
            exact ⟨congrArg Value.bool (by simp), rfl⟩
          | true =>
            cases x12 with
            | false =>
              go_wp2_with (first | (go_at_call 23; (with_reducible refine (k8.out _).mono ?_); rintro e w1 ⟨rfl, rfl⟩) | (go_at_call 23; (with_reducible refine (k9.out _).mono ?_); rintro e w1 ⟨rfl, rfl⟩) | (go_at_call 23; (with_reducible refine (k10.out _).mono ?_); rintro e w1 ⟨rfl, rfl⟩) | (go_at_call 23; (with_reducible refine (k11.out _).mono ?_); rintro e w1 ⟨rfl, rfl⟩) | (go_at_call 23; (with_reducible refine (k12.out _).mono ?_); rintro e w1 ⟨rfl, rfl⟩))
              go_meet
              exact ⟨congrArg Value.bool (by simp), rfl⟩
            | true =>
              go_wp2_with (first | (go_at_call 23; (with_reducible refine (k8.out _).mono ?_); rintro e w1 ⟨rfl, rfl⟩) | (go_at_call 23; (with_reducible refine (k9.out _).mono ?_); rintro e w1 ⟨rfl, rfl⟩) | (go_at_call 23; (with_reducible refine (k10.out _).mono ?_); rintro e w1 ⟨rfl, rfl⟩) | (go_at_call 23; (with_reducible refine (k11.out _).mono ?_); rintro e w1 ⟨rfl, rfl⟩) | (go_at_call 23; (with_reducible refine (k12.out _).mono ?_); rintro e w1 ⟨rfl, rfl⟩))
              go_meet
              exact ⟨rfl, rfl⟩
  case rest =>
  obtain ⟨rfl, rfl⟩ := hcut
  go_upto_region 8 with fail
  go_cut [6] from 70 to 97 (fun q wx => q = .bool (((((x13 && x14) && x15) && x16) && x17) && x18) ∧ wx = wc)
  case first =>
    cases x13 with
    | false =>
      go_wp2_with (first | (go_at_call 23; (with_reducible refine (k13.out _).mono ?_); rintro e w1 ⟨rfl, rfl⟩))
      go_meet
      exact ⟨congrArg Value.bool (by simp), rfl⟩
    | true =>
      cases x14 with
      | false =>
        go_wp2_with (first | (go_at_call 23; (with_reducible refine (k13.out _).mono ?_); rintro e w1 ⟨rfl, rfl⟩) | (go_at_call 23; (with_reducible refine (k14.out _).mono ?_); rintro e w1 ⟨rfl, rfl⟩))
        go_meet
        exact ⟨congrArg Value.bool (by simp), rfl⟩
      | true =>
        cases x15 with
        | false =>
          go_wp2_with (first | (go_at_call 23; (with_reducible refine (k13.out _).mono ?_); rintro e w1 ⟨rfl, rfl⟩) | (go_at_call 23; (with_reducible refine (k14.out _).mono ?_); rintro e w1 ⟨rfl, rfl⟩) | (go_at_call 23; (with_reducible refine (k15.out _).mono ?_); rintro e w1 ⟨rfl, rfl⟩))
          go_meet
          exact ⟨congrArg Value.bool (by simp), rfl⟩
        | true =>
          cases x16 with
          | false =>
            go_wp2_with (first | (go_at_call 23; (with_reducible refine (k13.out _).mono ?_); rintro e w1 ⟨rfl, rfl⟩) | (go_at_call 23; (with_reducible refine (k14.out _).mono ?_); rintro e w1 ⟨rfl, rfl⟩) | (go_at_call 23; (with_reducible refine (k15.out _).mono ?_); rintro e w1 ⟨rfl, rfl⟩) | (go_at_call 23; (with_reducible refine (k16.out _).mono ?_); rintro e w1 ⟨rfl, rfl⟩))
            go_meet
            exact ⟨congrArg Value.bool (by simp), rfl⟩
          | true =>
            cases x17 with
            | false =>
              go_wp2_with (first | (go_at_call 23; (with_reducible refine (k13.out _).mono ?_); rintro e w1 ⟨rfl, rfl⟩) | (go_at_call 23; (with_reducible refine (k14.out _).mono ?_); rintro e w1 ⟨rfl, rfl⟩) | (go_at_call 23; (with_reducible refine (k15.out _).mono ?_); rintro e w1 ⟨rfl, rfl⟩) | (go_at_call 23; (with_reducible refine (k16.out _).mono ?_); rintro e w1 ⟨rfl, rfl⟩) | (go_at_call 23; (with_reducible refine (k17.out _).mono ?_); rintro e w1 ⟨rfl, rfl⟩))
              go_meet
              exact ⟨congrArg Value.bool (by simp), rfl⟩
            | true =>
              cases x18 with
              | false =>
                go_wp2_with (first | (go_at_call 23; (with_reducible refine (k13.out _).mono ?_); rintro e w1 ⟨rfl, rfl⟩) | (go_at_call 23; (with_reducible refine (k14.out _).mono ?_); rintro e w1 ⟨rfl, rfl⟩) | (go_at_call 23; (with_reducible refine (k15.out _).mono ?_); rintro e w1 ⟨rfl, rfl⟩) | (go_at_call 23; (with_reducible refine (k16.out _).mono ?_); rintro e w1 ⟨rfl, rfl⟩) | (go_at_call 23; (with_reducible refine (k17.out _).mono ?_); rintro e w1 ⟨rfl, rfl⟩) | (go_at_call 23; (with_reducible refine (k18.out _).mono ?_); rintro e w1 ⟨rfl, rfl⟩))
                go_meet
                exact ⟨congrArg Value.bool (by simp), rfl⟩
              | true =>
                go_wp2_with (first | (go_at_call 23; (with_reducible refine (k13.out _).mono ?_); rintro e w1 ⟨rfl, rfl⟩) | (go_at_call 23; (with_reducible refine (k14.out _).mono ?_); rintro e w1 ⟨rfl, rfl⟩) | (go_at_call 23; (with_reducible refine (k15.out _).mono ?_); rintro e w1 ⟨rfl, rfl⟩) | (go_at_call 23; (with_reducible refine (k16.out _).mono ?_); rintro e w1 ⟨rfl, rfl⟩) | (go_at_call 23; (with_reducible refine (k17.out _).mono ?_); rintro e w1 ⟨rfl, rfl⟩) | (go_at_call 23; (with_reducible refine (k18.out _).mono ?_); rintro e w1 ⟨rfl, rfl⟩))
                go_meet
                exact ⟨rfl, rfl⟩
  case rest =>
  obtain ⟨rfl, rfl⟩ := hcut
  have HLw := Lib.hid (hL.out.below hbA2)
  generalize (((((x2 && x3) && x4) && x5) && x6) && x7) = A at *
  generalize ((((x8 && x9) && x10) && x11) && x12) = B at *
  generalize (((((x13 && x14) && x15) && x16) && x17) && x18) = D at *
  clear k2 k3 k4 k5 k6 k7 k8 k9 k10 k11 k12 k13 k14 k15 k16 k17 k18 hx b0 b2 b3 b4 b5 b6 b7 b8 b9 b10 b11 b12 b13 b14 b15 b16 b17 b18
  cases rs with
  | false =>
    go_wp2_with (go_at_call 24; (with_reducible refine (kr.out _ ?_).mono ?_); (exact HLw.out); rintro e2 wB ⟨rfl, hbB⟩)
    go_ret
    exact ⟨rfl, hbA2.trans (hbB.mono hbA2.size)⟩
  | true =>
    cases A with
    | false =>
      go_wp2_with (go_at_call 24; (with_reducible refine (kr.out _ ?_).mono ?_); (exact HLw.out); rintro e2 wB ⟨rfl, hbB⟩)
      go_ret
      exact ⟨rfl, hbA2.trans (hbB.mono hbA2.size)⟩
    | true =>
      cases B with
      | false =>
        go_wp2_with (go_at_call 24; (with_reducible refine (kr.out _ ?_).mono ?_); (exact HLw.out); rintro e2 wB ⟨rfl, hbB⟩)
        go_ret
        exact ⟨rfl, hbA2.trans (hbB.mono hbA2.size)⟩
      | true =>
        cases D with
        | false =>
          go_wp2_with (go_at_call 24; (with_reducible refine (kr.out _ ?_).mono ?_); (exact HLw.out); rintro e2 wB ⟨rfl, hbB⟩)
          go_ret
          exact ⟨rfl, hbA2.trans (hbB.mono hbA2.size)⟩
        | true =>
          go_wp2_with (go_at_call 24; (with_reducible refine (kr.out _ ?_).mono ?_); (exact HLw.out); rintro e2 wB ⟨rfl, hbB⟩)
          go_ret
          exact ⟨rfl, hbA2.trans (hbB.mono hbA2.size)⟩
theorem rows_all (c : Cf.C) (b : Bool) : (b && (((((Cf.inR c.f2 1 64 && Cf.inR c.f3 1 64) && Cf.inR c.f4 1 32) && Cf.inR c.f5 1 8) && Cf.inR c.f6 1 16) && Cf.inR c.f7 1 8) && ((((Cf.inR c.f8 0 5 && Cf.inR c.f9 0 5) && Cf.inR c.f10 1 1048576) && Cf.inR c.f11 c.f10 1048576) && Cf.inR c.f12 1 1048576) && (((((Cf.inR c.f13 1 32 && Cf.inR c.f14 1 64) && Cf.inR c.f15 1 32) && Cf.inR c.f16 1 100) && Cf.inR c.f17 1 16) && Cf.inR c.f18 0 16)) = (b && c.rows.all Cf.rowOk) := by
  simp only [Cf.C.rows, List.all_cons, List.all_nil, Cf.rowOk, Bool.and_true, Bool.and_assoc]

theorem refCheckC (c : Cf.C) (t : Nat → Cf.T) (l : Nat → Int) (w : World) (h : CfgAt w c t l) : Calls Try.prog 8 #[c.val] w (Ret (.int .i64 (Cf.check nmB c t l)) w) := by
  have kt := fun W h' => refTenantsC c.ta c.tl c.tc t W h.tl h'
  unfold Cf.check
  generalize Cf.tenErr nmB t c.tl = e at *
  by_cases he : e ≠ 0
  · rw [if_pos he]
    exact refErr c t e (by simpa using he) w (Lib.hid kt) (Lib.hid h.t)
  · obtain rfl : e = 0 := by omega
    rw [if_neg (by simp)]
    by_cases h3 : 3 < c.ll
    · rw [if_pos h3]
      exact refMany c t h3 w (Lib.hid kt) (Lib.hid h.t)
    · rw [if_neg h3, ← rows_all]
      have hl3 : c.ll ≤ 3 := by omega
      exact refRest c t l hl3 _ _ _ _ _ _ _ _ _ _ _ _ _ _ _ _ _ (Cf.rise l c.ll 0) w (Lib.hid kt) (Lib.hid h.t) (Lib.hid h.l) (Lib.hid fun W h' => risesC c.la c.ll c.lc l W h.ll h')
        (Lib.hid fun W => inC c.f2 1 64 W) (Lib.hid fun W => inC c.f3 1 64 W) (Lib.hid fun W => inC c.f4 1 32 W) (Lib.hid fun W => inC c.f5 1 8 W) (Lib.hid fun W => inC c.f6 1 16 W) (Lib.hid fun W => inC c.f7 1 8 W) (Lib.hid fun W => inC c.f8 0 5 W) (Lib.hid fun W => inC c.f9 0 5 W) (Lib.hid fun W => inC c.f10 1 1048576 W) (Lib.hid fun W => inC c.f11 c.f10 1048576 W) (Lib.hid fun W => inC c.f12 1 1048576 W) (Lib.hid fun W => inC c.f13 1 32 W) (Lib.hid fun W => inC c.f14 1 64 W) (Lib.hid fun W => inC c.f15 1 32 W) (Lib.hid fun W => inC c.f16 1 100 W) (Lib.hid fun W => inC c.f17 1 16 W) (Lib.hid fun W => inC c.f18 0 16 W)
end Go.Proofs.Ytafighelgdlocaa
