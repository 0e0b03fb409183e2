/-
  Which configurations are valid: the program's Check.
-/
import Derived.Test.YtafighelgdlocaaConfE
namespace Go.Proofs.Ytafighelgdlocaa
open Go.RowKit
set_option linter.unusedVariables false

set_option maxRecDepth 100000 in
set_option maxHeartbeats 4000000 in
theorem checkErr (c : Cf.C) (t : Nat → Cf.T) (e : Int) (he : (e == 0) = false) (w : World) (kt : Hid (∀ W, TenAt W c.ta c.tl t → Calls Try.prog 18 #[.slice c.ta c.tl c.tc] W (Ret (.int .i64 e) W))) (hT : Hid (TenAt w c.ta c.tl t)) :
    Calls Try.prog 7 #[c.val] w (Ret (.int .i64 e) w) := by
  unfold Cf.C.val
  go_enter Try.func7, Try.ntmps7
  go_wp2_with (go_at_call 18; (with_reducible refine (kt.out _ ?_).mono ?_); (exact hT.out.below ((Below.refl _ _).alloc (Nat.le_refl _) _)); rintro e1 wA ⟨rfl, hbA⟩)
  go_ret
  exact ⟨rfl, ((Below.refl _ _).alloc (Nat.le_refl _) _).trans (hbA.mono (by simp))⟩

set_option maxRecDepth 100000 in
set_option maxHeartbeats 4000000 in
theorem checkMany (c : Cf.C) (t : Nat → Cf.T) (h3 : 3 < c.ll) (w : World) (kt : Hid (∀ W, TenAt W c.ta c.tl t → Calls Try.prog 18 #[.slice c.ta c.tl c.tc] W (Ret (.int .i64 0) W))) (hT : Hid (TenAt w c.ta c.tl t)) :
    Calls Try.prog 7 #[c.val] w (Ret (.int .i64 9) w) := by
  unfold Cf.C.val
  go_enter Try.func7, Try.ntmps7
  go_wp2_with (go_at_call 18; (with_reducible refine (kt.out _ ?_).mono ?_); (exact hT.out.below ((Below.refl _ _).alloc (Nat.le_refl _) _)); rintro e1 wA ⟨rfl, hbA⟩; obtain ⟨hx, hbA2, hlA⟩ := boxedNew (c := c) hbA; have b1 := (boxed_of hx).b1)
  go_ret
  exact ⟨rfl, hbA2⟩

set_option maxRecDepth 100000 in
set_option maxHeartbeats 4000000 in
theorem checkRise (c : Cf.C) (t : Nat → Cf.T) (l : Nat → Int) (h3 : c.ll ≤ 3) (w : World) (kt : Hid (∀ W, TenAt W c.ta c.tl t → Calls Try.prog 18 #[.slice c.ta c.tl c.tc] W (Ret (.int .i64 0) W))) (hT : Hid (TenAt w c.ta c.tl t)) (hL : Hid (LimAt w c.la c.ll l))
    (kr : Hid (∀ W, LimAt W c.la c.ll l → Calls Try.prog 19 #[.slice c.la c.ll c.lc] W (Same (.bool false) W))) :
    Calls Try.prog 7 #[c.val] w (Ret (.int .i64 1) w) := by
  unfold Cf.C.val
  go_enter Try.func7, Try.ntmps7
  go_wp2_with (first | (go_at_call 18; (with_reducible refine (kt.out _ ?_).mono ?_); (exact hT.out.below ((Below.refl _ _).alloc (Nat.le_refl _) _)); rintro e1 wA ⟨rfl, hbA⟩; obtain ⟨hx, hbA2, hlA⟩ := boxedNew (c := c) hbA; have b1 := (boxed_of hx).b1) | (go_at_call 19; (with_reducible refine (kr.out _ ?_).mono ?_); (exact hL.out.below hbA2); rintro e2 wB ⟨rfl, rfl⟩))
  go_ret
  exact ⟨rfl, hbA2⟩

set_option maxRecDepth 100000 in
set_option maxHeartbeats 4000000 in
theorem checkNo (c : Cf.C) (t : Nat → Cf.T) (l : Nat → Int) (h3 : c.ll ≤ 3) (w : World) (kt : Hid (∀ W, TenAt W c.ta c.tl t → Calls Try.prog 18 #[.slice c.ta c.tl c.tc] W (Ret (.int .i64 0) W))) (hT : Hid (TenAt w c.ta c.tl t)) (hL : Hid (LimAt w c.la c.ll l))
    (kr : Hid (∀ W, LimAt W c.la c.ll l → Calls Try.prog 19 #[.slice c.la c.ll c.lc] W (Same (.bool true) W)))
    (kq : Hid (∀ W, Calls Try.prog 21 #[.agg c.cells] W (RetRows c W)))
    (kw : Hid (∀ g W, W.heap[g]? = some (.cells (Cf.cellsOf c.rows).toArray 52) → Calls Try.prog 20 #[.slice (some ⟨g, 0, none⟩) 17 17] W (Ret (.bool false) W))) :
    Calls Try.prog 7 #[c.val] w (Ret (.int .i64 1) w) := by
  unfold Cf.C.val
  go_enter Try.func7, Try.ntmps7
  go_wp2_with (first | (go_at_call 18; (with_reducible refine (kt.out _ ?_).mono ?_); (exact hT.out.below ((Below.refl _ _).alloc (Nat.le_refl _) _)); rintro e1 wA ⟨rfl, hbA⟩; obtain ⟨hx, hbA2, hlA⟩ := boxedNew (c := c) hbA; have b1 := (boxed_of hx).b1) | (refine wpLoadCfg _ rfl rfl _ rfl c hx ?_) | (go_at_call 19; (with_reducible refine (kr.out _ ?_).mono ?_); (exact hL.out.below hbA2); rintro e2 wB ⟨rfl, rfl⟩) | (go_at_call 21; (with_reducible refine (kq.out _).mono ?_); rintro e3 wC ⟨⟨g, rfl, hgC⟩, hbC⟩) | (go_at_call 20; (with_reducible refine (kw.out _ _ hgC).mono ?_); rintro e4 wD ⟨rfl, hbD⟩))
  go_ret
  exact ⟨rfl, hbA2.trans ((hbC.trans (hbD.mono hbC.size)).mono hbA2.size)⟩

set_option maxRecDepth 100000 in
set_option maxHeartbeats 4000000 in
theorem checkYes (c : Cf.C) (t : Nat → Cf.T) (l : Nat → Int) (h3 : c.ll ≤ 3) (w : World) (kt : Hid (∀ W, TenAt W c.ta c.tl t → Calls Try.prog 18 #[.slice c.ta c.tl c.tc] W (Ret (.int .i64 0) W))) (hT : Hid (TenAt w c.ta c.tl t)) (hL : Hid (LimAt w c.la c.ll l))
    (kr : Hid (∀ W, LimAt W c.la c.ll l → Calls Try.prog 19 #[.slice c.la c.ll c.lc] W (Same (.bool true) W)))
    (kq : Hid (∀ W, Calls Try.prog 21 #[.agg c.cells] W (RetRows c W)))
    (kw : Hid (∀ g W, W.heap[g]? = some (.cells (Cf.cellsOf c.rows).toArray 52) → Calls Try.prog 20 #[.slice (some ⟨g, 0, none⟩) 17 17] W (Ret (.bool true) W))) :
    Calls Try.prog 7 #[c.val] w (Ret (.int .i64 0) w) := by
  unfold Cf.C.val
  go_enter Try.func7, Try.ntmps7
  go_wp2_with (first | (go_at_call 18; (with_reducible refine (kt.out _ ?_).mono ?_); (exact hT.out.below ((Below.refl _ _).alloc (Nat.le_refl _) _)); rintro e1 wA ⟨rfl, hbA⟩; obtain ⟨hx, hbA2, hlA⟩ := boxedNew (c := c) hbA; have b1 := (boxed_of hx).b1) | (refine wpLoadCfg _ rfl rfl _ rfl c hx ?_) | (go_at_call 19; (with_reducible refine (kr.out _ ?_).mono ?_); (exact hL.out.below hbA2); rintro e2 wB ⟨rfl, rfl⟩) | (go_at_call 21; (with_reducible refine (kq.out _).mono ?_); rintro e3 wC ⟨⟨g, rfl, hgC⟩, hbC⟩) | (go_at_call 20; (with_reducible refine (kw.out _ _ hgC).mono ?_); rintro e4 wD ⟨rfl, hbD⟩))
  go_ret
  exact ⟨rfl, hbA2.trans ((hbC.trans (hbD.mono hbC.size)).mono hbA2.size)⟩

theorem checkC (c : Cf.C) (t : Nat → Cf.T) (l : Nat → Int) (w : World) (h : CfgAt w c t l) : Calls Try.prog 7 #[c.val] w (Ret (.int .i64 (Cf.check nmB c t l)) w) := by
  have kt := fun W h' => checkTenantsC c.ta c.tl c.tc t W h.tl h'
  unfold Cf.check
  generalize Cf.tenErr nmB t c.tl = e at *
  by_cases he : e ≠ 0
  · rw [if_pos he]
    exact checkErr c t e (by simpa using he) w (Lib.hid kt) (Lib.hid h.t)
  · obtain rfl : e = 0 := by omega
    rw [if_neg (by simp)]
    by_cases h3 : 3 < c.ll
    · rw [if_pos h3]
      exact checkMany c t h3 w (Lib.hid kt) (Lib.hid h.t)
    · rw [if_neg h3]
      have hl3 : c.ll ≤ 3 := by omega
      have kr := fun W h' => risingC c.la c.ll c.lc l W h.ll h'
      cases hr : Cf.rise l c.ll 0 with
      | false =>
        rw [if_pos (by rw [Bool.false_and])]
        rw [hr] at kr
        exact checkRise c t l hl3 w (Lib.hid kt) (Lib.hid h.t) (Lib.hid h.l) (Lib.hid kr)
      | true =>
        rw [hr] at kr
        have kw := fun g W h => withinC c.rows g 17 W h (by simp [Cf.C.rows])
        rw [show c.rows.length = 17 from rfl] at kw
        cases hw : c.rows.all Cf.rowOk with
        | false =>
          rw [if_pos (by decide)]
          rw [hw] at kw
          exact checkNo c t l hl3 w (Lib.hid kt) (Lib.hid h.t) (Lib.hid h.l) (Lib.hid kr) (Lib.hid fun W => rowsC c W) (Lib.hid kw)
        | true =>
          rw [if_neg (by decide)]
          rw [hw] at kw
          exact checkYes c t l hl3 w (Lib.hid kt) (Lib.hid h.t) (Lib.hid h.l) (Lib.hid kr) (Lib.hid fun W => rowsC c W) (Lib.hid kw)
end Go.Proofs.Ytafighelgdlocaa
