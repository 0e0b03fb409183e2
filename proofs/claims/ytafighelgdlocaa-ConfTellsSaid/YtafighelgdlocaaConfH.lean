/-
  What a valid configuration tells: classes, limits, attempts; both sides.
-/
import Derived.Test.YtafighelgdlocaaConfG
namespace Cf
set_option linter.unusedVariables false
def classesV (e : Int) (c : C) : Int := if e = 0 then (c.ll : Int) + 1 else 0
def attemptsV (e : Int) (c : C) : Int := if e = 0 then 1 + c.f8 + c.f9 else 0
def limitV (e : Int) (c : C) (l : Nat → Int) (k : Int) : Int := if e = 0 ∧ 0 ≤ k ∧ k < (c.ll : Int) then l k.toNat else 0
theorem check_ok {nm : ByteArray → Bool} {c : C} {t : Nat → T} {l : Nat → Int} (h : check nm c t l = 0) : c.ll ≤ 3 ∧ 0 ≤ c.f8 ∧ c.f8 ≤ 5 ∧ 0 ≤ c.f9 ∧ c.f9 ≤ 5 := by
  unfold check at h
  split at h
  · rename_i h1; exact absurd h h1
  · split at h
    · cases h
    · split at h
      · cases h
      · rename_i h3 h4
        have h5 : c.rows.all rowOk = true := by
          have := eq_true_of_ne_false h4
          rw [Bool.and_eq_true] at this
          exact this.2
        have h8 := (List.all_eq_true.1 h5) (c.f8, 0, 5) (by simp [C.rows])
        have h9 := (List.all_eq_true.1 h5) (c.f9, 0, 5) (by simp [C.rows])
        simp only [rowOk, inR_is, decide_eq_true_eq] at h8 h9
        omega
end Cf
namespace Go.Proofs.Ytafighelgdlocaa
open Go.RowKit
set_option linter.unusedVariables false

set_option maxRecDepth 100000 in
set_option maxHeartbeats 4000000 in
theorem rightNo (c : Cf.C) (t : Nat → Cf.T) (l : Nat → Int) (e : Int) (he : (e == 0) = false) (w : World) (h : Hid (CfgAt w c t l)) (kc : Hid (∀ W, CfgAt W c t l → Calls Try.prog 8 #[.agg c.cells] W (Ret (.int .i64 e) W))) :
    Calls Try.prog 27 #[c.val] w (Ret (.bool false) w) := by
  unfold Cf.C.val
  go_enter Try.func27, Try.ntmps27
  go_wp2_with (first | (refine wpLoadCfg _ rfl rfl _ rfl c (heap_alloc_new _ _) ?_) | (go_at_call 8; (with_reducible refine (kc.out _ ?_).mono ?_); (exact h.out.below ((Below.refl _ _).alloc (Nat.le_refl _) _)); rintro e1 wA ⟨rfl, hbA⟩; obtain ⟨hx, hbA2, hlA⟩ := boxedNew (c := c) hbA))
  go_ret
  exact ⟨rfl, hbA2⟩

set_option maxRecDepth 100000 in
set_option maxHeartbeats 4000000 in
theorem rightYes (c : Cf.C) (t : Nat → Cf.T) (l : Nat → Int) (w : World) (h : Hid (CfgAt w c t l)) (kc : Hid (∀ W, CfgAt W c t l → Calls Try.prog 8 #[.agg c.cells] W (Ret (.int .i64 0) W))) :
    Calls Try.prog 27 #[c.val] w (Ret (.bool true) w) := by
  unfold Cf.C.val
  go_enter Try.func27, Try.ntmps27
  go_wp2_with (first | (refine wpLoadCfg _ rfl rfl _ rfl c (heap_alloc_new _ _) ?_) | (go_at_call 8; (with_reducible refine (kc.out _ ?_).mono ?_); (exact h.out.below ((Below.refl _ _).alloc (Nat.le_refl _) _)); rintro e1 wA ⟨rfl, hbA⟩; obtain ⟨hx, hbA2, hlA⟩ := boxedNew (c := c) hbA))
  go_ret
  exact ⟨rfl, hbA2⟩

set_option maxRecDepth 100000 in
set_option maxHeartbeats 4000000 in
theorem confClassesNo (c : Cf.C) (t : Nat → Cf.T) (l : Nat → Int) (e : Int) (he : (e == 0) = false) (w : World) (h : Hid (CfgAt w c t l)) (kc : Hid (∀ W, CfgAt W c t l → Calls Try.prog 7 #[.agg c.cells] W (Ret (.int .i64 e) W))) :
    Calls Try.prog 11 #[c.val] w (Ret (.int .i64 0) w) := by
  unfold Cf.C.val
  go_enter Try.func11, Try.ntmps11
  go_wp2_with (first | (refine wpLoadCfg _ rfl rfl _ rfl c (heap_alloc_new _ _) ?_) | (go_at_call 7; (with_reducible refine (kc.out _ ?_).mono ?_); (exact h.out.below ((Below.refl _ _).alloc (Nat.le_refl _) _)); rintro e1 wA ⟨rfl, hbA⟩; obtain ⟨hx, hbA2, hlA⟩ := boxedNew (c := c) hbA))
  go_ret
  exact ⟨rfl, hbA2⟩

set_option maxRecDepth 100000 in
set_option maxHeartbeats 4000000 in
theorem confClassesYes (c : Cf.C) (t : Nat → Cf.T) (l : Nat → Int) (hl : c.ll ≤ 3) (w : World) (h : Hid (CfgAt w c t l)) (kc : Hid (∀ W, CfgAt W c t l → Calls Try.prog 7 #[.agg c.cells] W (Ret (.int .i64 0) W))) :
    Calls Try.prog 11 #[c.val] w (Ret (.int .i64 ((c.ll : Int) + 1)) w) := by
  unfold Cf.C.val
  go_enter Try.func11, Try.ntmps11
  go_wp2_with (first | (refine wpLoadCfg _ rfl rfl _ rfl c (heap_alloc_new _ _) ?_) | (go_at_call 7; (with_reducible refine (kc.out _ ?_).mono ?_); (exact h.out.below ((Below.refl _ _).alloc (Nat.le_refl _) _)); rintro e1 wA ⟨rfl, hbA⟩; obtain ⟨hx, hbA2, hlA⟩ := boxedNew (c := c) hbA; have b1 := (boxed_of hx).b1))
  go_ret
  exact ⟨rfl, hbA2⟩

set_option maxRecDepth 100000 in
set_option maxHeartbeats 4000000 in
theorem confAttemptsNo (c : Cf.C) (t : Nat → Cf.T) (l : Nat → Int) (e : Int) (he : (e == 0) = false) (w : World) (h : Hid (CfgAt w c t l)) (kc : Hid (∀ W, CfgAt W c t l → Calls Try.prog 7 #[.agg c.cells] W (Ret (.int .i64 e) W))) :
    Calls Try.prog 15 #[c.val] w (Ret (.int .i64 0) w) := by
  unfold Cf.C.val
  go_enter Try.func15, Try.ntmps15
  go_wp2_with (first | (refine wpLoadCfg _ rfl rfl _ rfl c (heap_alloc_new _ _) ?_) | (go_at_call 7; (with_reducible refine (kc.out _ ?_).mono ?_); (exact h.out.below ((Below.refl _ _).alloc (Nat.le_refl _) _)); rintro e1 wA ⟨rfl, hbA⟩; obtain ⟨hx, hbA2, hlA⟩ := boxedNew (c := c) hbA))
  go_ret
  exact ⟨rfl, hbA2⟩

set_option maxRecDepth 100000 in
set_option maxHeartbeats 4000000 in
theorem confAttemptsYes (c : Cf.C) (t : Nat → Cf.T) (l : Nat → Int) (h80 : 0 ≤ c.f8) (h85 : c.f8 ≤ 5) (h90 : 0 ≤ c.f9) (h95 : c.f9 ≤ 5) (w : World) (h : Hid (CfgAt w c t l)) (kc : Hid (∀ W, CfgAt W c t l → Calls Try.prog 7 #[.agg c.cells] W (Ret (.int .i64 0) W))) :
    Calls Try.prog 15 #[c.val] w (Ret (.int .i64 (1 + c.f8 + c.f9)) w) := by
  unfold Cf.C.val
  go_enter Try.func15, Try.ntmps15
  go_wp2_with (first | (refine wpLoadCfg _ rfl rfl _ rfl c (heap_alloc_new _ _) ?_) | (go_at_call 7; (with_reducible refine (kc.out _ ?_).mono ?_); (exact h.out.below ((Below.refl _ _).alloc (Nat.le_refl _) _)); rintro e1 wA ⟨rfl, hbA⟩; obtain ⟨hx, hbA2, hlA⟩ := boxedNew (c := c) hbA; have b8 := (boxed_of hx).b8; have b9 := (boxed_of hx).b9))
  go_ret
  exact ⟨rfl, hbA2⟩

set_option maxRecDepth 100000 in
set_option maxHeartbeats 4000000 in
theorem confLimitNo (c : Cf.C) (t : Nat → Cf.T) (l : Nat → Int) (e : Int) (he : (e == 0) = false) (k : Int) (w : World) (h : Hid (CfgAt w c t l)) (kc : Hid (∀ W, CfgAt W c t l → Calls Try.prog 7 #[.agg c.cells] W (Ret (.int .i64 e) W))) :
    Calls Try.prog 13 #[c.val, .int .i64 k] w (Ret (.int .i64 0) w) := by
  have hb : (e != 0) = true := by simp [bne, he]
  unfold Cf.C.val
  go_enter Try.func13, Try.ntmps13
  go_wp2_with (first | (refine wpLoadCfg _ rfl rfl _ rfl c (heap_alloc_new _ _) ?_) | (go_at_call 7; (with_reducible refine (kc.out _ ?_).mono ?_); (exact h.out.below ((Below.refl _ _).alloc (Nat.le_refl _) _)); rintro e1 wA ⟨rfl, hbA⟩; obtain ⟨hx, hbA2, hlA⟩ := boxedNew (c := c) hbA))
  go_ret
  exact ⟨rfl, hbA2⟩

set_option maxRecDepth 100000 in
set_option maxHeartbeats 4000000 in
theorem confLimitLo (c : Cf.C) (t : Nat → Cf.T) (l : Nat → Int) (k : Int) (hk : k < 0) (w : World) (h : Hid (CfgAt w c t l)) (kc : Hid (∀ W, CfgAt W c t l → Calls Try.prog 7 #[.agg c.cells] W (Ret (.int .i64 0) W))) :
    Calls Try.prog 13 #[c.val, .int .i64 k] w (Ret (.int .i64 0) w) := by
  unfold Cf.C.val
  go_enter Try.func13, Try.ntmps13
  go_wp2_with (first | (refine wpLoadCfg _ rfl rfl _ rfl c (heap_alloc_new _ _) ?_) | (go_at_call 7; (with_reducible refine (kc.out _ ?_).mono ?_); (exact h.out.below ((Below.refl _ _).alloc (Nat.le_refl _) _)); rintro e1 wA ⟨rfl, hbA⟩; obtain ⟨hx, hbA2, hlA⟩ := boxedNew (c := c) hbA))
  go_ret
  exact ⟨rfl, hbA2⟩

set_option maxRecDepth 100000 in
set_option maxHeartbeats 4000000 in
theorem confLimitHi (c : Cf.C) (t : Nat → Cf.T) (l : Nat → Int) (k : Int) (hk : ¬ k < 0) (hk2 : (c.ll : Int) ≤ k) (w : World) (h : Hid (CfgAt w c t l)) (kc : Hid (∀ W, CfgAt W c t l → Calls Try.prog 7 #[.agg c.cells] W (Ret (.int .i64 0) W))) :
    Calls Try.prog 13 #[c.val, .int .i64 k] w (Ret (.int .i64 0) w) := by
  unfold Cf.C.val
  go_enter Try.func13, Try.ntmps13
  go_wp2_with (first | (refine wpLoadCfg _ rfl rfl _ rfl c (heap_alloc_new _ _) ?_) | (go_at_call 7; (with_reducible refine (kc.out _ ?_).mono ?_); (exact h.out.below ((Below.refl _ _).alloc (Nat.le_refl _) _)); rintro e1 wA ⟨rfl, hbA⟩; obtain ⟨hx, hbA2, hlA⟩ := boxedNew (c := c) hbA; have b1 := (boxed_of hx).b1))
  go_ret
  exact ⟨rfl, hbA2⟩

set_option maxRecDepth 100000 in
set_option maxHeartbeats 4000000 in
theorem confLimitIn (c : Cf.C) (t : Nat → Cf.T) (l : Nat → Int) (k : Nat) (hk : k < c.ll) (w : World) (h : Hid (CfgAt w c t l)) (kc : Hid (∀ W, CfgAt W c t l → Calls Try.prog 7 #[.agg c.cells] W (Ret (.int .i64 0) W))) :
    Calls Try.prog 13 #[c.val, .int .i64 (k : Int)] w (Ret (.int .i64 (l k)) w) := by
  unfold Cf.C.val
  go_enter Try.func13, Try.ntmps13
  go_wp2_with (first | (refine wpLoadCfg _ rfl rfl _ rfl c (heap_alloc_new _ _) ?_) | (go_at_call 7; (with_reducible refine (kc.out _ ?_).mono ?_); (exact h.out.below ((Below.refl _ _).alloc (Nat.le_refl _) _)); rintro e1 wA ⟨rfl, hbA⟩; obtain ⟨hx, hbA2, hlA⟩ := boxedNew (c := c) hbA; have b1 := (boxed_of hx).b1; obtain ⟨g, off, hla, hcA⟩ := (h.out.below hbA2).l.cell hk; rw [hla] at b1))
  go_ret
  exact ⟨rfl, hbA2⟩

set_option maxRecDepth 100000 in
set_option maxHeartbeats 4000000 in
theorem refClassesNo (c : Cf.C) (t : Nat → Cf.T) (l : Nat → Int) (w : World) (h : Hid (CfgAt w c t l)) (kc : Hid (∀ W, CfgAt W c t l → Calls Try.prog 27 #[.agg c.cells] W (Ret (.bool false) W))) :
    Calls Try.prog 12 #[c.val] w (Ret (.int .i64 0) w) := by
  unfold Cf.C.val
  go_enter Try.func12, Try.ntmps12
  go_wp2_with (first | (refine wpLoadCfg _ rfl rfl _ rfl c (heap_alloc_new _ _) ?_) | (go_at_call 27; (with_reducible refine (kc.out _ ?_).mono ?_); (exact h.out.below ((Below.refl _ _).alloc (Nat.le_refl _) _)); rintro e1 wA ⟨rfl, hbA⟩; obtain ⟨hx, hbA2, hlA⟩ := boxedNew (c := c) hbA))
  go_ret
  exact ⟨rfl, hbA2⟩

set_option maxRecDepth 100000 in
set_option maxHeartbeats 4000000 in
theorem refClassesYes (c : Cf.C) (t : Nat → Cf.T) (l : Nat → Int) (hl : c.ll ≤ 3) (w : World) (h : Hid (CfgAt w c t l)) (kc : Hid (∀ W, CfgAt W c t l → Calls Try.prog 27 #[.agg c.cells] W (Ret (.bool true) W))) :
    Calls Try.prog 12 #[c.val] w (Ret (.int .i64 ((c.ll : Int) + 1)) w) := by
  unfold Cf.C.val
  go_enter Try.func12, Try.ntmps12
  go_wp2_with (first | (refine wpLoadCfg _ rfl rfl _ rfl c (heap_alloc_new _ _) ?_) | (go_at_call 27; (with_reducible refine (kc.out _ ?_).mono ?_); (exact h.out.below ((Below.refl _ _).alloc (Nat.le_refl _) _)); rintro e1 wA ⟨rfl, hbA⟩; obtain ⟨hx, hbA2, hlA⟩ := boxedNew (c := c) hbA; have b1 := (boxed_of hx).b1))
  go_ret
  exact ⟨rfl, hbA2⟩

set_option maxRecDepth 100000 in
set_option maxHeartbeats 4000000 in
theorem refAttemptsNo (c : Cf.C) (t : Nat → Cf.T) (l : Nat → Int) (w : World) (h : Hid (CfgAt w c t l)) (kc : Hid (∀ W, CfgAt W c t l → Calls Try.prog 27 #[.agg c.cells] W (Ret (.bool false) W))) :
    Calls Try.prog 16 #[c.val] w (Ret (.int .i64 0) w) := by
  unfold Cf.C.val
  go_enter Try.func16, Try.ntmps16
  go_wp2_with (first | (refine wpLoadCfg _ rfl rfl _ rfl c (heap_alloc_new _ _) ?_) | (go_at_call 27; (with_reducible refine (kc.out _ ?_).mono ?_); (exact h.out.below ((Below.refl _ _).alloc (Nat.le_refl _) _)); rintro e1 wA ⟨rfl, hbA⟩; obtain ⟨hx, hbA2, hlA⟩ := boxedNew (c := c) hbA))
  go_ret
  exact ⟨rfl, hbA2⟩

set_option maxRecDepth 100000 in
set_option maxHeartbeats 4000000 in
theorem refAttemptsYes (c : Cf.C) (t : Nat → Cf.T) (l : Nat → Int) (h80 : 0 ≤ c.f8) (h85 : c.f8 ≤ 5) (h90 : 0 ≤ c.f9) (h95 : c.f9 ≤ 5) (w : World) (h : Hid (CfgAt w c t l)) (kc : Hid (∀ W, CfgAt W c t l → Calls Try.prog 27 #[.agg c.cells] W (Ret (.bool true) W))) :
    Calls Try.prog 16 #[c.val] w (Ret (.int .i64 (1 + c.f8 + c.f9)) w) := by
  unfold Cf.C.val
  go_enter Try.func16, Try.ntmps16
  go_wp2_with (first | (refine wpLoadCfg _ rfl rfl _ rfl c (heap_alloc_new _ _) ?_) | (go_at_call 27; (with_reducible refine (kc.out _ ?_).mono ?_); (exact h.out.below ((Below.refl _ _).alloc (Nat.le_refl _) _)); rintro e1 wA ⟨rfl, hbA⟩; obtain ⟨hx, hbA2, hlA⟩ := boxedNew (c := c) hbA; have b8 := (boxed_of hx).b8; have b9 := (boxed_of hx).b9))
  go_ret
  exact ⟨rfl, hbA2⟩

set_option maxRecDepth 100000 in
set_option maxHeartbeats 4000000 in
theorem refLimitNo (c : Cf.C) (t : Nat → Cf.T) (l : Nat → Int) (k : Int) (w : World) (h : Hid (CfgAt w c t l)) (kc : Hid (∀ W, CfgAt W c t l → Calls Try.prog 27 #[.agg c.cells] W (Ret (.bool false) W))) :
    Calls Try.prog 14 #[c.val, .int .i64 k] w (Ret (.int .i64 0) w) := by

  unfold Cf.C.val
  go_enter Try.func14, Try.ntmps14
  go_wp2_with (first | (refine wpLoadCfg _ rfl rfl _ rfl c (heap_alloc_new _ _) ?_) | (go_at_call 27; (with_reducible refine (kc.out _ ?_).mono ?_); (exact h.out.below ((Below.refl _ _).alloc (Nat.le_refl _) _)); rintro e1 wA ⟨rfl, hbA⟩; obtain ⟨hx, hbA2, hlA⟩ := boxedNew (c := c) hbA))
  go_ret
  exact ⟨rfl, hbA2⟩

set_option maxRecDepth 100000 in
set_option maxHeartbeats 4000000 in
theorem refLimitLo (c : Cf.C) (t : Nat → Cf.T) (l : Nat → Int) (k : Int) (hk : k < 0) (w : World) (h : Hid (CfgAt w c t l)) (kc : Hid (∀ W, CfgAt W c t l → Calls Try.prog 27 #[.agg c.cells] W (Ret (.bool true) W))) :
    Calls Try.prog 14 #[c.val, .int .i64 k] w (Ret (.int .i64 0) w) := by
  unfold Cf.C.val
  go_enter Try.func14, Try.ntmps14
  go_wp2_with (first | (refine wpLoadCfg _ rfl rfl _ rfl c (heap_alloc_new _ _) ?_) | (go_at_call 27; (with_reducible refine (kc.out _ ?_).mono ?_); (exact h.out.below ((Below.refl _ _).alloc (Nat.le_refl _) _)); rintro e1 wA ⟨rfl, hbA⟩; obtain ⟨hx, hbA2, hlA⟩ := boxedNew (c := c) hbA))
  go_ret
  exact ⟨rfl, hbA2⟩

set_option maxRecDepth 100000 in
set_option maxHeartbeats 4000000 in
theorem refLimitHi (c : Cf.C) (t : Nat → Cf.T) (l : Nat → Int) (k : Int) (hk : ¬ k < 0) (hk2 : (c.ll : Int) ≤ k) (w : World) (h : Hid (CfgAt w c t l)) (kc : Hid (∀ W, CfgAt W c t l → Calls Try.prog 27 #[.agg c.cells] W (Ret (.bool true) W))) :
    Calls Try.prog 14 #[c.val, .int .i64 k] w (Ret (.int .i64 0) w) := by
  unfold Cf.C.val
  go_enter Try.func14, Try.ntmps14
  go_wp2_with (first | (refine wpLoadCfg _ rfl rfl _ rfl c (heap_alloc_new _ _) ?_) | (go_at_call 27; (with_reducible refine (kc.out _ ?_).mono ?_); (exact h.out.below ((Below.refl _ _).alloc (Nat.le_refl _) _)); rintro e1 wA ⟨rfl, hbA⟩; obtain ⟨hx, hbA2, hlA⟩ := boxedNew (c := c) hbA; have b1 := (boxed_of hx).b1))
  go_ret
  exact ⟨rfl, hbA2⟩

set_option maxRecDepth 100000 in
set_option maxHeartbeats 4000000 in
theorem refLimitIn (c : Cf.C) (t : Nat → Cf.T) (l : Nat → Int) (k : Nat) (hk : k < c.ll) (w : World) (h : Hid (CfgAt w c t l)) (kc : Hid (∀ W, CfgAt W c t l → Calls Try.prog 27 #[.agg c.cells] W (Ret (.bool true) W))) :
    Calls Try.prog 14 #[c.val, .int .i64 (k : Int)] w (Ret (.int .i64 (l k)) w) := by
  unfold Cf.C.val
  go_enter Try.func14, Try.ntmps14
  go_wp2_with (first | (refine wpLoadCfg _ rfl rfl _ rfl c (heap_alloc_new _ _) ?_) | (go_at_call 27; (with_reducible refine (kc.out _ ?_).mono ?_); (exact h.out.below ((Below.refl _ _).alloc (Nat.le_refl _) _)); rintro e1 wA ⟨rfl, hbA⟩; obtain ⟨hx, hbA2, hlA⟩ := boxedNew (c := c) hbA; have b1 := (boxed_of hx).b1; obtain ⟨g, off, hla, hcA⟩ := (h.out.below hbA2).l.cell hk; rw [hla] at b1))
  go_ret
  exact ⟨rfl, hbA2⟩

theorem checkK (c : Cf.C) (t : Nat → Cf.T) (l : Nat → Int) : ∀ W, CfgAt W c t l → Calls Try.prog 7 #[.agg c.cells] W (Ret (.int .i64 (Cf.check nmB c t l)) W) := fun W h => checkC c t l W h
theorem refCheckK (c : Cf.C) (t : Nat → Cf.T) (l : Nat → Int) : ∀ W, CfgAt W c t l → Calls Try.prog 8 #[.agg c.cells] W (Ret (.int .i64 (Cf.check nmB c t l)) W) := fun W h => refCheckC c t l W h
theorem rightNoK {c : Cf.C} {t : Nat → Cf.T} {l : Nat → Int} (he : (Cf.check nmB c t l == 0) = false) : ∀ W, CfgAt W c t l → Calls Try.prog 27 #[.agg c.cells] W (Ret (.bool false) W) := fun W h => rightNo c t l _ he W (Lib.hid h) (Lib.hid (refCheckK c t l))
theorem rightYesK {c : Cf.C} {t : Nat → Cf.T} {l : Nat → Int} (he : Cf.check nmB c t l = 0) : ∀ W, CfgAt W c t l → Calls Try.prog 27 #[.agg c.cells] W (Ret (.bool true) W) := fun W h => rightYes c t l W (Lib.hid h) (Lib.hid (by have := refCheckK c t l; rwa [he] at this))
theorem checkYesK {c : Cf.C} {t : Nat → Cf.T} {l : Nat → Int} (he : Cf.check nmB c t l = 0) : ∀ W, CfgAt W c t l → Calls Try.prog 7 #[.agg c.cells] W (Ret (.int .i64 0) W) := by have := checkK c t l; rwa [he] at this
theorem confClassesC (c : Cf.C) (t : Nat → Cf.T) (l : Nat → Int) (w : World) (h : CfgAt w c t l) : Calls Try.prog 11 #[c.val] w (Ret (.int .i64 (Cf.classesV (Cf.check nmB c t l) c)) w) := by
  unfold Cf.classesV
  by_cases he : Cf.check nmB c t l = 0
  · rw [if_pos he]
    obtain ⟨h1, h2, h3, h4, h5⟩ := Cf.check_ok he
    exact confClassesYes c t l h1 w (Lib.hid h) (Lib.hid (checkYesK he))
  · have he2 : (Cf.check nmB c t l == 0) = false := by simpa using he
    rw [if_neg he]
    exact confClassesNo c t l _ he2 w (Lib.hid h) (Lib.hid (checkK c t l))
theorem confAttemptsC (c : Cf.C) (t : Nat → Cf.T) (l : Nat → Int) (w : World) (h : CfgAt w c t l) : Calls Try.prog 15 #[c.val] w (Ret (.int .i64 (Cf.attemptsV (Cf.check nmB c t l) c)) w) := by
  unfold Cf.attemptsV
  by_cases he : Cf.check nmB c t l = 0
  · rw [if_pos he]
    obtain ⟨h1, h2, h3, h4, h5⟩ := Cf.check_ok he
    exact confAttemptsYes c t l h2 h3 h4 h5 w (Lib.hid h) (Lib.hid (checkYesK he))
  · have he2 : (Cf.check nmB c t l == 0) = false := by simpa using he
    rw [if_neg he]
    exact confAttemptsNo c t l _ he2 w (Lib.hid h) (Lib.hid (checkK c t l))
theorem confLimitC (c : Cf.C) (t : Nat → Cf.T) (l : Nat → Int) (k : Int) (w : World) (h : CfgAt w c t l) : Calls Try.prog 13 #[c.val, .int .i64 k] w (Ret (.int .i64 (Cf.limitV (Cf.check nmB c t l) c l k)) w) := by
  unfold Cf.limitV
  by_cases he : Cf.check nmB c t l = 0
  · by_cases h0 : k < 0
    · rw [if_neg (by omega)]
      exact confLimitLo c t l k h0 w (Lib.hid h) (Lib.hid (checkYesK he))
    · by_cases h1 : (c.ll : Int) ≤ k
      · rw [if_neg (by omega)]
        exact confLimitHi c t l k h0 h1 w (Lib.hid h) (Lib.hid (checkYesK he))
      · rw [if_pos (by omega)]
        obtain ⟨n, rfl⟩ := Int.eq_ofNat_of_zero_le (show 0 ≤ k by omega)
        exact confLimitIn c t l n (by omega) w (Lib.hid h) (Lib.hid (checkYesK he))
  · have he2 : (Cf.check nmB c t l == 0) = false := by simpa using he
    rw [if_neg (fun h => he h.1)]
    exact confLimitNo c t l _ he2 k w (Lib.hid h) (Lib.hid (checkK c t l))
theorem refClassesC (c : Cf.C) (t : Nat → Cf.T) (l : Nat → Int) (w : World) (h : CfgAt w c t l) : Calls Try.prog 12 #[c.val] w (Ret (.int .i64 (Cf.classesV (Cf.check nmB c t l) c)) w) := by
  unfold Cf.classesV
  by_cases he : Cf.check nmB c t l = 0
  · rw [if_pos he]
    obtain ⟨h1, h2, h3, h4, h5⟩ := Cf.check_ok he
    exact refClassesYes c t l h1 w (Lib.hid h) (Lib.hid (rightYesK he))
  · have he2 : (Cf.check nmB c t l == 0) = false := by simpa using he
    rw [if_neg he]
    exact refClassesNo c t l w (Lib.hid h) (Lib.hid (rightNoK he2))
theorem refAttemptsC (c : Cf.C) (t : Nat → Cf.T) (l : Nat → Int) (w : World) (h : CfgAt w c t l) : Calls Try.prog 16 #[c.val] w (Ret (.int .i64 (Cf.attemptsV (Cf.check nmB c t l) c)) w) := by
  unfold Cf.attemptsV
  by_cases he : Cf.check nmB c t l = 0
  · rw [if_pos he]
    obtain ⟨h1, h2, h3, h4, h5⟩ := Cf.check_ok he
    exact refAttemptsYes c t l h2 h3 h4 h5 w (Lib.hid h) (Lib.hid (rightYesK he))
  · have he2 : (Cf.check nmB c t l == 0) = false := by simpa using he
    rw [if_neg he]
    exact refAttemptsNo c t l w (Lib.hid h) (Lib.hid (rightNoK he2))
theorem refLimitC (c : Cf.C) (t : Nat → Cf.T) (l : Nat → Int) (k : Int) (w : World) (h : CfgAt w c t l) : Calls Try.prog 14 #[c.val, .int .i64 k] w (Ret (.int .i64 (Cf.limitV (Cf.check nmB c t l) c l k)) w) := by
  unfold Cf.limitV
  by_cases he : Cf.check nmB c t l = 0
  · by_cases h0 : k < 0
    · rw [if_neg (by omega)]
      exact refLimitLo c t l k h0 w (Lib.hid h) (Lib.hid (rightYesK he))
    · by_cases h1 : (c.ll : Int) ≤ k
      · rw [if_neg (by omega)]
        exact refLimitHi c t l k h0 h1 w (Lib.hid h) (Lib.hid (rightYesK he))
      · rw [if_pos (by omega)]
        obtain ⟨n, rfl⟩ := Int.eq_ofNat_of_zero_le (show 0 ≤ k by omega)
        exact refLimitIn c t l n (by omega) w (Lib.hid h) (Lib.hid (rightYesK he))
  · have he2 : (Cf.check nmB c t l == 0) = false := by simpa using he
    rw [if_neg (fun h => he h.1)]
    exact refLimitNo c t l k w (Lib.hid h) (Lib.hid (rightNoK he2))
end Go.Proofs.Ytafighelgdlocaa
