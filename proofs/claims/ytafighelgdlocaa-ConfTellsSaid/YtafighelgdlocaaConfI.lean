/-
  A tenant's number: both sides.
-/
import Derived.Test.YtafighelgdlocaaConfH
namespace Cf
set_option linter.unusedVariables false
def find (t : Nat → T) (n : ByteArray) : Nat → Nat → Int
  | 0, _ => -1
  | k + 1, i => if (t i).1 = n then (i : Int) else find t n k (i + 1)
def tenantV (e : Int) (c : C) (t : Nat → T) (n : ByteArray) : Int := if e = 0 then find t n c.tl 0 else -1
end Cf
namespace Go.Proofs.Ytafighelgdlocaa
open Go.RowKit
set_option linter.unusedVariables false

set_option maxRecDepth 100000 in
set_option maxHeartbeats 4000000 in
theorem refTenantNo (c : Cf.C) (t : Nat → Cf.T) (l : Nat → Int) (n : ByteArray) (w : World) (h : Hid (CfgAt w c t l)) (kc : Hid (∀ W, CfgAt W c t l → Calls Try.prog 27 #[.agg c.cells] W (Ret (.bool false) W))) :
    Calls Try.prog 10 #[c.val, .string n] w (Ret (.int .i64 (-1)) w) := by
  unfold Cf.C.val
  go_enter Try.func10, Try.ntmps10
  go_wp2_with (first | (refine wpLoadCfg _ rfl rfl _ rfl c (heap_alloc_new _ _) ?_) | (go_at_call 27; (with_reducible refine (kc.out _ ?_).mono ?_); (exact h.out.below ((Below.refl _ _).alloc (Nat.le_refl _) _)); rintro e1 wA ⟨rfl, hbA⟩; obtain ⟨hx, hbA2, hlA⟩ := boxedNew (c := c) hbA))
  go_ret
  exact ⟨rfl, hbA2⟩

set_option maxRecDepth 100000 in
set_option maxHeartbeats 4000000 in
theorem refTenantYes (c : Cf.C) (t : Nat → Cf.T) (l : Nat → Int) (n : ByteArray) (w : World) (htl : c.tl ≤ 100) (h : Hid (CfgAt w c t l)) (kc : Hid (∀ W, CfgAt W c t l → Calls Try.prog 27 #[.agg c.cells] W (Ret (.bool true) W))) :
    Calls Try.prog 10 #[c.val, .string n] w (Ret (.int .i64 (Cf.find t n c.tl 0)) w) := by
  obtain ⟨r, hR⟩ : ∃ r, r = Cf.find t n c.tl 0 := ⟨_, rfl⟩
  rw [← hR]
  have HR := Lib.hid hR; clear hR
  unfold Cf.C.val
  go_enter Try.func10, Try.ntmps10
  go_wp2_with (first | (refine wpLoadCfg _ rfl rfl _ rfl c (heap_alloc_new _ _) ?_) | (go_at_call 27; (with_reducible refine (kc.out _ ?_).mono ?_); (exact h.out.below ((Below.refl _ _).alloc (Nat.le_refl _) _)); rintro e1 wA ⟨rfl, hbA⟩; obtain ⟨hx, hbA2, hlA⟩ := boxedNew (c := c) hbA))
  have b0 := (boxed_of hx).b0
  have HT := Lib.hid (h.out.below hbA2).t
  clear kc h hbA hx
  go_loop [5] (fun i => ∃ k : Nat, k ≤ c.tl ∧ i = .int .i64 (k : Int) ∧ Hid (r = Cf.find t n (c.tl - k) k)) (fun i => c.tl - (intOf i).toNat)
  case atStart => exact ⟨0, by omega, rfl, HR⟩
  case round =>
    obtain ⟨k, hk, rfl, hr⟩ := hrel
    replace hr := hr.out
    by_cases hlt : k < c.tl
    · rw [show c.tl - k = (c.tl - (k + 1)) + 1 by omega] at hr
      simp only [Cf.find] at hr
      obtain ⟨g, off, hta, hgl, hc⟩ := HT.out.at (by omega)
      have c0 := (hc k hlt).1
      rw [hta] at b0
      clear hc HR
      generalize (t k).1 = s at *
      by_cases e : s = n
      · rw [if_pos e] at hr
        subst hr e
        go_wp2
        go_ret
        exact ⟨rfl, hbA2⟩
      · have E := eq_no e
        rw [if_neg e] at hr
        have HR := Lib.hid hr
        clear hr e
        go_wp2
        go_round
        case rel => exact ⟨k + 1, by omega, by go_num, HR⟩
        case measure => simp [intOf]; omega
    · obtain rfl : k = c.tl := by omega
      rw [Nat.sub_self] at hr
      replace hr : r = -1 := hr
      clear HR
      subst hr
      go_wp2
      go_ret
      exact ⟨rfl, hbA2⟩

set_option maxRecDepth 100000 in
set_option maxHeartbeats 4000000 in
theorem sameNameC (s n : ByteArray) (x y : Int) (q : Nat) (w : World) (hq : q < w.heap.size) (hn : w.cell? ⟨q, 0, none⟩ = some (.string n)) :
    Calls Try.prog 26 #[.agg #[.string s, .int .i64 x, .int .i64 y], .pointer (some ⟨q, 0, none⟩)] w (Ret (.bool (s.toList == n.toList)) w) := by
  go_enter Try.func26, Try.ntmps26
  go_wp2
  go_ret
  exact ⟨rfl, (Below.refl _ _).alloc (Nat.le_refl _) _⟩
set_option maxRecDepth 100000 in
set_option maxHeartbeats 4000000 in
theorem indexFuncC (a : Option Addr) (len cap : Nat) (t : Nat → Cf.T) (n : ByteArray) (q : Nat) (w : World) (hl : len ≤ 100) (h : TenAt w a len t) (hq : q < w.heap.size) (hn : w.cell? ⟨q, 0, none⟩ = some (.string n)) :
    Calls Try.prog 25 #[.slice a len cap, .func (.func 26) #[] #[.pointer (some ⟨q, 0, none⟩)]] w (Ret (.int .i64 (Cf.find t n len 0)) w) := by
  obtain ⟨r, hR⟩ : ∃ r, r = Cf.find t n len 0 := ⟨_, rfl⟩
  rw [← hR]
  have HR := Lib.hid hR; clear hR
  have HT := Lib.hid h; clear h
  have HN := Lib.hid hn; clear hn
  go_enter Try.func25, Try.ntmps25
  go_wp2
  go_loopw [8] (fun i wr => ∃ k : Nat, k ≤ len ∧ i = .int .i64 (k : Int) ∧ Below w.heap.size w wr ∧ Hid (r = Cf.find t n (len - k) k)) (fun i _ => len - (intOf i).toNat)
  case atStart => exact ⟨0, by omega, rfl, Below.refl _ _, HR⟩
  case round =>
    obtain ⟨k, hk, rfl, hb, hr⟩ := hrel
    replace hr := hr.out
    by_cases hlt : k < len
    · rw [show len - k = (len - (k + 1)) + 1 by omega] at hr
      simp only [Cf.find] at hr
      obtain ⟨g, off, rfl, hgl, hc⟩ := (HT.out.below hb).at (by omega)
      obtain ⟨c0, c1, c2, _⟩ := hc k hlt
      have hq2 : q < wr.heap.size := Nat.lt_of_lt_of_le hq hb.size
      have hn2 := (hb.cell (p := ⟨q, 0, none⟩) hq).trans HN.out
      have kn := fun x y => sameNameC (t k).1 n x y q wr hq2 hn2
      clear hc HR hn2
      generalize (t k).1 = s at *
      by_cases e : s = n
      · rw [if_pos e] at hr
        rw [eq_yes e] at kn
        have KN := Lib.hid kn
        clear kn e
        subst hr
        go_wp2_with (go_at_call 26; (with_reducible refine (KN.out _ _).mono ?_); rintro e1 wA ⟨rfl, hbA⟩)
        go_ret
        exact ⟨rfl, hb.trans (hbA.mono hb.size)⟩
      · rw [if_neg e] at hr
        rw [eq_no e] at kn
        have KN := Lib.hid kn
        have HR := Lib.hid hr
        clear hr e kn
        go_wp2_with (go_at_call 26; (with_reducible refine (KN.out _ _).mono ?_); rintro e1 wA ⟨rfl, hbA⟩)
        go_roundw
        case rel => exact ⟨k + 1, by omega, by go_num, hb.trans (hbA.mono hb.size), HR⟩
        case measure => simp [intOf]; omega
    · obtain rfl : k = len := by omega
      rw [Nat.sub_self] at hr
      replace hr : r = -1 := hr
      clear HR
      subst hr
      go_wp2
      go_ret
      exact ⟨rfl, hb⟩

theorem alloc_keep (w : World) (o1 o2 : Obj) : ((w.alloc o1).alloc o2).heap[w.heap.size]? = some o1 := by
  rw [Lib.alloc_old _ _ _ (by simp)]
  exact heap_alloc_new w o1
set_option maxRecDepth 100000 in
set_option maxHeartbeats 4000000 in
theorem tenantNo (c : Cf.C) (t : Nat → Cf.T) (l : Nat → Int) (n : ByteArray) (e : Int) (he : (e == 0) = false) (w : World) (h : Hid (CfgAt w c t l)) (kc : Hid (∀ W, CfgAt W c t l → Calls Try.prog 7 #[.agg c.cells] W (Ret (.int .i64 e) W))) :
    Calls Try.prog 9 #[c.val, .string n] w (Ret (.tuple #[.int .i64 0, .bool false]) w) := by
  unfold Cf.C.val
  go_enter Try.func9, Try.ntmps9
  go_wp2_with (first | (refine wpLoadCfg _ rfl rfl _ rfl c (alloc_keep _ _ _) ?_) | (go_at_call 7; (with_reducible refine (kc.out _ ?_).mono ?_); (exact (h.out.below ((Below.refl _ _).alloc (Nat.le_refl _) _)).below ((Below.refl _ _).alloc (Nat.le_refl _) _)); rintro e1 wA ⟨rfl, hbA⟩))
  go_ret2
  exact ⟨rfl, (((Below.refl _ _).alloc (Nat.le_refl _) _).alloc (by simp) _).trans (hbA.mono (by simp; omega))⟩

/-- two boxes behind calls that make memory -/
theorem twoNew {W wA : World} {c : Cf.C} {n : ByteArray} {ty : TypeId} (h : Below ((W.alloc (.cells c.cells 25)).alloc (.cells #[.string n] ty)).heap.size ((W.alloc (.cells c.cells 25)).alloc (.cells #[.string n] ty)) wA) :
    wA.heap[W.heap.size]? = some (.cells c.cells 25) ∧ wA.cell? ⟨W.heap.size + 1, 0, none⟩ = some (.string n) ∧ Below W.heap.size W wA ∧ W.heap.size + 1 < wA.heap.size := by
  have hs := h.size
  have h1 : wA.heap[W.heap.size + 1]? = some (.cells #[.string n] ty) := (h.block (W.heap.size + 1) (by simp)).trans (alloc2_new _ _ _)
  refine ⟨(h.block W.heap.size (by simp; omega)).trans (alloc_keep _ _ _), ?_, (((Below.refl _ _).alloc (Nat.le_refl _) _).alloc (by simp) _).trans (h.mono (by simp; omega)), by simp at hs; omega⟩
  rw [cell_of_row wA _ 0 _ _ _ h1]; rfl

set_option maxRecDepth 100000 in
set_option maxHeartbeats 4000000 in
theorem tenantMiss (c : Cf.C) (t : Nat → Cf.T) (l : Nat → Int) (n : ByteArray) (w : World) (h : Hid (CfgAt w c t l)) (kc : Hid (∀ W, CfgAt W c t l → Calls Try.prog 7 #[.agg c.cells] W (Ret (.int .i64 0) W)))
    (ki : Hid (∀ q W, TenAt W c.ta c.tl t → q < W.heap.size → W.cell? ⟨q, 0, none⟩ = some (.string n) → Calls Try.prog 25 #[.slice c.ta c.tl c.tc, .func (.func 26) #[] #[.pointer (some ⟨q, 0, none⟩)]] W (Ret (.int .i64 (-1)) W))) :
    Calls Try.prog 9 #[c.val, .string n] w (Ret (.tuple #[.int .i64 0, .bool false]) w) := by
  unfold Cf.C.val
  go_enter Try.func9, Try.ntmps9
  go_wp2_with (first | (refine wpLoadCfg _ rfl rfl _ rfl c (alloc_keep _ _ _) ?_) | (go_at_call 7; (with_reducible refine (kc.out _ ?_).mono ?_); (exact (h.out.below ((Below.refl _ _).alloc (Nat.le_refl _) _)).below ((Below.refl _ _).alloc (Nat.le_refl _) _)); rintro e1 wA ⟨rfl, hbA⟩; obtain ⟨hx, hn, hbA2, hlA⟩ := twoNew (c := c) hbA; have b0 := (boxed_of hx).b0) | (go_at_call 25; (with_reducible refine (ki.out _ _ ?_ ?_ ?_).mono ?_); (exact (h.out.below hbA2).t); (exact hlA); (exact hn); rintro e2 wB ⟨rfl, hbB⟩))
  go_ret2
  exact ⟨rfl, hbA2.trans (hbB.mono hbA2.size)⟩

set_option maxRecDepth 100000 in
set_option maxHeartbeats 4000000 in
theorem tenantHit (c : Cf.C) (t : Nat → Cf.T) (l : Nat → Int) (n : ByteArray) (k : Nat) (w : World) (h : Hid (CfgAt w c t l)) (kc : Hid (∀ W, CfgAt W c t l → Calls Try.prog 7 #[.agg c.cells] W (Ret (.int .i64 0) W)))
    (ki : Hid (∀ q W, TenAt W c.ta c.tl t → q < W.heap.size → W.cell? ⟨q, 0, none⟩ = some (.string n) → Calls Try.prog 25 #[.slice c.ta c.tl c.tc, .func (.func 26) #[] #[.pointer (some ⟨q, 0, none⟩)]] W (Ret (.int .i64 (k : Int)) W))) :
    Calls Try.prog 9 #[c.val, .string n] w (Ret (.tuple #[.int .i64 (k : Int), .bool true]) w) := by
  unfold Cf.C.val
  go_enter Try.func9, Try.ntmps9
  go_wp2_with (first | (refine wpLoadCfg _ rfl rfl _ rfl c (alloc_keep _ _ _) ?_) | (go_at_call 7; (with_reducible refine (kc.out _ ?_).mono ?_); (exact (h.out.below ((Below.refl _ _).alloc (Nat.le_refl _) _)).below ((Below.refl _ _).alloc (Nat.le_refl _) _)); rintro e1 wA ⟨rfl, hbA⟩; obtain ⟨hx, hn, hbA2, hlA⟩ := twoNew (c := c) hbA; have b0 := (boxed_of hx).b0) | (go_at_call 25; (with_reducible refine (ki.out _ _ ?_ ?_ ?_).mono ?_); (exact (h.out.below hbA2).t); (exact hlA); (exact hn); rintro e2 wB ⟨rfl, hbB⟩))
  go_ret2
  exact ⟨rfl, hbA2.trans (hbB.mono hbA2.size)⟩

theorem find_is (t : Nat → Cf.T) (n : ByteArray) : ∀ k i, Cf.find t n k i = -1 ∨ ∃ j : Nat, Cf.find t n k i = (j : Int)
  | 0, _ => Or.inl rfl
  | k + 1, i => by
    unfold Cf.find
    split
    · exact Or.inr ⟨i, rfl⟩
    · exact find_is t n k (i + 1)
/-- a number and whether there is one -/
def foundV (r : Int) : Value := .tuple #[.int .i64 (if r < 0 then 0 else r), .bool (decide (0 ≤ r))]
theorem confTenantC (c : Cf.C) (t : Nat → Cf.T) (l : Nat → Int) (n : ByteArray) (w : World) (h : CfgAt w c t l) : Calls Try.prog 9 #[c.val, .string n] w (Ret (foundV (Cf.tenantV (Cf.check nmB c t l) c t n)) w) := by
  unfold Cf.tenantV
  by_cases he : Cf.check nmB c t l = 0
  · rw [if_pos he]
    have ki := fun q W h1 h2 h3 => indexFuncC c.ta c.tl c.tc t n q W h.tl h1 h2 h3
    rcases find_is t n c.tl 0 with e | ⟨j, e⟩
    · rw [e] at ki ⊢
      exact tenantMiss c t l n w (Lib.hid h) (Lib.hid (checkYesK he)) (Lib.hid ki)
    · rw [e] at ki ⊢
      have : foundV (j : Int) = .tuple #[.int .i64 (j : Int), .bool true] := by
        unfold foundV
        rw [if_neg (by omega), decide_eq_true (by omega)]
      rw [this]
      exact tenantHit c t l n j w (Lib.hid h) (Lib.hid (checkYesK he)) (Lib.hid ki)
  · rw [if_neg he]
    exact tenantNo c t l n _ (by simpa using he) w (Lib.hid h) (Lib.hid (checkK c t l))
theorem refTenantC (c : Cf.C) (t : Nat → Cf.T) (l : Nat → Int) (n : ByteArray) (w : World) (h : CfgAt w c t l) : Calls Try.prog 10 #[c.val, .string n] w (Ret (.int .i64 (Cf.tenantV (Cf.check nmB c t l) c t n)) w) := by
  unfold Cf.tenantV
  by_cases he : Cf.check nmB c t l = 0
  · rw [if_pos he]
    exact refTenantYes c t l n w h.tl (Lib.hid h) (Lib.hid (rightYesK he))
  · rw [if_neg he]
    exact refTenantNo c t l n w (Lib.hid h) (Lib.hid (rightNoK (by simpa using he)))
end Go.Proofs.Ytafighelgdlocaa
