/-
  Deficit round robin: each call, between two flows; fair over every interval.
-/
import Derived.Test.YtgeoebodlcbebaaFlowFair
namespace Fl
set_option linter.unusedVariables false
set_option linter.unusedSimpArgs false
open Ff (E)

theorem row_put_other {l : List Rw} {x : Rw} {f : Int} (h : f ≠ x.f) : row (put l x) f = row l f := by
  induction l with
  | nil => rfl
  | cons r t ih =>
    rw [put_cons, row_cons]
    by_cases h1 : r.f = x.f
    · rw [if_pos h1, if_neg (show ¬ r.f = f from fun e => h (e.symm.trans h1))]
      by_cases h2 : x.its = []
      · rw [if_pos h2]; exact ih
      · rw [if_neg h2, row_cons, if_neg (fun e => h e.symm)]; exact ih
    · rw [if_neg h1, row_cons, ih]
theorem row_put_same {l : List Rw} {x r : Rw} (hr : row l x.f = some r) (hi : x.its ≠ []) : row (put l x) x.f = some x := by
  induction l with
  | nil => cases hr
  | cons y t ih =>
    rw [put_cons]
    rw [row_cons] at hr
    by_cases h1 : y.f = x.f
    · rw [if_pos h1, if_neg hi, row_cons, if_pos rfl]
    · rw [if_neg h1] at hr ⊢
      rw [row_cons, if_neg h1]; exact ih hr
theorem lead_put {l : List Rw} {x : Rw} {i j : Int} (h : x.its = [] → x.f ≠ i ∧ x.f ≠ j) : lead (put l x) i j = lead l i j := by
  induction l with
  | nil => rfl
  | cons r t ih =>
    rw [put_cons, lead_cons]
    by_cases h1 : r.f = x.f
    · rw [if_pos h1]
      by_cases h2 : x.its = []
      · obtain ⟨h3, h4⟩ := h h2
        rw [if_pos h2, if_neg (fun e => by rcases e with e | e; exact h3 (h1.symm.trans e); exact h4 (h1.symm.trans e))]
        exact ih
      · rw [if_neg h2, lead_cons, h1, ih]
    · rw [if_neg h1, lead_cons, ih]
theorem dOf_row {l : List Rw} {f : Int} {r : Rw} (h : row l f = some r) : dOf l f = r.d := by unfold dOf; rw [h]; rfl
theorem dOf_put_other {l : List Rw} {x : Rw} {f : Int} (h : f ≠ x.f) : dOf (put l x) f = dOf l f := by unfold dOf; rw [row_put_other h]
theorem turnOf_with {s : St} {x : Rw} {i j : Int} (h : x.its = [] → x.f ≠ i ∧ x.f ≠ j) : (s.with x).turnOf i j = s.turnOf i j := by
  unfold St.turnOf
  rw [with_l, lead_put h]
  cases hl : s.l with
  | nil =>
    have e : put ([] : List Rw) x = [] := rfl
    rw [e]
    simp
  | cons r t =>
    by_cases h1 : r.f = x.f
    · by_cases h2 : x.its = []
      · obtain ⟨h3, h4⟩ := h h2
        rw [with_first hl h1 h2]
        have e3 : ¬ r.f = i := fun e => h3 (h1.symm.trans e)
        have e4 : ¬ r.f = j := fun e => h4 (h1.symm.trans e)
        simp [e3, e4]
      · rw [with_stay h2, put_cons, if_pos h1, if_neg h2]
        simp [h1]
    · rw [with_later hl h1, put_cons, if_neg h1]
      simp
theorem Phi_with_other {i j wi wj : Int} {s : St} {x : Rw} (h1 : x.f ≠ i) (h2 : x.f ≠ j) : Phi i j wi wj (s.with x) = Phi i j wi wj s := by
  unfold Phi
  rw [turnOf_with (fun _ => ⟨h1, h2⟩), with_l, with_q, dOf_put_other (fun e => h1 e.symm), dOf_put_other (fun e => h2 e.symm)]
theorem Both.with_other {i j wi wj : Int} {s : St} {x : Rw} (h : Both i j wi wj s) (h1 : x.f ≠ i) (h2 : x.f ≠ j) : Both i j wi wj (s.with x) :=
  ⟨by rw [with_l, row_put_other (fun e => h1 e.symm)]; exact h.i, by rw [with_l, row_put_other (fun e => h2 e.symm)]; exact h.j⟩
theorem Phi_with_i {i j wi wj : Int} {s : St} {x r : Rw} (hij : i ≠ j) (hr : row s.l i = some r) (hf : x.f = i) (hi : x.its ≠ []) : Phi i j wi wj (s.with x) = Phi i j wi wj s + (r.d - x.d) * wj := by
  unfold Phi
  have hr2 := row_put_same (x := x) (by rw [hf]; exact hr) hi
  rw [hf] at hr2
  rw [turnOf_with (fun e => absurd e hi), with_l, with_q, dOf_row hr, dOf_put_other (fun e => hij (hf.symm.trans e.symm)), dOf_row hr2, Int.sub_mul]
  omega
theorem Phi_with_j {i j wi wj : Int} {s : St} {x r : Rw} (hij : i ≠ j) (hr : row s.l j = some r) (hf : x.f = j) (hi : x.its ≠ []) : Phi i j wi wj (s.with x) = Phi i j wi wj s - (r.d - x.d) * wi := by
  unfold Phi
  have hr2 := row_put_same (x := x) (by rw [hf]; exact hr) hi
  rw [hf] at hr2
  rw [turnOf_with (fun e => absurd e hi), with_l, with_q, dOf_row hr, dOf_put_other (fun e => hij (e.trans hf)), dOf_row hr2, Int.sub_mul]
  omega
/-- a row's items alone put -/
theorem Phi_items {i j wi wj : Int} {s : St} {r : Rw} {f : Int} {its : List E} (hij : i ≠ j) (hr : row s.l f = some r) (hi : its = [] → f ≠ i ∧ f ≠ j) : Phi i j wi wj (s.with { r with its := its }) = Phi i j wi wj s := by
  obtain ⟨_, hf⟩ := row_mem hr
  by_cases h0 : its = []
  · obtain ⟨h1, h2⟩ := hi h0
    exact Phi_with_other (by simpa [hf] using h1) (by simpa [hf] using h2)
  · by_cases e1 : f = i
    · subst e1
      have := Phi_with_i (wi := wi) (wj := wj) (x := { r with its := its }) hij hr hf h0
      simpa using this
    · by_cases e2 : f = j
      · subst e2
        have := Phi_with_j (wi := wi) (wj := wj) (x := { r with its := its }) hij hr hf h0
        simpa using this
      · exact Phi_with_other (by simpa [hf] using e1) (by simpa [hf] using e2)
theorem with_put {s : St} {x : Rw} (h : x.its ≠ []) : s.with x = { s with l := put s.l x } := by
  have := with_stay (s := s) h
  unfold St.with at this ⊢
  simp only at this
  rw [this]
theorem pushL_ne {l : List E} (h : l ≠ []) (id c : Int) : Ff.pushL l id c ≠ [] := by
  unfold Ff.pushL
  split
  · exact h
  · split
    · exact h
    · simp
theorem row_append_some {a : List Rw} {b : List Rw} {f : Int} {r : Rw} (h : row a f = some r) : row (a ++ b) f = some r := by
  unfold row at h ⊢
  rw [List.find?_append, h]; rfl
theorem Phi_append {i j wi wj : Int} {s : St} (x : Rw) (h : Both i j wi wj s) : Phi i j wi wj { s with l := s.l ++ [x] } = Phi i j wi wj s := by
  obtain ⟨r, h1, _⟩ := h.i
  obtain ⟨y, h2, _⟩ := h.j
  unfold Phi St.turnOf
  simp only [lead_append (lead_some (j := j) h1), dOf_row h1, dOf_row h2, dOf_row (row_append_some h1), dOf_row (row_append_some h2)]
  have : (s.l ++ [x]).head? = s.l.head? := by
    cases hl : s.l with
    | nil => rw [hl] at h1; cases h1
    | cons r t => rfl
  rw [this]
theorem Phi_push {i j wi wj : Int} (hij : i ≠ j) {s : St} (hG : Good s) (h : Both i j wi wj s) (f w id c : Int) : Phi i j wi wj (s.push f w id c) = Phi i j wi wj s := by
  unfold St.push
  split
  · rfl
  · split
    · split
      · exact Phi_append _ h
      · rfl
    · rename_i r hr
      split
      · have hne : Ff.pushL r.its id c ≠ [] := pushL_ne (hG.ok r (row_mem hr).1).ne id c
        have e := Phi_items (i := i) (j := j) (wi := wi) (wj := wj) (its := Ff.pushL r.its id c) hij hr (fun e => absurd e hne)
        rw [with_put hne] at e
        exact e
      · rfl
theorem Phi_drop {i j wi wj : Int} (hij : i ≠ j) {s : St} (f id : Int) (hd : s.dropB f id = true → f ≠ i ∧ f ≠ j) : Phi i j wi wj (s.drop f id) = Phi i j wi wj s := by
  unfold St.drop St.dropB at *
  split
  · rfl
  · rename_i r hr
    split
    · rename_i hh
      rw [hr] at hd
      obtain ⟨h1, h2⟩ := hd hh
      exact Phi_items hij hr (fun _ => ⟨h1, h2⟩)
    · rfl
/-- the greatest and the least between two flows -/
theorem Phi_bound {i j wi wj C : Int} (hij : i ≠ j) (hwi : 0 ≤ wi) (hwj : 0 ≤ wj) (hC : 0 ≤ C) {s : St} (hG : Good s) (hL : Lim C s) (h : Both i j wi wj s) : -(C * wj) ≤ Phi i j wi wj s ∧ Phi i j wi wj s ≤ s.q * wi * wj + C * wi := by
  obtain ⟨x, h1, h1w⟩ := h.i
  obtain ⟨y, h2, h2w⟩ := h.j
  have hx := hG.ok x (row_mem h1).1
  have hy := hG.ok y (row_mem h2).1
  have hq : 0 ≤ s.q := by have := hG.q; omega
  have hqw : 0 ≤ s.q * wi * wj := Int.mul_nonneg (Int.mul_nonneg hq hwi) hwj
  have ex : 0 ≤ x.d * wj := Int.mul_nonneg hx.d hwj
  have ey : 0 ≤ y.d * wi := Int.mul_nonneg hy.d hwi
  have ec : 0 ≤ C * wi := Int.mul_nonneg hC hwi
  have ec2 : 0 ≤ C * wj := Int.mul_nonneg hC hwj
  have up : ∀ {d w : Int}, d ≤ C → 0 ≤ w → d * w ≤ C * w := fun h1 h2 => Int.mul_le_mul_of_nonneg_right h1 h2
  unfold Phi
  rw [dOf_row h1, dOf_row h2]
  cases hl : s.l with
  | nil => rw [hl] at h1; cases h1
  | cons r t =>
    have htop := hL.top r (by rw [hl]; rfl)
    have hrest := hL.rest
    rw [hl] at hrest h1 h2
    rw [row_cons] at h1 h2
    unfold St.turnOf
    simp only [hl, List.head?_cons, Option.map_some, Option.some.injEq, lead_cons]
    by_cases e1 : r.f = i
    · rw [if_pos e1] at h1
      have h3 := Option.some.inj h1
      subst h3
      have e2 : r.f ≠ j := fun e => hij (e1.symm.trans e)
      rw [if_neg e2] at h2
      have hyd := up (hrest y (row_mem h2).1) hwi
      cases hg : s.g with
      | true =>
        rw [hg, h1w] at htop
        have e3 : r.d * wj ≤ (C + s.q * wi) * wj := Int.mul_le_mul_of_nonneg_right (by simpa using htop) hwj
        rw [Int.add_mul] at e3
        simp only [e1, true_or, if_true, and_self]
        omega
      | false =>
        rw [hg] at htop
        have e3 := up (show r.d ≤ C by simpa using htop) hwj
        simp only [e1, true_or, if_true, Bool.false_eq_true, false_and, if_false]
        omega
    · rw [if_neg e1] at h1
      have hxd := up (hrest x (row_mem h1).1) hwj
      by_cases e2 : r.f = j
      · rw [if_pos e2] at h2
        have h3 := Option.some.inj h2
        subst h3
        have hji : ¬ j = i := fun e => hij e.symm
        cases hg : s.g with
        | true =>
          rw [hg, h2w] at htop
          have e3 : r.d * wi ≤ (C + s.q * wj) * wi := Int.mul_le_mul_of_nonneg_right (by simpa using htop) hwi
          have e4 : (C + s.q * wj) * wi = C * wi + s.q * wi * wj := by
            rw [Int.add_mul, Int.mul_assoc s.q wj wi, Int.mul_comm wj wi, ← Int.mul_assoc]
          rw [e4] at e3
          simp only [e2, or_true, if_true, true_and, Option.some.injEq, if_neg hji]
          omega
        | false =>
          rw [hg] at htop
          have e3 := up (show r.d ≤ C by simpa using htop) hwi
          simp only [e2, or_true, if_true, Bool.false_eq_true, false_and, if_false, Option.some.injEq, if_neg hji]
          omega
      · rw [if_neg e2] at h2
        have hyd := up (hrest y (row_mem h2).1) hwi
        simp only [e1, e2, or_self, and_false, if_false]
        split
        · omega
        · omega
/-- Take: what it tells, what it leaves -/
theorem take_none {s : St} (hG : Good s) (hL : Lim 64 s) (h : s.takeV = none) : s.l = [] ∧ s.take = s := by
  have hp := (hG.pick hL).1
  unfold St.takeV at h
  cases hl : s.pick.l with
  | nil =>
    have h0 : s.l = [] := by
      have := (pick_fs hG hL).length_eq
      rw [hl] at this
      simpa using this.symm
    refine ⟨h0, ?_⟩
    unfold St.take
    rw [hl]
    exact pick_nil h0
  | cons r t =>
    rw [hl] at h
    have := (hp.ok r (by rw [hl]; simp)).ne
    cases hi : r.its with
    | nil => exact absurd hi this
    | cons x u => simp [hi] at h
theorem take_some {s : St} {f : Int} {x : E} (h : s.takeV = some (f, x)) : ∃ r t u, s.pick.l = r :: t ∧ r.f = f ∧ r.its = x :: u ∧ s.take = s.pick.with { r with d := r.d - x.2, its := u } := by
  unfold St.takeV at h
  cases hl : s.pick.l with
  | nil => rw [hl] at h; cases h
  | cons r t =>
    rw [hl] at h
    cases hi : r.its with
    | nil => simp [hi] at h
    | cons y u =>
      simp [hi] at h
      obtain ⟨h1, h2⟩ := h
      subst h2
      refine ⟨r, t, u, rfl, h1, hi, ?_⟩
      unfold St.take
      rw [hl]
      simp only [hi]
theorem Phi_take {i j wi wj : Int} (hij : i ≠ j) {s : St} (hG : Good s) (hL : Lim 64 s) (h : Both i j wi wj s) (h' : Both i j wi wj s.take) {f : Int} {x : E} (hv : s.takeV = some (f, x)) :
    Phi i j wi wj s.take = Phi i j wi wj s + (if f = i then x.2 * wj else 0) - (if f = j then x.2 * wi else 0) := by
  obtain ⟨r, t, u, hl, hf, hi, ht⟩ := take_some hv
  obtain ⟨hb, hp⟩ := Phi_pick hij hG hL h
  have hGp := (hG.pick hL).1
  rw [ht] at h' ⊢
  rw [← hp]
  have hrow : row s.pick.l f = some r := by rw [hl, row_cons, if_pos hf]
  by_cases hu : u = []
  · have hgone : ∀ k, (∃ y, row (s.pick.with { r with d := r.d - x.2, its := u }).l k = some y) → f ≠ k := fun k hk e => by
      obtain ⟨y, hy⟩ := hk
      have hnd := hGp.nd
      rw [hl] at hnd
      have hpg := put_gone (a := []) (b := t) (x := { r with d := r.d - x.2, its := u }) hnd rfl hu
      simp only [List.nil_append] at hpg
      rw [with_l, hl, hpg] at hy
      obtain ⟨hm, hyf⟩ := row_mem hy
      exact (nd_split (a := []) hnd).2 y hm (hyf.trans (e.symm.trans hf.symm))
    have hni : f ≠ i := hgone i (by obtain ⟨y, hy, _⟩ := h'.i; exact ⟨y, hy⟩)
    have hnj : f ≠ j := hgone j (by obtain ⟨y, hy, _⟩ := h'.j; exact ⟨y, hy⟩)
    rw [if_neg hni, if_neg hnj]
    have := Phi_with_other (wi := wi) (wj := wj) (s := s.pick) (x := { r with d := r.d - x.2, its := u }) (by simpa [hf] using hni) (by simpa [hf] using hnj)
    omega
  · by_cases e1 : f = i
    · have hnj : ¬ f = j := fun e => hij (e1.symm.trans e)
      rw [if_pos e1, if_neg hnj]
      have := Phi_with_i (wi := wi) (wj := wj) (s := s.pick) (x := { r with d := r.d - x.2, its := u }) hij (by rw [← e1]; exact hrow) (hf.trans e1) hu
      have e3 : r.d - (r.d - x.2) = x.2 := by omega
      simp only [e3] at this
      omega
    · by_cases e2 : f = j
      · rw [if_neg e1, if_pos e2]
        have := Phi_with_j (wi := wi) (wj := wj) (s := s.pick) (x := { r with d := r.d - x.2, its := u }) hij (by rw [← e2]; exact hrow) (hf.trans e2) hu
        have e3 : r.d - (r.d - x.2) = x.2 := by omega
        simp only [e3] at this
        omega
      · rw [if_neg e1, if_neg e2]
        have := Phi_with_other (wi := wi) (wj := wj) (s := s.pick) (x := { r with d := r.d - x.2, its := u }) (by simpa [hf] using e1) (by simpa [hf] using e2)
        omega
end Fl
