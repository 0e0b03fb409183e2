/-
  Deficit round robin: calls keep a ring valid; fairness between two flows.
  Deficit round robin: each call, between two flows; fair over every interval.
  Deficit round robin: calls keep a ring valid; moments of a run, fair from each to each later one.
-/
import Derived.Test.YtgeoebodlcbebaaFlowMath
namespace Fl
set_option linter.unusedVariables false
set_option linter.unusedSimpArgs false
open Ff (E)

/-! ### a row put -/
theorem put_cons (r : Rw) (t : List Rw) (x : Rw) : put (r :: t) x = if r.f = x.f then (if x.its = [] then put t x else x :: put t x) else r :: put t x := by
  unfold put
  rw [List.filterMap_cons]
  by_cases h1 : r.f = x.f
  · rw [if_pos h1, if_pos h1]
    by_cases h2 : x.its = []
    · rw [if_pos h2, if_pos h2]
    · rw [if_neg h2, if_neg h2]
  · rw [if_neg h1, if_neg h1]
theorem put_nd {l : List Rw} {x : Rw} (h : (l.map (·.f)).Nodup) : ((put l x).map (·.f)).Nodup := by
  have hs : ((put l x).map (·.f)).Sublist (l.map (·.f)) := by
    induction l with
    | nil => exact List.Sublist.refl _
    | cons r t ih =>
      have ih := ih (by rw [List.map_cons, List.nodup_cons] at h; exact h.2)
      rw [put_cons]
      by_cases h1 : r.f = x.f
      · rw [if_pos h1]
        by_cases h2 : x.its = []
        · rw [if_pos h2]; exact ih.cons _
        · rw [if_neg h2, List.map_cons, List.map_cons, h1]; exact ih.cons_cons _
      · rw [if_neg h1, List.map_cons, List.map_cons]; exact ih.cons_cons _
  exact hs.nodup h
theorem with_l (s : St) (x : Rw) : (s.with x).l = put s.l x := rfl
theorem with_q (s : St) (x : Rw) : (s.with x).q = s.q := rfl
theorem with_stay {s : St} {x : Rw} (h : x.its ≠ []) : (s.with x).g = s.g := by
  unfold St.with
  cases hi : x.its with
  | nil => exact absurd hi h
  | cons y t => simp
theorem with_later {s : St} {x r : Rw} {t : List Rw} (hl : s.l = r :: t) (h : r.f ≠ x.f) : (s.with x).g = s.g := by
  unfold St.with
  simp [hl, h]
theorem with_first {s : St} {x r : Rw} {t : List Rw} (hl : s.l = r :: t) (h : r.f = x.f) (hi : x.its = []) : (s.with x).g = false := by
  unfold St.with
  simp [hl, h, hi]
theorem Good.with {s : St} {x : Rw} (h : Good s) (hm : ∃ r ∈ s.l, r.f = x.f) (hx : x.its ≠ [] → RowOk x) : Good (s.with x) := by
  refine ⟨h.q, put_nd h.nd, fun r hr => ?_, fun h0 => ?_⟩
  · unfold St.with put at hr
    obtain ⟨y, hy, he⟩ := List.mem_filterMap.1 hr
    by_cases h1 : y.f = x.f
    · rw [if_pos h1] at he
      by_cases h2 : x.its = []
      · rw [if_pos h2] at he; cases he
      · rw [if_neg h2] at he; cases he; exact hx h2
    · rw [if_neg h1] at he; cases he; exact h.ok r hy
  · rw [with_l] at h0
    cases hl : s.l with
    | nil =>
      obtain ⟨r, hr, _⟩ := hm
      rw [hl] at hr; cases hr
    | cons r t =>
      have h1 : r.f = x.f ∧ x.its = [] := by
        rw [hl] at h0
        unfold put at h0
        rw [List.filterMap_cons] at h0
        by_cases h1 : r.f = x.f
        · rw [if_pos h1] at h0
          by_cases h2 : x.its = []
          · exact ⟨h1, h2⟩
          · rw [if_neg h2] at h0; cases h0
        · rw [if_neg h1] at h0; cases h0
      exact with_first hl h1.1 h1.2
theorem Lim.with {C : Int} {s : St} {x : Rw} (h : Lim C s) (hg : Good s) {r : Rw} (hr : r ∈ s.l) (hf : r.f = x.f) (hw : r.w = x.w) (hc : ∀ e ∈ x.its, e.2 ≤ C) (hd : x.d ≤ r.d) : Lim C (s.with x) := by
  cases hl : s.l with
  | nil => rw [hl] at hr; cases hr
  | cons y t =>
    have hnd := hg.nd
    have hrest := h.rest
    have htop := h.top
    have hcost := h.cost
    rw [hl] at hnd hrest htop hcost
    have htop' := htop y rfl
    refine ⟨fun z hz => ?_, ?_, ?_⟩
    · rcases put_sub s.l x z hz with e | e
      · exact h.cost z e
      · rw [e]; exact hc
    · by_cases h1 : y.f = x.f
      · have hy : y = r := by
          have hm : y ∈ s.l := by rw [hl]; simp
          exact Ff.inj_of_nd hg.nd hm hr (h1.trans hf.symm)
        by_cases h2 : x.its = []
        · have e : (s.with x).l = t := by rw [with_l, hl]; exact put_gone (a := []) hnd h1 h2
          rw [e]
          intro z hz
          exact hrest z (by simpa using List.mem_of_mem_tail hz)
        · have e : (s.with x).l = x :: t := by rw [with_l, hl]; exact put_set (a := []) hnd h1 h2
          rw [e]
          exact hrest
      · have e : (s.with x).l = y :: put t x := by
          rw [with_l, hl]
          unfold put
          rw [List.filterMap_cons, if_neg h1]
        rw [e]
        intro z hz
        rcases put_sub t x z hz with e2 | e2
        · exact hrest z e2
        · have hrt : r ∈ t := by
            rw [hl] at hr
            rcases List.mem_cons.1 hr with e3 | e3
            · exact absurd (by rw [← e3]; exact hf) h1
            · exact e3
          rw [e2]
          have := hrest r hrt
          omega
    · intro z hz
      by_cases h1 : y.f = x.f
      · have hy : y = r := by
          have hm : y ∈ s.l := by rw [hl]; simp
          exact Ff.inj_of_nd hg.nd hm hr (h1.trans hf.symm)
        by_cases h2 : x.its = []
        · have e : (s.with x).l = t := by rw [with_l, hl]; exact put_gone (a := []) hnd h1 h2
          rw [e] at hz
          rw [with_first hl h1 h2]
          have := hrest z (by simpa using List.mem_of_head? hz)
          simpa using this
        · have e : (s.with x).l = x :: t := by rw [with_l, hl]; exact put_set (a := []) hnd h1 h2
          rw [e] at hz
          simp at hz
          subst hz
          rw [with_stay h2, with_q, ← hw, ← hy]
          rw [hy] at htop' ⊢
          omega
      · have e : (s.with x).l = y :: put t x := by
          rw [with_l, hl]
          unfold put
          rw [List.filterMap_cons, if_neg h1]
        rw [e] at hz
        simp at hz
        subst hz
        rw [with_later hl h1, with_q]
        exact htop'

/-! ### two flows -/
def lead (l : List Rw) (i j : Int) : Option Int := (l.find? (fun r => r.f == i || r.f == j)).map (·.f)
/-- whose turn it is, of the two: 0: i's, 1: j's -/
def St.turnOf (s : St) (i j : Int) : Int :=
  if s.g = true ∧ (s.l.head?.map (·.f) = some i ∨ s.l.head?.map (·.f) = some j) then (if lead s.l i j = some i then 1 else 0) else (if lead s.l i j = some i then 0 else 1)
def dOf (l : List Rw) (f : Int) : Int := ((row l f).map (·.d)).getD 0
def Phi (i j wi wj : Int) (s : St) : Int := s.turnOf i j * (s.q * wi * wj) - dOf s.l i * wj + dOf s.l j * wi
/-- both wait, with these weights -/
structure Both (i j wi wj : Int) (s : St) : Prop where
  i : ∃ r, row s.l i = some r ∧ r.w = wi
  j : ∃ r, row s.l j = some r ∧ r.w = wj
theorem lead_cons (r : Rw) (t : List Rw) (i j : Int) : lead (r :: t) i j = if r.f = i ∨ r.f = j then some r.f else lead t i j := by
  unfold lead
  rw [List.find?_cons]
  by_cases h : r.f = i ∨ r.f = j
  · rw [if_pos h]
    have : (r.f == i || r.f == j) = true := by simpa using h
    rw [this]; rfl
  · rw [if_neg h]
    have : (r.f == i || r.f == j) = false := by simpa using h
    rw [this]
theorem lead_append {a b : List Rw} {i j : Int} (h : lead a i j ≠ none) : lead (a ++ b) i j = lead a i j := by
  unfold lead at h ⊢
  rw [List.find?_append]
  cases hf : a.find? (fun r => r.f == i || r.f == j) with
  | none => rw [hf] at h; exact absurd rfl h
  | some r => rfl
theorem lead_some {l : List Rw} {i j : Int} {r : Rw} (h : row l i = some r) : lead l i j ≠ none := by
  obtain ⟨h1, h2⟩ := row_mem h
  unfold lead
  intro h3
  rw [Option.map_eq_none_iff, List.find?_eq_none] at h3
  have := h3 r h1
  simp [h2] at this
theorem lead_some' {l : List Rw} {i j : Int} {r : Rw} (h : row l j = some r) : lead l i j ≠ none := by
  obtain ⟨h1, h2⟩ := row_mem h
  unfold lead
  intro h3
  rw [Option.map_eq_none_iff, List.find?_eq_none] at h3
  have := h3 r h1
  simp [h2] at this
theorem row_cons (r : Rw) (t : List Rw) (f : Int) : row (r :: t) f = if r.f = f then some r else row t f := by
  unfold row
  rw [List.find?_cons]
  by_cases h : r.f = f
  · simp [h]
  · have : (r.f == f) = false := by simpa using h
    rw [this, if_neg h]
theorem row_snoc {t : List Rw} {r : Rw} {f : Int} (h : r.f ≠ f) : row (t ++ [r]) f = row t f := by
  unfold row
  rw [List.find?_append]
  have : [r].find? (fun r => r.f == f) = none := by simp [h]
  rw [this]
  simp
theorem row_snoc_same {t : List Rw} {r : Rw} (h : ∀ x ∈ t, x.f ≠ r.f) : row (t ++ [r]) r.f = some r := by
  unfold row
  rw [List.find?_append]
  have : t.find? (fun x => x.f == r.f) = none := List.find?_eq_none.2 (fun x hx => by simpa using h x hx)
  rw [this]
  simp
theorem give_shape {s : St} {r : Rw} {t : List Rw} (hl : s.l = r :: t) : ∃ d, s.give.l = { r with d := d } :: t := by
  cases hg : s.g with
  | true => rw [give_yes hg]; exact ⟨r.d, hl⟩
  | false => rw [give_no hl hg]; exact ⟨_, rfl⟩
theorem Both.give {i j wi wj : Int} {s : St} (h : Both i j wi wj s) : Both i j wi wj s.give := by
  cases hl : s.l with
  | nil => rw [give_nil hl]; exact h
  | cons r t =>
    obtain ⟨d, hd⟩ := give_shape hl
    obtain ⟨x, h1, h2⟩ := h.i
    obtain ⟨y, h3, h4⟩ := h.j
    rw [hl, row_cons] at h1 h3
    refine ⟨?_, ?_⟩
    · rw [hd, row_cons]
      by_cases e : r.f = i
      · rw [if_pos e] at h1
        cases h1
        exact ⟨{ r with d := d }, by rw [if_pos e], h2⟩
      · rw [if_neg e] at h1
        exact ⟨x, by rw [if_neg e]; exact h1, h2⟩
    · rw [hd, row_cons]
      by_cases e : r.f = j
      · rw [if_pos e] at h3
        cases h3
        exact ⟨{ r with d := d }, by rw [if_pos e], h4⟩
      · rw [if_neg e] at h3
        exact ⟨y, by rw [if_neg e]; exact h3, h4⟩
theorem row_turn {s : St} (hnd : (s.l.map (·.f)).Nodup) (f : Int) : row s.turn.l f = row s.l f := by
  cases hl : s.l with
  | nil => unfold St.turn; rw [hl]; simp [hl]
  | cons r t =>
    rw [turn_eq hl]
    show row (t ++ [r]) f = row (r :: t) f
    rw [hl] at hnd
    rw [row_cons]
    by_cases e : r.f = f
    · rw [if_pos e, ← e]
      exact row_snoc_same (nd_split (a := []) hnd).2
    · rw [if_neg e]
      exact row_snoc e
theorem Both.turn {i j wi wj : Int} {s : St} (h : Both i j wi wj s) (hnd : (s.l.map (·.f)).Nodup) : Both i j wi wj s.turn :=
  ⟨by rw [row_turn hnd]; exact h.i, by rw [row_turn hnd]; exact h.j⟩
theorem dOf_turn {s : St} (hnd : (s.l.map (·.f)).Nodup) (f : Int) : dOf s.turn.l f = dOf s.l f := by unfold dOf; rw [row_turn hnd]
theorem Phi_turn {i j wi wj : Int} (hij : i ≠ j) {s : St} (hG : Good s) (hg : s.g = true) (h : Both i j wi wj s) : Phi i j wi wj s.turn = Phi i j wi wj s := by
  unfold Phi
  rw [dOf_turn hG.nd, dOf_turn hG.nd, turn_q]
  have e : s.turn.turnOf i j = s.turnOf i j := by
    cases hl : s.l with
    | nil =>
      obtain ⟨x, h1, _⟩ := h.i
      rw [hl] at h1; cases h1
    | cons r t =>
      have hnd := hG.nd
      rw [hl] at hnd
      obtain ⟨n1, n2⟩ := nd_split (a := []) hnd
      obtain ⟨x, h1, _⟩ := h.i
      obtain ⟨y, h2, _⟩ := h.j
      rw [hl, row_cons] at h1 h2
      rw [turn_eq hl]
      unfold St.turnOf
      simp only [hl, hg, List.head?_cons, Option.map_some, Option.some.injEq, Bool.false_eq_true, false_and, if_false, true_and]
      by_cases e1 : r.f = i
      · rw [if_neg (fun e => hij (e1.symm.trans e))] at h2
        have h3 := lead_some' (i := i) h2
        rw [lead_append h3, lead_cons, if_pos (Or.inl e1), if_pos (Or.inl e1), e1, if_pos rfl]
        have h4 : lead t i j ≠ some i := by
          intro h5
          unfold lead at h5
          rw [Option.map_eq_some_iff] at h5
          obtain ⟨z, h6, h7⟩ := h5
          exact n2 z (List.mem_of_find?_eq_some h6) (h7.trans e1.symm)
        rw [if_neg h4]
      · by_cases e2 : r.f = j
        · rw [if_neg e1] at h1
          have h3 := lead_some (j := j) h1
          have h4 : lead t i j = some i := by
            unfold lead at h3 ⊢
            cases hf : t.find? (fun r => r.f == i || r.f == j) with
            | none => rw [hf] at h3; exact absurd rfl h3
            | some z =>
              have hz := List.find?_some hf
              have hzm := List.mem_of_find?_eq_some hf
              simp at hz
              rcases hz with e | e
              · simp [e]
              · exact absurd (e.trans e2.symm) (n2 z hzm)
          rw [lead_append h3, h4, if_pos rfl, lead_cons, if_pos (Or.inr e2), if_pos (Or.inr e2)]
          rw [if_neg (fun e => e1 (by simpa using e))]
        · rw [if_neg e1] at h1
          have h3 := lead_some (j := j) h1
          have hno : ¬ (r.f = i ∨ r.f = j) := fun e => by rcases e with e | e; exact e1 e; exact e2 e
          rw [lead_append h3, lead_cons, if_neg hno, if_neg hno]
  rw [e]
theorem dOf_cons (r : Rw) (t : List Rw) (f : Int) : dOf (r :: t) f = if r.f = f then r.d else dOf t f := by
  unfold dOf
  rw [row_cons]
  by_cases h : r.f = f <;> simp [h]
theorem Phi_give {i j wi wj : Int} (hij : i ≠ j) {s : St} (h : Both i j wi wj s) : Phi i j wi wj s.give = Phi i j wi wj s := by
  cases hl : s.l with
  | nil => rw [give_nil hl]
  | cons r t =>
    cases hg : s.g with
    | true => rw [give_yes hg]
    | false =>
      obtain ⟨x, h1, h1w⟩ := h.i
      obtain ⟨y, h2, h2w⟩ := h.j
      rw [hl, row_cons] at h1 h2
      rw [give_no hl hg]
      unfold Phi St.turnOf
      simp only [hl, hg, List.head?_cons, Option.map_some, Option.some.injEq, Bool.false_eq_true, false_and, if_false, true_and, dOf_cons, lead_cons]
      by_cases e1 : r.f = i
      · rw [if_pos e1] at h1
        have h3 := Option.some.inj h1
        subst h3
        have e2 : r.f ≠ j := fun e => hij (e1.symm.trans e)
        simp only [e1, true_or, if_true, if_neg hij, h1w]
        have e3 : (r.d + s.q * wi) * wj = r.d * wj + s.q * wi * wj := Int.add_mul _ _ _
        rw [e3]
        omega
      · by_cases e2 : r.f = j
        · rw [if_pos e2] at h2
          have h3 := Option.some.inj h2
          subst h3
          have hji : ¬ j = i := fun e => hij e.symm
          simp only [e2, or_true, if_true, Option.some.injEq, if_neg hji, h2w]
          have e3 : (r.d + s.q * wj) * wi = r.d * wi + s.q * wi * wj := by
            rw [Int.add_mul, Int.mul_assoc s.q wj wi, Int.mul_comm wj wi, ← Int.mul_assoc]
          rw [e3]
          omega
        · simp only [e1, e2, false_or, if_false]
/-- a pick changes nothing between two flows -/
theorem Phi_pick {i j wi wj : Int} (hij : i ≠ j) {s : St} (hG : Good s) (hL : Lim 64 s) (h : Both i j wi wj s) : Both i j wi wj s.pick ∧ Phi i j wi wj s.pick = Phi i j wi wj s :=
  pick_keeps (P := fun x => Both i j wi wj x ∧ Phi i j wi wj x = Phi i j wi wj s) (fun x _ hx => ⟨hx.1.give, (Phi_give hij hx.1).trans hx.2⟩) (fun x hg h1 h2 hx => ⟨hx.1.turn hg.nd, (Phi_turn hij hg h1 hx.1).trans hx.2⟩) hG hL ⟨h, rfl⟩
end Fl

namespace Fl
set_option linter.unusedVariables false
set_option linter.unusedSimpArgs false
open Ff (E)

theorem row_put_other {l : List Rw} {x : Rw} {f : Int} (h : f ≠ x.f) : row (put l x) f = row l f := by
  induction l with
  | nil => rfl
  | cons r t ih =>
    rw [put_cons, row_cons]
    by_cases h1 : r.f = x.f
    · rw [if_pos h1, if_neg (show ¬ r.f = f from fun e => h (e.symm.trans h1))]
      by_cases h2 : x.its = []
      · rw [if_pos h2]; exact ih
      · rw [if_neg h2, row_cons, if_neg (fun e => h e.symm)]; exact ih
    · rw [if_neg h1, row_cons, ih]
theorem row_put_same {l : List Rw} {x r : Rw} (hr : row l x.f = some r) (hi : x.its ≠ []) : row (put l x) x.f = some x := by
  induction l with
  | nil => cases hr
  | cons y t ih =>
    rw [put_cons]
    rw [row_cons] at hr
    by_cases h1 : y.f = x.f
    · rw [if_pos h1, if_neg hi, row_cons, if_pos rfl]
    · rw [if_neg h1] at hr ⊢
      rw [row_cons, if_neg h1]; exact ih hr
theorem lead_put {l : List Rw} {x : Rw} {i j : Int} (h : x.its = [] → x.f ≠ i ∧ x.f ≠ j) : lead (put l x) i j = lead l i j := by
  induction l with
  | nil => rfl
  | cons r t ih =>
    rw [put_cons, lead_cons]
    by_cases h1 : r.f = x.f
    · rw [if_pos h1]
      by_cases h2 : x.its = []
      · obtain ⟨h3, h4⟩ := h h2
        rw [if_pos h2, if_neg (fun e => by rcases e with e | e; exact h3 (h1.symm.trans e); exact h4 (h1.symm.trans e))]
        exact ih
      · rw [if_neg h2, lead_cons, h1, ih]
    · rw [if_neg h1, lead_cons, ih]
theorem dOf_row {l : List Rw} {f : Int} {r : Rw} (h : row l f = some r) : dOf l f = r.d := by unfold dOf; rw [h]; rfl
theorem dOf_put_other {l : List Rw} {x : Rw} {f : Int} (h : f ≠ x.f) : dOf (put l x) f = dOf l f := by unfold dOf; rw [row_put_other h]
theorem turnOf_with {s : St} {x : Rw} {i j : Int} (h : x.its = [] → x.f ≠ i ∧ x.f ≠ j) : (s.with x).turnOf i j = s.turnOf i j := by
  unfold St.turnOf
  rw [with_l, lead_put h]
  cases hl : s.l with
  | nil =>
    have e : put ([] : List Rw) x = [] := rfl
    rw [e]
    simp
  | cons r t =>
    by_cases h1 : r.f = x.f
    · by_cases h2 : x.its = []
      · obtain ⟨h3, h4⟩ := h h2
        rw [with_first hl h1 h2]
        have e3 : ¬ r.f = i := fun e => h3 (h1.symm.trans e)
        have e4 : ¬ r.f = j := fun e => h4 (h1.symm.trans e)
        simp [e3, e4]
      · rw [with_stay h2, put_cons, if_pos h1, if_neg h2]
        simp [h1]
    · rw [with_later hl h1, put_cons, if_neg h1]
      simp
theorem Phi_with_other {i j wi wj : Int} {s : St} {x : Rw} (h1 : x.f ≠ i) (h2 : x.f ≠ j) : Phi i j wi wj (s.with x) = Phi i j wi wj s := by
  unfold Phi
  rw [turnOf_with (fun _ => ⟨h1, h2⟩), with_l, with_q, dOf_put_other (fun e => h1 e.symm), dOf_put_other (fun e => h2 e.symm)]
theorem Both.with_other {i j wi wj : Int} {s : St} {x : Rw} (h : Both i j wi wj s) (h1 : x.f ≠ i) (h2 : x.f ≠ j) : Both i j wi wj (s.with x) :=
  ⟨by rw [with_l, row_put_other (fun e => h1 e.symm)]; exact h.i, by rw [with_l, row_put_other (fun e => h2 e.symm)]; exact h.j⟩
theorem Phi_with_i {i j wi wj : Int} {s : St} {x r : Rw} (hij : i ≠ j) (hr : row s.l i = some r) (hf : x.f = i) (hi : x.its ≠ []) : Phi i j wi wj (s.with x) = Phi i j wi wj s + (r.d - x.d) * wj := by
  unfold Phi
  have hr2 := row_put_same (x := x) (by rw [hf]; exact hr) hi
  rw [hf] at hr2
  rw [turnOf_with (fun e => absurd e hi), with_l, with_q, dOf_row hr, dOf_put_other (fun e => hij (hf.symm.trans e.symm)), dOf_row hr2, Int.sub_mul]
  omega
theorem Phi_with_j {i j wi wj : Int} {s : St} {x r : Rw} (hij : i ≠ j) (hr : row s.l j = some r) (hf : x.f = j) (hi : x.its ≠ []) : Phi i j wi wj (s.with x) = Phi i j wi wj s - (r.d - x.d) * wi := by
  unfold Phi
  have hr2 := row_put_same (x := x) (by rw [hf]; exact hr) hi
  rw [hf] at hr2
  rw [turnOf_with (fun e => absurd e hi), with_l, with_q, dOf_row hr, dOf_put_other (fun e => hij (e.trans hf)), dOf_row hr2, Int.sub_mul]
  omega
/-- a row's items alone put -/
theorem Phi_items {i j wi wj : Int} {s : St} {r : Rw} {f : Int} {its : List E} (hij : i ≠ j) (hr : row s.l f = some r) (hi : its = [] → f ≠ i ∧ f ≠ j) : Phi i j wi wj (s.with { r with its := its }) = Phi i j wi wj s := by
  obtain ⟨_, hf⟩ := row_mem hr
  by_cases h0 : its = []
  · obtain ⟨h1, h2⟩ := hi h0
    exact Phi_with_other (by simpa [hf] using h1) (by simpa [hf] using h2)
  · by_cases e1 : f = i
    · subst e1
      have := Phi_with_i (wi := wi) (wj := wj) (x := { r with its := its }) hij hr hf h0
      simpa using this
    · by_cases e2 : f = j
      · subst e2
        have := Phi_with_j (wi := wi) (wj := wj) (x := { r with its := its }) hij hr hf h0
        simpa using this
      · exact Phi_with_other (by simpa [hf] using e1) (by simpa [hf] using e2)
theorem with_put {s : St} {x : Rw} (h : x.its ≠ []) : s.with x = { s with l := put s.l x } := by
  have := with_stay (s := s) h
  unfold St.with at this ⊢
  simp only at this
  rw [this]
theorem pushL_ne {l : List E} (h : l ≠ []) (id c : Int) : Ff.pushL l id c ≠ [] := by
  unfold Ff.pushL
  split
  · exact h
  · split
    · exact h
    · simp
theorem row_append_some {a : List Rw} {b : List Rw} {f : Int} {r : Rw} (h : row a f = some r) : row (a ++ b) f = some r := by
  unfold row at h ⊢
  rw [List.find?_append, h]; rfl
theorem Phi_append {i j wi wj : Int} {s : St} (x : Rw) (h : Both i j wi wj s) : Phi i j wi wj { s with l := s.l ++ [x] } = Phi i j wi wj s := by
  obtain ⟨r, h1, _⟩ := h.i
  obtain ⟨y, h2, _⟩ := h.j
  unfold Phi St.turnOf
  simp only [lead_append (lead_some (j := j) h1), dOf_row h1, dOf_row h2, dOf_row (row_append_some h1), dOf_row (row_append_some h2)]
  have : (s.l ++ [x]).head? = s.l.head? := by
    cases hl : s.l with
    | nil => rw [hl] at h1; cases h1
    | cons r t => rfl
  rw [this]
theorem Phi_push {i j wi wj : Int} (hij : i ≠ j) {s : St} (hG : Good s) (h : Both i j wi wj s) (f w id c : Int) : Phi i j wi wj (s.push f w id c) = Phi i j wi wj s := by
  unfold St.push
  split
  · rfl
  · split
    · split
      · exact Phi_append _ h
      · rfl
    · rename_i r hr
      split
      · have hne : Ff.pushL r.its id c ≠ [] := pushL_ne (hG.ok r (row_mem hr).1).ne id c
        have e := Phi_items (i := i) (j := j) (wi := wi) (wj := wj) (its := Ff.pushL r.its id c) hij hr (fun e => absurd e hne)
        rw [with_put hne] at e
        exact e
      · rfl
theorem Phi_drop {i j wi wj : Int} (hij : i ≠ j) {s : St} (f id : Int) (hd : s.dropB f id = true → f ≠ i ∧ f ≠ j) : Phi i j wi wj (s.drop f id) = Phi i j wi wj s := by
  unfold St.drop St.dropB at *
  split
  · rfl
  · rename_i r hr
    split
    · rename_i hh
      rw [hr] at hd
      obtain ⟨h1, h2⟩ := hd hh
      exact Phi_items hij hr (fun _ => ⟨h1, h2⟩)
    · rfl
/-- the greatest and the least between two flows -/
theorem Phi_bound {i j wi wj C : Int} (hij : i ≠ j) (hwi : 0 ≤ wi) (hwj : 0 ≤ wj) (hC : 0 ≤ C) {s : St} (hG : Good s) (hL : Lim C s) (h : Both i j wi wj s) : -(C * wj) ≤ Phi i j wi wj s ∧ Phi i j wi wj s ≤ s.q * wi * wj + C * wi := by
  obtain ⟨x, h1, h1w⟩ := h.i
  obtain ⟨y, h2, h2w⟩ := h.j
  have hx := hG.ok x (row_mem h1).1
  have hy := hG.ok y (row_mem h2).1
  have hq : 0 ≤ s.q := by have := hG.q; omega
  have hqw : 0 ≤ s.q * wi * wj := Int.mul_nonneg (Int.mul_nonneg hq hwi) hwj
  have ex : 0 ≤ x.d * wj := Int.mul_nonneg hx.d hwj
  have ey : 0 ≤ y.d * wi := Int.mul_nonneg hy.d hwi
  have ec : 0 ≤ C * wi := Int.mul_nonneg hC hwi
  have ec2 : 0 ≤ C * wj := Int.mul_nonneg hC hwj
  have up : ∀ {d w : Int}, d ≤ C → 0 ≤ w → d * w ≤ C * w := fun h1 h2 => Int.mul_le_mul_of_nonneg_right h1 h2
  unfold Phi
  rw [dOf_row h1, dOf_row h2]
  cases hl : s.l with
  | nil => rw [hl] at h1; cases h1
  | cons r t =>
    have htop := hL.top r (by rw [hl]; rfl)
    have hrest := hL.rest
    rw [hl] at hrest h1 h2
    rw [row_cons] at h1 h2
    unfold St.turnOf
    simp only [hl, List.head?_cons, Option.map_some, Option.some.injEq, lead_cons]
    by_cases e1 : r.f = i
    · rw [if_pos e1] at h1
      have h3 := Option.some.inj h1
      subst h3
      have e2 : r.f ≠ j := fun e => hij (e1.symm.trans e)
      rw [if_neg e2] at h2
      have hyd := up (hrest y (row_mem h2).1) hwi
      cases hg : s.g with
      | true =>
        rw [hg, h1w] at htop
        have e3 : r.d * wj ≤ (C + s.q * wi) * wj := Int.mul_le_mul_of_nonneg_right (by simpa using htop) hwj
        rw [Int.add_mul] at e3
        simp only [e1, true_or, if_true, and_self]
        omega
      | false =>
        rw [hg] at htop
        have e3 := up (show r.d ≤ C by simpa using htop) hwj
        simp only [e1, true_or, if_true, Bool.false_eq_true, false_and, if_false]
        omega
    · rw [if_neg e1] at h1
      have hxd := up (hrest x (row_mem h1).1) hwj
      by_cases e2 : r.f = j
      · rw [if_pos e2] at h2
        have h3 := Option.some.inj h2
        subst h3
        have hji : ¬ j = i := fun e => hij e.symm
        cases hg : s.g with
        | true =>
          rw [hg, h2w] at htop
          have e3 : r.d * wi ≤ (C + s.q * wj) * wi := Int.mul_le_mul_of_nonneg_right (by simpa using htop) hwi
          have e4 : (C + s.q * wj) * wi = C * wi + s.q * wi * wj := by
            rw [Int.add_mul, Int.mul_assoc s.q wj wi, Int.mul_comm wj wi, ← Int.mul_assoc]
          rw [e4] at e3
          simp only [e2, or_true, if_true, true_and, Option.some.injEq, if_neg hji]
          omega
        | false =>
          rw [hg] at htop
          have e3 := up (show r.d ≤ C by simpa using htop) hwi
          simp only [e2, or_true, if_true, Bool.false_eq_true, false_and, if_false, Option.some.injEq, if_neg hji]
          omega
      · rw [if_neg e2] at h2
        have hyd := up (hrest y (row_mem h2).1) hwi
        simp only [e1, e2, or_self, and_false, if_false]
        split
        · omega
        · omega
/-- Take: what it tells, what it leaves -/
theorem take_none {s : St} (hG : Good s) (hL : Lim 64 s) (h : s.takeV = none) : s.l = [] ∧ s.take = s := by
  have hp := (hG.pick hL).1
  unfold St.takeV at h
  cases hl : s.pick.l with
  | nil =>
    have h0 : s.l = [] := by
      have := (pick_fs hG hL).length_eq
      rw [hl] at this
      simpa using this.symm
    refine ⟨h0, ?_⟩
    unfold St.take
    rw [hl]
    exact pick_nil h0
  | cons r t =>
    rw [hl] at h
    have := (hp.ok r (by rw [hl]; simp)).ne
    cases hi : r.its with
    | nil => exact absurd hi this
    | cons x u => simp [hi] at h
theorem take_some {s : St} {f : Int} {x : E} (h : s.takeV = some (f, x)) : ∃ r t u, s.pick.l = r :: t ∧ r.f = f ∧ r.its = x :: u ∧ s.take = s.pick.with { r with d := r.d - x.2, its := u } := by
  unfold St.takeV at h
  cases hl : s.pick.l with
  | nil => rw [hl] at h; cases h
  | cons r t =>
    rw [hl] at h
    cases hi : r.its with
    | nil => simp [hi] at h
    | cons y u =>
      simp [hi] at h
      obtain ⟨h1, h2⟩ := h
      subst h2
      refine ⟨r, t, u, rfl, h1, hi, ?_⟩
      unfold St.take
      rw [hl]
      simp only [hi]
theorem Phi_take {i j wi wj : Int} (hij : i ≠ j) {s : St} (hG : Good s) (hL : Lim 64 s) (h : Both i j wi wj s) (h' : Both i j wi wj s.take) {f : Int} {x : E} (hv : s.takeV = some (f, x)) :
    Phi i j wi wj s.take = Phi i j wi wj s + (if f = i then x.2 * wj else 0) - (if f = j then x.2 * wi else 0) := by
  obtain ⟨r, t, u, hl, hf, hi, ht⟩ := take_some hv
  obtain ⟨hb, hp⟩ := Phi_pick hij hG hL h
  have hGp := (hG.pick hL).1
  rw [ht] at h' ⊢
  rw [← hp]
  have hrow : row s.pick.l f = some r := by rw [hl, row_cons, if_pos hf]
  by_cases hu : u = []
  · have hgone : ∀ k, (∃ y, row (s.pick.with { r with d := r.d - x.2, its := u }).l k = some y) → f ≠ k := fun k hk e => by
      obtain ⟨y, hy⟩ := hk
      have hnd := hGp.nd
      rw [hl] at hnd
      have hpg := put_gone (a := []) (b := t) (x := { r with d := r.d - x.2, its := u }) hnd rfl hu
      simp only [List.nil_append] at hpg
      rw [with_l, hl, hpg] at hy
      obtain ⟨hm, hyf⟩ := row_mem hy
      exact (nd_split (a := []) hnd).2 y hm (hyf.trans (e.symm.trans hf.symm))
    have hni : f ≠ i := hgone i (by obtain ⟨y, hy, _⟩ := h'.i; exact ⟨y, hy⟩)
    have hnj : f ≠ j := hgone j (by obtain ⟨y, hy, _⟩ := h'.j; exact ⟨y, hy⟩)
    rw [if_neg hni, if_neg hnj]
    have := Phi_with_other (wi := wi) (wj := wj) (s := s.pick) (x := { r with d := r.d - x.2, its := u }) (by simpa [hf] using hni) (by simpa [hf] using hnj)
    omega
  · by_cases e1 : f = i
    · have hnj : ¬ f = j := fun e => hij (e1.symm.trans e)
      rw [if_pos e1, if_neg hnj]
      have := Phi_with_i (wi := wi) (wj := wj) (s := s.pick) (x := { r with d := r.d - x.2, its := u }) hij (by rw [← e1]; exact hrow) (hf.trans e1) hu
      have e3 : r.d - (r.d - x.2) = x.2 := by omega
      simp only [e3] at this
      omega
    · by_cases e2 : f = j
      · rw [if_neg e1, if_pos e2]
        have := Phi_with_j (wi := wi) (wj := wj) (s := s.pick) (x := { r with d := r.d - x.2, its := u }) hij (by rw [← e2]; exact hrow) (hf.trans e2) hu
        have e3 : r.d - (r.d - x.2) = x.2 := by omega
        simp only [e3] at this
        omega
      · rw [if_neg e1, if_neg e2]
        have := Phi_with_other (wi := wi) (wj := wj) (s := s.pick) (x := { r with d := r.d - x.2, its := u }) (by simpa [hf] using e1) (by simpa [hf] using e2)
        omega
end Fl

namespace Fl
set_option linter.unusedVariables false
set_option linter.unusedSimpArgs false
open Ff (E)

/-- rows and items are at most n -/
structure Small (n : Nat) (s : St) : Prop where
  l : s.l.length ≤ n
  its : ∀ r ∈ s.l, r.its.length ≤ n
theorem Small.give {n : Nat} {s : St} (h : Small n s) : Small n s.give := by
  refine ⟨by rw [give_len]; exact h.l, ?_⟩
  cases hl : s.l with
  | nil => rw [give_nil hl]; exact h.its
  | cons r t =>
    obtain ⟨d, hd⟩ := give_shape hl
    rw [hd]
    intro x hx
    rcases List.mem_cons.1 hx with e | e
    · rw [e]; exact h.its r (by rw [hl]; simp)
    · exact h.its x (by rw [hl]; simp [e])
theorem Small.turn {n : Nat} {s : St} (h : Small n s) : Small n s.turn := by
  cases hl : s.l with
  | nil => unfold St.turn; rw [hl]; exact h
  | cons r t =>
    rw [turn_eq hl]
    have h1 := h.l
    have h2 := h.its
    rw [hl] at h1 h2
    exact ⟨by simpa using h1, fun x hx => h2 x (by simp at hx ⊢; rcases hx with e | e; exact Or.inr e; exact Or.inl e)⟩
theorem Small.pick {n : Nat} {s : St} (h : Small n s) (hG : Good s) (hL : Lim 64 s) : Small n s.pick :=
  pick_keeps (P := Small n) (fun _ _ h => h.give) (fun _ _ _ _ h => h.turn) hG hL h
theorem put_length (l : List Rw) (x : Rw) : (put l x).length ≤ l.length := by
  unfold put
  exact List.length_filterMap_le _ _
theorem Small.with {n : Nat} {s : St} {x : Rw} (h : Small n s) (hx : x.its.length ≤ n) : Small n (s.with x) :=
  ⟨Nat.le_trans (put_length s.l x) h.l, fun r hr => by
    rcases put_sub s.l x r hr with e | e
    · exact h.its r e
    · rw [e]; exact hx⟩
theorem Small.mono {n m : Nat} {s : St} (h : Small n s) (hm : n ≤ m) : Small m s := ⟨Nat.le_trans h.l hm, fun r hr => Nat.le_trans (h.its r hr) hm⟩
theorem Lim.mono {C D : Int} {s : St} (h : Lim C s) (hD : C ≤ D) : Lim D s :=
  ⟨fun r hr e he => Int.le_trans (h.cost r hr e he) hD, fun r hr => Int.le_trans (h.rest r hr) hD, fun r hr => by have := h.top r hr; omega⟩

/-! ### Push -/
theorem pushE_zero {l : List E} {id c : Int} (h : Ff.pushE l id c = 0) : Ff.bad id c = false ∧ Ff.has l id = false ∧ Ff.pushL l id c = l ++ [(id, c)] := by
  unfold Ff.pushE at h
  cases hb : Ff.bad id c with
  | true => rw [hb] at h; simp at h
  | false =>
    cases hh : Ff.has l id with
    | true => rw [hb, hh] at h; simp at h
    | false => exact ⟨rfl, rfl, by unfold Ff.pushL; rw [hb, hh]; rfl⟩
theorem pushL_cost {l : List E} {id c C : Int} (hl : ∀ e ∈ l, e.2 ≤ C) (hc : Ff.pushE l id c = 0 → c ≤ C) : ∀ e ∈ Ff.pushL l id c, e.2 ≤ C := by
  intro e he
  unfold Ff.pushL at he
  cases hb : Ff.bad id c with
  | true => rw [hb] at he; exact hl e (by simpa using he)
  | false =>
    cases hh : Ff.has l id with
    | true => rw [hb, hh] at he; exact hl e (by simpa using he)
    | false =>
      rw [hb, hh] at he
      have h0 : Ff.pushE l id c = 0 := by unfold Ff.pushE; rw [hb, hh]; rfl
      rcases List.mem_append.1 (show e ∈ l ++ [(id, c)] by simpa using he) with h1 | h1
      · exact hl e h1
      · obtain rfl : e = (id, c) := by simpa using h1
        exact hc h0
theorem good_pushL {l : List E} (h : Ff.Good l) {id c : Int} (hid : id ≤ 9223372036854775807) : Ff.Good (Ff.pushL l id c) := by
  unfold Ff.pushL
  cases hb : Ff.bad id c with
  | true => exact h
  | false =>
    cases hh : Ff.has l id with
    | true => exact h
    | false =>
      obtain ⟨b1, b2, b3⟩ := Ff.bad_no hb
      exact h.push b1 hid b2 b3 (Ff.has_no.1 hh)
theorem push_new {s : St} {f w id c : Int} (h1 : ¬ (f < 0 ∨ w < 1 ∨ w > 16)) (hr : row s.l f = none) : s.push f w id c = (if Ff.pushE [] id c = 0 then { s with l := s.l ++ [⟨f, w, 0, [(id, c)]⟩] } else s) ∧ s.pushE f w id c = Ff.pushE [] id c := by
  unfold St.push St.pushE
  rw [if_neg h1, if_neg h1, hr]
  exact ⟨rfl, rfl⟩
theorem push_there {s : St} {f w id c : Int} {r : Rw} (h1 : ¬ (f < 0 ∨ w < 1 ∨ w > 16)) (hr : row s.l f = some r) (hw : r.w = w) : s.push f w id c = { s with l := put s.l { r with its := Ff.pushL r.its id c } } ∧ s.pushE f w id c = Ff.pushE r.its id c := by
  unfold St.push St.pushE
  rw [if_neg h1, if_neg h1, hr]
  simp only [if_pos hw, and_self]
theorem push_bad {s : St} {f w id c : Int} (h : (f < 0 ∨ w < 1 ∨ w > 16) ∨ ∃ r, row s.l f = some r ∧ r.w ≠ w) : s.push f w id c = s ∧ s.pushE f w id c = 1 := by
  unfold St.push St.pushE
  by_cases h1 : f < 0 ∨ w < 1 ∨ w > 16
  · rw [if_pos h1, if_pos h1]; exact ⟨rfl, rfl⟩
  · rw [if_neg h1, if_neg h1]
    rcases h with h | ⟨r, hr, hw⟩
    · exact absurd h h1
    · rw [hr]; simp only [if_neg hw, and_self]
theorem push_cases (s : St) (f w id c : Int) : ((f < 0 ∨ w < 1 ∨ w > 16) ∨ ∃ r, row s.l f = some r ∧ r.w ≠ w) ∨ (¬ (f < 0 ∨ w < 1 ∨ w > 16) ∧ (row s.l f = none ∨ ∃ r, row s.l f = some r ∧ r.w = w)) := by
  by_cases h1 : f < 0 ∨ w < 1 ∨ w > 16
  · exact Or.inl (Or.inl h1)
  · cases hr : row s.l f with
    | none => exact Or.inr ⟨h1, Or.inl rfl⟩
    | some r =>
      by_cases hw : r.w = w
      · exact Or.inr ⟨h1, Or.inr ⟨r, rfl, hw⟩⟩
      · exact Or.inl (Or.inr ⟨r, rfl, hw⟩)
theorem put_its {s : St} {r : Rw} {its : List E} (hi : its ≠ []) : ({ s with l := put s.l { r with its := its } } : St) = s.with { r with its := its } := (with_put (x := { r with its := its }) hi).symm
theorem Good.push {s : St} (h : Good s) {f w id c : Int} (hf : f ≤ 9223372036854775807) (hid : id ≤ 9223372036854775807) : Good (s.push f w id c) := by
  rcases push_cases s f w id c with h1 | ⟨h1, hr | ⟨r, hr, hw⟩⟩
  · rw [(push_bad h1).1]; exact h
  · rw [(push_new h1 hr).1]
    split
    · rename_i h0
      obtain ⟨b, _, hl⟩ := pushE_zero h0
      refine ⟨h.q, ?_, fun x hx => ?_, fun h0 => by simp at h0⟩
      · rw [List.map_append, List.nodup_append]
        refine ⟨h.nd, by simp, fun u hu v hv => ?_⟩
        obtain ⟨x, hx, rfl⟩ := List.mem_map.1 hu
        simp at hv
        subst hv
        exact row_none.1 hr x hx
      · rcases List.mem_append.1 hx with e | e
        · exact h.ok x e
        · obtain rfl : x = ⟨f, w, 0, [(id, c)]⟩ := by simpa using e
          have hg := good_pushL (c := c) Ff.good_nil hid
          rw [hl] at hg
          exact ⟨⟨by show 0 ≤ f; omega, hf⟩, ⟨by show 1 ≤ w; omega, by show w ≤ 16; omega⟩, Int.le_refl 0, by simp, by simpa using hg⟩
    · exact h
  · have hm := (row_mem hr).1
    have ho := h.ok r hm
    rw [(push_there h1 hr hw).1, put_its (pushL_ne ho.ne id c)]
    exact h.with ⟨r, hm, rfl⟩ (fun hi => ⟨ho.f, ho.w, ho.d, hi, good_pushL ho.its hid⟩)
theorem Lim.push {C : Int} {s : St} (h : Lim C s) (hG : Good s) (hC : 0 ≤ C) {f w id c : Int} (hc : s.pushE f w id c = 0 → c ≤ C) : Lim C (s.push f w id c) := by
  rcases push_cases s f w id c with h1 | ⟨h1, hr | ⟨r, hr, hw⟩⟩
  · rw [(push_bad h1).1]; exact h
  · obtain ⟨e1, e2⟩ := push_new (id := id) (c := c) h1 hr
    rw [e1]
    rw [e2] at hc
    split
    · rename_i h0
      have hc := hc h0
      refine ⟨fun x hx => ?_, fun x hx => ?_, fun x hx => ?_⟩
      · rcases List.mem_append.1 hx with e | e
        · exact h.cost x e
        · obtain rfl : x = ⟨f, w, 0, [(id, c)]⟩ := by simpa using e
          intro e he
          obtain rfl : e = (id, c) := by simpa using he
          exact hc
      · cases hl : s.l with
        | nil => simp [hl] at hx
        | cons y t =>
          simp [hl] at hx
          rcases hx with e | e
          · exact h.rest x (by rw [hl]; exact e)
          · rw [e]; exact hC
      · cases hl : s.l with
        | nil =>
          simp [hl] at hx
          subst hx
          rw [hG.gv hl]
          simpa using hC
        | cons y t =>
          simp [hl] at hx
          subst hx
          exact h.top y (by rw [hl]; rfl)
    · exact h
  · obtain ⟨e1, e2⟩ := push_there (id := id) (c := c) h1 hr hw
    have hm := (row_mem hr).1
    have ho := hG.ok r hm
    rw [e1, put_its (pushL_ne ho.ne id c)]
    rw [e2] at hc
    exact h.with hG hm rfl rfl (pushL_cost (h.cost r hm) hc) (Int.le_refl _)
theorem length_pushL' (l : List E) (id c : Int) : (Ff.pushL l id c).length ≤ l.length + 1 := by
  unfold Ff.pushL
  split
  · omega
  · split
    · omega
    · simp
theorem Small.push {n : Nat} {s : St} (h : Small n s) (hG : Good s) (f w id c : Int) : Small (n + 1) (s.push f w id c) := by
  rcases push_cases s f w id c with h1 | ⟨h1, hr | ⟨r, hr, hw⟩⟩
  · rw [(push_bad h1).1]; exact h.mono (Nat.le_succ n)
  · rw [(push_new h1 hr).1]
    split
    · refine ⟨by have := h.l; simp; omega, fun x hx => ?_⟩
      rcases List.mem_append.1 hx with e | e
      · have := h.its x e; omega
      · obtain rfl : x = ⟨f, w, 0, [(id, c)]⟩ := by simpa using e
        simp
    · exact h.mono (Nat.le_succ n)
  · have hm := (row_mem hr).1
    rw [(push_there h1 hr hw).1, put_its (pushL_ne (hG.ok r hm).ne id c)]
    refine (h.mono (Nat.le_succ n)).with ?_
    have := length_pushL' r.its id c
    have := h.its r hm
    show (Ff.pushL r.its id c).length ≤ n + 1
    omega

/-! ### Take, Drop -/
theorem Good.take {s : St} (h : Good s) (hL : Lim 64 s) : Good s.take := by
  cases hv : s.takeV with
  | none => rw [(take_none h hL hv).2]; exact h
  | some v =>
    obtain ⟨f, x⟩ := v
    obtain ⟨r, t, u, hl, hf, hi, ht⟩ := take_some hv
    obtain ⟨hp, hpL, hre⟩ := h.pick hL
    have hm : r ∈ s.pick.l := by rw [hl]; simp
    have ho := hp.ok r hm
    rw [ht]
    refine hp.with ⟨r, hm, rfl⟩ (fun hu => ⟨ho.f, ho.w, ?_, hu, ho.its.sub (by rw [hi]; exact List.sublist_cons_self x u)⟩)
    simp [St.ready, hl, Rw.fits, hi] at hre
    show 0 ≤ r.d - x.2
    omega
theorem Lim.take {C : Int} {s : St} (h : Lim C s) (hG : Good s) (hL : Lim 64 s) : Lim C s.take := by
  cases hv : s.takeV with
  | none => rw [(take_none hG hL hv).2]; exact h
  | some v =>
    obtain ⟨f, x⟩ := v
    obtain ⟨r, t, u, hl, hf, hi, ht⟩ := take_some hv
    obtain ⟨hp, hpL, hre⟩ := hG.pick hL
    have hpC := h.pick hG hL
    have hm : r ∈ s.pick.l := by rw [hl]; simp
    have hx := ((hp.ok r hm).its.co x (by rw [hi]; simp)).1
    rw [ht]
    exact hpC.with hp hm rfl rfl (fun e he => hpC.cost r hm e (by rw [hi]; exact List.mem_cons_of_mem _ he)) (by show r.d - x.2 ≤ r.d; omega)
theorem Small.take {n : Nat} {s : St} (h : Small n s) (hG : Good s) (hL : Lim 64 s) : Small n s.take := by
  cases hv : s.takeV with
  | none => rw [(take_none hG hL hv).2]; exact h
  | some v =>
    obtain ⟨f, x⟩ := v
    obtain ⟨r, t, u, hl, hf, hi, ht⟩ := take_some hv
    rw [ht]
    refine (h.pick hG hL).with ?_
    have := (h.pick hG hL).its r (by rw [hl]; simp)
    rw [hi] at this
    simp at this
    show u.length ≤ n
    omega
theorem drop_no {s : St} {f id : Int} (h : s.dropB f id = false) : s.drop f id = s := by
  unfold St.dropB at h
  unfold St.drop
  split
  · rfl
  · rename_i r hr
    rw [hr] at h
    simp only at h
    rw [h]; rfl
theorem drop_yes {s : St} {f id : Int} (h : s.dropB f id = true) : ∃ r, row s.l f = some r ∧ Ff.has r.its id = true ∧ s.drop f id = s.with { r with its := Ff.drop r.its id } := by
  unfold St.dropB at h
  cases hr : row s.l f with
  | none => rw [hr] at h; cases h
  | some r =>
    rw [hr] at h
    simp only at h
    refine ⟨r, rfl, h, ?_⟩
    unfold St.drop
    rw [hr]
    simp only [h, if_true]
theorem Good.drop {s : St} (h : Good s) (f id : Int) : Good (s.drop f id) := by
  cases hb : s.dropB f id with
  | false => rw [drop_no hb]; exact h
  | true =>
    obtain ⟨r, hr, _, e⟩ := drop_yes hb
    have hm := (row_mem hr).1
    have ho := h.ok r hm
    rw [e]
    exact h.with ⟨r, hm, rfl⟩ (fun hi => ⟨ho.f, ho.w, ho.d, hi, ho.its.drop id⟩)
theorem Lim.drop {C : Int} {s : St} (h : Lim C s) (hG : Good s) (f id : Int) : Lim C (s.drop f id) := by
  cases hb : s.dropB f id with
  | false => rw [drop_no hb]; exact h
  | true =>
    obtain ⟨r, hr, _, e⟩ := drop_yes hb
    have hm := (row_mem hr).1
    rw [e]
    exact h.with hG hm rfl rfl (fun e he => h.cost r hm e (List.mem_filter.1 he).1) (Int.le_refl _)
theorem Small.drop {n : Nat} {s : St} (h : Small n s) (f id : Int) : Small n (s.drop f id) := by
  cases hb : s.dropB f id with
  | false => rw [drop_no hb]; exact h
  | true =>
    obtain ⟨r, hr, _, e⟩ := drop_yes hb
    rw [e]
    refine h.with ?_
    have := Ff.drop_length r.its id
    have := h.its r (row_mem hr).1
    show (Ff.drop r.its id).length ≤ n
    omega

/-! ### moments -/
/-- a moment: the ring, what was taken from each flow, how often something was dropped from it -/
structure Mo where
  s : St
  T : Int → Int
  D : Int → Int
def Mo.next (wt : Int → Int) (m : Mo) (kd f id c : Int) : Mo :=
  if kd = 0 then { m with s := m.s.push f (wt f) id c }
  else if kd = 1 then { m with s := m.s.take, T := match m.s.takeV with | none => m.T | some (g, x) => fun k => if k = g then m.T k + x.2 else m.T k }
  else if kd = 2 then { m with s := m.s.pick }
  else { m with s := m.s.drop f id, D := if m.s.dropB f id then fun k => if k = f then m.D k + 1 else m.D k else m.D }
/-- the greatest cost so far -/
def costN (wt : Int → Int) (C : Int) (m : Mo) (kd f id c : Int) : Int := if kd = 0 ∧ m.s.pushE f (wt f) id c = 0 then max C c else C
/-- what is taken between two moments follows from the rings -/
def Next (a b : Mo) : Prop := ∀ i j wi wj, i ≠ j → Both i j wi wj a.s → Both i j wi wj b.s → b.D i = a.D i → b.D j = a.D j → (b.T i - a.T i) * wj - (b.T j - a.T j) * wi = Phi i j wi wj b.s - Phi i j wi wj a.s
theorem next_next {wt : Int → Int} {m : Mo} (hG : Good m.s) (hL : Lim 64 m.s) (kd f id c : Int) : Next m (m.next wt kd f id c) := by
  intro i j wi wj hij ha hb hi hj
  unfold Mo.next at *
  by_cases h0 : kd = 0
  · rw [if_pos h0] at *
    have := Phi_push (wi := wi) (wj := wj) hij hG ha f (wt f) id c
    simp only [this, Int.sub_self, Int.zero_mul]
  · rw [if_neg h0] at *
    by_cases h1 : kd = 1
    · rw [if_pos h1] at *
      simp only at hb ⊢
      cases hv : m.s.takeV with
      | none =>
        rw [(take_none hG hL hv).2]
        simp only [Int.sub_self, Int.zero_mul]
      | some v =>
        obtain ⟨g, x⟩ := v
        have := Phi_take hij hG hL ha hb hv
        rw [this]
        simp only
        by_cases e1 : i = g
        · have e2 : ¬ j = g := fun e => hij (e1.trans e.symm)
          have e3 : ¬ g = j := fun e => e2 e.symm
          rw [if_pos e1, if_neg e2, if_pos e1.symm, if_neg e3]
          have : m.T i + x.2 - m.T i = x.2 := by omega
          rw [this]
          simp only [Int.sub_self, Int.zero_mul]
          omega
        · have e1' : ¬ g = i := fun e => e1 e.symm
          rw [if_neg e1, if_neg e1']
          by_cases e2 : j = g
          · rw [if_pos e2, if_pos e2.symm]
            have : m.T j + x.2 - m.T j = x.2 := by omega
            rw [this]
            simp only [Int.sub_self, Int.zero_mul]
            omega
          · have e2' : ¬ g = j := fun e => e2 e.symm
            rw [if_neg e2, if_neg e2']
            simp only [Int.sub_self, Int.zero_mul]
            omega
    · rw [if_neg h1] at *
      by_cases h2 : kd = 2
      · rw [if_pos h2] at *
        have := (Phi_pick hij hG hL ha).2
        simp only [this, Int.sub_self, Int.zero_mul]
      · rw [if_neg h2] at *
        simp only at hi hj ⊢
        have hd : m.s.dropB f id = true → f ≠ i ∧ f ≠ j := fun hdb => by
          rw [if_pos hdb] at hi hj
          refine ⟨fun e => ?_, fun e => ?_⟩
          · rw [if_pos e.symm] at hi; omega
          · rw [if_pos e.symm] at hj; omega
        have := Phi_drop (wi := wi) (wj := wj) hij (s := m.s) f id hd
        simp only [this, Int.sub_self, Int.zero_mul]
/-- from moment k to the last -/
theorem sum_from {L : List Mo} (hN : ∀ m (h : m + 1 < L.length), Next L[m] L[m + 1]) {i j wi wj : Int} (hij : i ≠ j) (z : Mo) (n : Nat) (hn : n + 1 = L.length) (hz : ∀ h : n < L.length, L[n] = z) :
    ∀ (d k : Nat) (hk : k < L.length), k + d = n → (∀ m (h : m < L.length), k ≤ m → Both i j wi wj L[m].s ∧ L[m].D i = z.D i ∧ L[m].D j = z.D j) →
      (z.T i - L[k].T i) * wj - (z.T j - L[k].T j) * wi = Phi i j wi wj z.s - Phi i j wi wj L[k].s
  | 0, k, hk, he, hb => by
    have : k = n := by omega
    subst this
    rw [hz hk]
    simp only [Int.sub_self, Int.zero_mul]
  | d + 1, k, hk, he, hb => by
    have hk2 : k + 1 < L.length := by omega
    have ih := sum_from hN hij z n hn hz d (k + 1) hk2 (by omega) (fun m h hm => hb m h (by omega))
    obtain ⟨b1, d1, d2⟩ := hb k hk (Nat.le_refl k)
    obtain ⟨b2, d3, d4⟩ := hb (k + 1) hk2 (Nat.le_succ k)
    have h1 := hN k hk2 i j wi wj hij b1 b2 (d3.trans d1.symm) (d4.trans d2.symm)
    have e1 : (z.T i - L[k].T i) * wj = (z.T i - L[k + 1].T i) * wj + (L[k + 1].T i - L[k].T i) * wj := by rw [← Int.add_mul]; congr 1; omega
    have e2 : (z.T j - L[k].T j) * wi = (z.T j - L[k + 1].T j) * wi + (L[k + 1].T j - L[k].T j) * wi := by rw [← Int.add_mul]; congr 1; omega
    omega
/-- fair from moment k to the last -/
theorem fair_from {L : List Mo} (hN : ∀ m (h : m + 1 < L.length), Next L[m] L[m + 1]) {i j wi wj C : Int} (hij : i ≠ j) (hwi : 0 ≤ wi) (hwj : 0 ≤ wj) (hC : 0 ≤ C) (hG : ∀ m ∈ L, Good m.s ∧ Lim C m.s) {q : Int} (hq : ∀ m ∈ L, m.s.q = q) (n k : Nat) (hn : n + 1 = L.length) (hk : k < L.length)
    (hb : ∀ m (h : m < L.length), k ≤ m → Both i j wi wj L[m].s ∧ L[m].D i = (L[n]'(by omega)).D i ∧ L[m].D j = (L[n]'(by omega)).D j) :
    ((L[n]'(by omega)).T i - L[k].T i) * wj ≤ ((L[n]'(by omega)).T j - L[k].T j) * wi + (q * wi * wj + C * wj + C * wi) ∧ ((L[n]'(by omega)).T j - L[k].T j) * wi ≤ ((L[n]'(by omega)).T i - L[k].T i) * wj + (q * wi * wj + C * wj + C * wi) := by
  have hnl : n < L.length := by omega
  have h1 := sum_from hN hij L[n] n hn (fun _ => rfl) (n - k) k hk (by omega) hb
  obtain ⟨g1, l1⟩ := hG L[k] (List.getElem_mem hk)
  obtain ⟨g2, l2⟩ := hG L[n] (List.getElem_mem hnl)
  have b1 := Phi_bound hij hwi hwj hC g1 l1 (hb k hk (Nat.le_refl k)).1
  have b2 := Phi_bound hij hwi hwj hC g2 l2 (hb n hnl (by omega)).1
  rw [hq _ (List.getElem_mem hk)] at b1
  rw [hq _ (List.getElem_mem hnl)] at b2
  omega
end Fl
