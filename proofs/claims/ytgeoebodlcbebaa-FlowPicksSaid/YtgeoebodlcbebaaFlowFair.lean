/-
  Deficit round robin: calls keep a ring valid; fairness between two flows.
-/
import Derived.Test.YtgeoebodlcbebaaFlowMath
namespace Fl
set_option linter.unusedVariables false
set_option linter.unusedSimpArgs false
open Ff (E)

/-! ### a row put -/
theorem put_cons (r : Rw) (t : List Rw) (x : Rw) : put (r :: t) x = if r.f = x.f then (if x.its = [] then put t x else x :: put t x) else r :: put t x := by
  unfold put
  rw [List.filterMap_cons]
  by_cases h1 : r.f = x.f
  · rw [if_pos h1, if_pos h1]
    by_cases h2 : x.its = []
    · rw [if_pos h2, if_pos h2]
    · rw [if_neg h2, if_neg h2]
  · rw [if_neg h1, if_neg h1]
theorem put_nd {l : List Rw} {x : Rw} (h : (l.map (·.f)).Nodup) : ((put l x).map (·.f)).Nodup := by
  have hs : ((put l x).map (·.f)).Sublist (l.map (·.f)) := by
    induction l with
    | nil => exact List.Sublist.refl _
    | cons r t ih =>
      have ih := ih (by rw [List.map_cons, List.nodup_cons] at h; exact h.2)
      rw [put_cons]
      by_cases h1 : r.f = x.f
      · rw [if_pos h1]
        by_cases h2 : x.its = []
        · rw [if_pos h2]; exact ih.cons _
        · rw [if_neg h2, List.map_cons, List.map_cons, h1]; exact ih.cons_cons _
      · rw [if_neg h1, List.map_cons, List.map_cons]; exact ih.cons_cons _
  exact hs.nodup h
theorem with_l (s : St) (x : Rw) : (s.with x).l = put s.l x := rfl
theorem with_q (s : St) (x : Rw) : (s.with x).q = s.q := rfl
theorem with_stay {s : St} {x : Rw} (h : x.its ≠ []) : (s.with x).g = s.g := by
  unfold St.with
  cases hi : x.its with
  | nil => exact absurd hi h
  | cons y t => simp
theorem with_later {s : St} {x r : Rw} {t : List Rw} (hl : s.l = r :: t) (h : r.f ≠ x.f) : (s.with x).g = s.g := by
  unfold St.with
  simp [hl, h]
theorem with_first {s : St} {x r : Rw} {t : List Rw} (hl : s.l = r :: t) (h : r.f = x.f) (hi : x.its = []) : (s.with x).g = false := by
  unfold St.with
  simp [hl, h, hi]
theorem Good.with {s : St} {x : Rw} (h : Good s) (hm : ∃ r ∈ s.l, r.f = x.f) (hx : x.its ≠ [] → RowOk x) : Good (s.with x) := by
  refine ⟨h.q, put_nd h.nd, fun r hr => ?_, fun h0 => ?_⟩
  · unfold St.with put at hr
    obtain ⟨y, hy, he⟩ := List.mem_filterMap.1 hr
    by_cases h1 : y.f = x.f
    · rw [if_pos h1] at he
      by_cases h2 : x.its = []
      · rw [if_pos h2] at he; cases he
      · rw [if_neg h2] at he; cases he; exact hx h2
    · rw [if_neg h1] at he; cases he; exact h.ok r hy
  · rw [with_l] at h0
    cases hl : s.l with
    | nil =>
      obtain ⟨r, hr, _⟩ := hm
      rw [hl] at hr; cases hr
    | cons r t =>
      have h1 : r.f = x.f ∧ x.its = [] := by
        rw [hl] at h0
        unfold put at h0
        rw [List.filterMap_cons] at h0
        by_cases h1 : r.f = x.f
        · rw [if_pos h1] at h0
          by_cases h2 : x.its = []
          · exact ⟨h1, h2⟩
          · rw [if_neg h2] at h0; cases h0
        · rw [if_neg h1] at h0; cases h0
      exact with_first hl h1.1 h1.2
theorem Lim.with {C : Int} {s : St} {x : Rw} (h : Lim C s) (hg : Good s) {r : Rw} (hr : r ∈ s.l) (hf : r.f = x.f) (hw : r.w = x.w) (hc : ∀ e ∈ x.its, e.2 ≤ C) (hd : x.d ≤ r.d) : Lim C (s.with x) := by
  cases hl : s.l with
  | nil => rw [hl] at hr; cases hr
  | cons y t =>
    have hnd := hg.nd
    have hrest := h.rest
    have htop := h.top
    have hcost := h.cost
    rw [hl] at hnd hrest htop hcost
    have htop' := htop y rfl
    refine ⟨fun z hz => ?_, ?_, ?_⟩
    · rcases put_sub s.l x z hz with e | e
      · exact h.cost z e
      · rw [e]; exact hc
    · by_cases h1 : y.f = x.f
      · have hy : y = r := by
          have hm : y ∈ s.l := by rw [hl]; simp
          exact Ff.inj_of_nd hg.nd hm hr (h1.trans hf.symm)
        by_cases h2 : x.its = []
        · have e : (s.with x).l = t := by rw [with_l, hl]; exact put_gone (a := []) hnd h1 h2
          rw [e]
          intro z hz
          exact hrest z (by simpa using List.mem_of_mem_tail hz)
        · have e : (s.with x).l = x :: t := by rw [with_l, hl]; exact put_set (a := []) hnd h1 h2
          rw [e]
          exact hrest
      · have e : (s.with x).l = y :: put t x := by
          rw [with_l, hl]
          unfold put
          rw [List.filterMap_cons, if_neg h1]
        rw [e]
        intro z hz
        rcases put_sub t x z hz with e2 | e2
        · exact hrest z e2
        · have hrt : r ∈ t := by
            rw [hl] at hr
            rcases List.mem_cons.1 hr with e3 | e3
            · exact absurd (by rw [← e3]; exact hf) h1
            · exact e3
          rw [e2]
          have := hrest r hrt
          omega
    · intro z hz
      by_cases h1 : y.f = x.f
      · have hy : y = r := by
          have hm : y ∈ s.l := by rw [hl]; simp
          exact Ff.inj_of_nd hg.nd hm hr (h1.trans hf.symm)
        by_cases h2 : x.its = []
        · have e : (s.with x).l = t := by rw [with_l, hl]; exact put_gone (a := []) hnd h1 h2
          rw [e] at hz
          rw [with_first hl h1 h2]
          have := hrest z (by simpa using List.mem_of_head? hz)
          simpa using this
        · have e : (s.with x).l = x :: t := by rw [with_l, hl]; exact put_set (a := []) hnd h1 h2
          rw [e] at hz
          simp at hz
          subst hz
          rw [with_stay h2, with_q, ← hw, ← hy]
          rw [hy] at htop' ⊢
          omega
      · have e : (s.with x).l = y :: put t x := by
          rw [with_l, hl]
          unfold put
          rw [List.filterMap_cons, if_neg h1]
        rw [e] at hz
        simp at hz
        subst hz
        rw [with_later hl h1, with_q]
        exact htop'

/-! ### two flows -/
def lead (l : List Rw) (i j : Int) : Option Int := (l.find? (fun r => r.f == i || r.f == j)).map (·.f)
/-- whose turn it is, of the two: 0: i's, 1: j's -/
def St.turnOf (s : St) (i j : Int) : Int :=
  if s.g = true ∧ (s.l.head?.map (·.f) = some i ∨ s.l.head?.map (·.f) = some j) then (if lead s.l i j = some i then 1 else 0) else (if lead s.l i j = some i then 0 else 1)
def dOf (l : List Rw) (f : Int) : Int := ((row l f).map (·.d)).getD 0
def Phi (i j wi wj : Int) (s : St) : Int := s.turnOf i j * (s.q * wi * wj) - dOf s.l i * wj + dOf s.l j * wi
/-- both wait, with these weights -/
structure Both (i j wi wj : Int) (s : St) : Prop where
  i : ∃ r, row s.l i = some r ∧ r.w = wi
  j : ∃ r, row s.l j = some r ∧ r.w = wj
theorem lead_cons (r : Rw) (t : List Rw) (i j : Int) : lead (r :: t) i j = if r.f = i ∨ r.f = j then some r.f else lead t i j := by
  unfold lead
  rw [List.find?_cons]
  by_cases h : r.f = i ∨ r.f = j
  · rw [if_pos h]
    have : (r.f == i || r.f == j) = true := by simpa using h
    rw [this]; rfl
  · rw [if_neg h]
    have : (r.f == i || r.f == j) = false := by simpa using h
    rw [this]
theorem lead_append {a b : List Rw} {i j : Int} (h : lead a i j ≠ none) : lead (a ++ b) i j = lead a i j := by
  unfold lead at h ⊢
  rw [List.find?_append]
  cases hf : a.find? (fun r => r.f == i || r.f == j) with
  | none => rw [hf] at h; exact absurd rfl h
  | some r => rfl
theorem lead_some {l : List Rw} {i j : Int} {r : Rw} (h : row l i = some r) : lead l i j ≠ none := by
  obtain ⟨h1, h2⟩ := row_mem h
  unfold lead
  intro h3
  rw [Option.map_eq_none_iff, List.find?_eq_none] at h3
  have := h3 r h1
  simp [h2] at this
theorem lead_some' {l : List Rw} {i j : Int} {r : Rw} (h : row l j = some r) : lead l i j ≠ none := by
  obtain ⟨h1, h2⟩ := row_mem h
  unfold lead
  intro h3
  rw [Option.map_eq_none_iff, List.find?_eq_none] at h3
  have := h3 r h1
  simp [h2] at this
theorem row_cons (r : Rw) (t : List Rw) (f : Int) : row (r :: t) f = if r.f = f then some r else row t f := by
  unfold row
  rw [List.find?_cons]
  by_cases h : r.f = f
  · simp [h]
  · have : (r.f == f) = false := by simpa using h
    rw [this, if_neg h]
theorem row_snoc {t : List Rw} {r : Rw} {f : Int} (h : r.f ≠ f) : row (t ++ [r]) f = row t f := by
  unfold row
  rw [List.find?_append]
  have : [r].find? (fun r => r.f == f) = none := by simp [h]
  rw [this]
  simp
theorem row_snoc_same {t : List Rw} {r : Rw} (h : ∀ x ∈ t, x.f ≠ r.f) : row (t ++ [r]) r.f = some r := by
  unfold row
  rw [List.find?_append]
  have : t.find? (fun x => x.f == r.f) = none := List.find?_eq_none.2 (fun x hx => by simpa using h x hx)
  rw [this]
  simp
theorem give_shape {s : St} {r : Rw} {t : List Rw} (hl : s.l = r :: t) : ∃ d, s.give.l = { r with d := d } :: t := by
  cases hg : s.g with
  | true => rw [give_yes hg]; exact ⟨r.d, hl⟩
  | false => rw [give_no hl hg]; exact ⟨_, rfl⟩
theorem Both.give {i j wi wj : Int} {s : St} (h : Both i j wi wj s) : Both i j wi wj s.give := by
  cases hl : s.l with
  | nil => rw [give_nil hl]; exact h
  | cons r t =>
    obtain ⟨d, hd⟩ := give_shape hl
    obtain ⟨x, h1, h2⟩ := h.i
    obtain ⟨y, h3, h4⟩ := h.j
    rw [hl, row_cons] at h1 h3
    refine ⟨?_, ?_⟩
    · rw [hd, row_cons]
      by_cases e : r.f = i
      · rw [if_pos e] at h1
        cases h1
        exact ⟨{ r with d := d }, by rw [if_pos e], h2⟩
      · rw [if_neg e] at h1
        exact ⟨x, by rw [if_neg e]; exact h1, h2⟩
    · rw [hd, row_cons]
      by_cases e : r.f = j
      · rw [if_pos e] at h3
        cases h3
        exact ⟨{ r with d := d }, by rw [if_pos e], h4⟩
      · rw [if_neg e] at h3
        exact ⟨y, by rw [if_neg e]; exact h3, h4⟩
theorem row_turn {s : St} (hnd : (s.l.map (·.f)).Nodup) (f : Int) : row s.turn.l f = row s.l f := by
  cases hl : s.l with
  | nil => unfold St.turn; rw [hl]; simp [hl]
  | cons r t =>
    rw [turn_eq hl]
    show row (t ++ [r]) f = row (r :: t) f
    rw [hl] at hnd
    rw [row_cons]
    by_cases e : r.f = f
    · rw [if_pos e, ← e]
      exact row_snoc_same (nd_split (a := []) hnd).2
    · rw [if_neg e]
      exact row_snoc e
theorem Both.turn {i j wi wj : Int} {s : St} (h : Both i j wi wj s) (hnd : (s.l.map (·.f)).Nodup) : Both i j wi wj s.turn :=
  ⟨by rw [row_turn hnd]; exact h.i, by rw [row_turn hnd]; exact h.j⟩
theorem dOf_turn {s : St} (hnd : (s.l.map (·.f)).Nodup) (f : Int) : dOf s.turn.l f = dOf s.l f := by unfold dOf; rw [row_turn hnd]
theorem Phi_turn {i j wi wj : Int} (hij : i ≠ j) {s : St} (hG : Good s) (hg : s.g = true) (h : Both i j wi wj s) : Phi i j wi wj s.turn = Phi i j wi wj s := by
  unfold Phi
  rw [dOf_turn hG.nd, dOf_turn hG.nd, turn_q]
  have e : s.turn.turnOf i j = s.turnOf i j := by
    cases hl : s.l with
    | nil =>
      obtain ⟨x, h1, _⟩ := h.i
      rw [hl] at h1; cases h1
    | cons r t =>
      have hnd := hG.nd
      rw [hl] at hnd
      obtain ⟨n1, n2⟩ := nd_split (a := []) hnd
      obtain ⟨x, h1, _⟩ := h.i
      obtain ⟨y, h2, _⟩ := h.j
      rw [hl, row_cons] at h1 h2
      rw [turn_eq hl]
      unfold St.turnOf
      simp only [hl, hg, List.head?_cons, Option.map_some, Option.some.injEq, Bool.false_eq_true, false_and, if_false, true_and]
      by_cases e1 : r.f = i
      · rw [if_neg (fun e => hij (e1.symm.trans e))] at h2
        have h3 := lead_some' (i := i) h2
        rw [lead_append h3, lead_cons, if_pos (Or.inl e1), if_pos (Or.inl e1), e1, if_pos rfl]
        have h4 : lead t i j ≠ some i := by
          intro h5
          unfold lead at h5
          rw [Option.map_eq_some_iff] at h5
          obtain ⟨z, h6, h7⟩ := h5
          exact n2 z (List.mem_of_find?_eq_some h6) (h7.trans e1.symm)
        rw [if_neg h4]
      · by_cases e2 : r.f = j
        · rw [if_neg e1] at h1
          have h3 := lead_some (j := j) h1
          have h4 : lead t i j = some i := by
            unfold lead at h3 ⊢
            cases hf : t.find? (fun r => r.f == i || r.f == j) with
            | none => rw [hf] at h3; exact absurd rfl h3
            | some z =>
              have hz := List.find?_some hf
              have hzm := List.mem_of_find?_eq_some hf
              simp at hz
              rcases hz with e | e
              · simp [e]
              · exact absurd (e.trans e2.symm) (n2 z hzm)
          rw [lead_append h3, h4, if_pos rfl, lead_cons, if_pos (Or.inr e2), if_pos (Or.inr e2)]
          rw [if_neg (fun e => e1 (by simpa using e))]
        · rw [if_neg e1] at h1
          have h3 := lead_some (j := j) h1
          have hno : ¬ (r.f = i ∨ r.f = j) := fun e => by rcases e with e | e; exact e1 e; exact e2 e
          rw [lead_append h3, lead_cons, if_neg hno, if_neg hno]
  rw [e]
theorem dOf_cons (r : Rw) (t : List Rw) (f : Int) : dOf (r :: t) f = if r.f = f then r.d else dOf t f := by
  unfold dOf
  rw [row_cons]
  by_cases h : r.f = f <;> simp [h]
theorem Phi_give {i j wi wj : Int} (hij : i ≠ j) {s : St} (h : Both i j wi wj s) : Phi i j wi wj s.give = Phi i j wi wj s := by
  cases hl : s.l with
  | nil => rw [give_nil hl]
  | cons r t =>
    cases hg : s.g with
    | true => rw [give_yes hg]
    | false =>
      obtain ⟨x, h1, h1w⟩ := h.i
      obtain ⟨y, h2, h2w⟩ := h.j
      rw [hl, row_cons] at h1 h2
      rw [give_no hl hg]
      unfold Phi St.turnOf
      simp only [hl, hg, List.head?_cons, Option.map_some, Option.some.injEq, Bool.false_eq_true, false_and, if_false, true_and, dOf_cons, lead_cons]
      by_cases e1 : r.f = i
      · rw [if_pos e1] at h1
        have h3 := Option.some.inj h1
        subst h3
        have e2 : r.f ≠ j := fun e => hij (e1.symm.trans e)
        simp only [e1, true_or, if_true, if_neg hij, h1w]
        have e3 : (r.d + s.q * wi) * wj = r.d * wj + s.q * wi * wj := Int.add_mul _ _ _
        rw [e3]
        omega
      · by_cases e2 : r.f = j
        · rw [if_pos e2] at h2
          have h3 := Option.some.inj h2
          subst h3
          have hji : ¬ j = i := fun e => hij e.symm
          simp only [e2, or_true, if_true, Option.some.injEq, if_neg hji, h2w]
          have e3 : (r.d + s.q * wj) * wi = r.d * wi + s.q * wi * wj := by
            rw [Int.add_mul, Int.mul_assoc s.q wj wi, Int.mul_comm wj wi, ← Int.mul_assoc]
          rw [e3]
          omega
        · simp only [e1, e2, false_or, if_false]
/-- a pick changes nothing between two flows -/
theorem Phi_pick {i j wi wj : Int} (hij : i ≠ j) {s : St} (hG : Good s) (hL : Lim 64 s) (h : Both i j wi wj s) : Both i j wi wj s.pick ∧ Phi i j wi wj s.pick = Phi i j wi wj s :=
  pick_keeps (P := fun x => Both i j wi wj x ∧ Phi i j wi wj x = Phi i j wi wj s) (fun x _ hx => ⟨hx.1.give, (Phi_give hij hx.1).trans hx.2⟩) (fun x hg h1 h2 hx => ⟨hx.1.turn hg.nd, (Phi_turn hij hg h1 hx.1).trans hx.2⟩) hG hL ⟨h, rfl⟩
end Fl
