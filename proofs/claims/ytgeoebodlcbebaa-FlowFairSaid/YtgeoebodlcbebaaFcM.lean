/-
  A run of acts upon four flows: its moments; pairs finds nothing.
-/
import Derived.Test.YtgeoebodlcbebaaFcB
import Derived.Test.YtgeoebodlcbebaaFlT
namespace Fl
set_option linter.unusedVariables false
set_option linter.unusedSimpArgs false
/-- each row is one of four flows, with its weight -/
def Wt (wt : Int → Int) (s : St) : Prop := ∀ r ∈ s.l, 0 ≤ r.f ∧ r.f ≤ 3 ∧ r.w = wt r.f
section
variable {wt : Int → Int} {s : St}
theorem Wt.give (h : Wt wt s) : Wt wt s.give := by
  cases hl : s.l with
  | nil => rw [give_nil hl]; exact h
  | cons r t =>
    obtain ⟨d, hd⟩ := give_shape hl
    intro x hx
    rw [hd] at hx
    rcases List.mem_cons.1 hx with e | e
    · subst e; exact h r (by rw [hl]; simp)
    · exact h x (by rw [hl]; simp [e])
theorem Wt.turn (h : Wt wt s) : Wt wt s.turn := by
  cases hl : s.l with
  | nil => unfold St.turn; rw [hl]; exact h
  | cons r t =>
    rw [turn_eq hl]
    intro x hx
    have hx : x ∈ t ++ [r] := hx
    refine h x ?_
    rw [hl]
    simp at hx ⊢
    rcases hx with e | e
    · exact Or.inr e
    · exact Or.inl e
theorem Wt.pick (h : Wt wt s) (hG : Good s) (hL : Lim 64 s) : Wt wt s.pick :=
  pick_keeps (P := Wt wt) (fun _ _ h => h.give) (fun _ _ _ _ h => h.turn) hG hL h
theorem Wt.with {x : Rw} (h : Wt wt s) (hx : ∃ r ∈ s.l, r.f = x.f ∧ r.w = x.w) : Wt wt (s.with x) := by
  intro y hy
  rcases put_sub s.l x y hy with e | e
  · exact h y e
  · obtain ⟨r, hr, e1, e2⟩ := hx
    subst e
    have := h r hr
    rw [e1, e2] at this
    exact this
theorem Wt.push (h : Wt wt s) {f : Int} (hf : 0 ≤ f ∧ f ≤ 3) (hG : Good s) (id c : Int) : Wt wt (s.push f (wt f) id c) := by
  rcases push_cases s f (wt f) id c with h1 | ⟨h1, hr | ⟨r, hr, hw⟩⟩
  · rw [(push_bad h1).1]; exact h
  · rw [(push_new h1 hr).1]
    split
    · intro x hx
      rcases List.mem_append.1 hx with e | e
      · exact h x e
      · simp at e; subst e; exact ⟨hf.1, hf.2, rfl⟩
    · exact h
  · have hm := (row_mem hr).1
    have ho := hG.ok r hm
    rw [(push_there h1 hr hw).1, put_its (pushL_ne ho.ne id c)]
    exact h.with ⟨r, hm, rfl, rfl⟩
theorem Wt.take (h : Wt wt s) (hG : Good s) (hL : Lim 64 s) : Wt wt s.take := by
  cases hv : s.takeV with
  | none => rw [(take_none hG hL hv).2]; exact h
  | some v =>
    obtain ⟨f, x⟩ := v
    obtain ⟨r, t, u, hl, hf, hi, ht⟩ := take_some hv
    rw [ht]
    exact (h.pick hG hL).with ⟨r, by rw [hl]; simp, rfl, rfl⟩
theorem Wt.drop (h : Wt wt s) (f id : Int) : Wt wt (s.drop f id) := by
  cases hb : s.dropB f id with
  | false => rw [drop_no hb]; exact h
  | true =>
    obtain ⟨r, hr, _, e⟩ := drop_yes hb
    rw [e]
    exact h.with ⟨r, (row_mem hr).1, rfl, rfl⟩
theorem push_q (f w id c : Int) : (s.push f w id c).q = s.q := by
  unfold St.push
  split
  · rfl
  · split
    · split <;> rfl
    · split <;> rfl
theorem take_q (hG : Good s) (hL : Lim 64 s) : s.take.q = s.q := by
  cases hv : s.takeV with
  | none => rw [(take_none hG hL hv).2]
  | some v =>
    obtain ⟨f, x⟩ := v
    obtain ⟨r, t, u, hl, hf, hi, ht⟩ := take_some hv
    rw [ht]
    exact pick_q hG hL
theorem drop_q (f id : Int) : (s.drop f id).q = s.q := by
  cases hb : s.dropB f id with
  | false => rw [drop_no hb]
  | true =>
    obtain ⟨r, hr, _, e⟩ := drop_yes hb
    rw [e]; rfl
/-- what is taken costs 1 to 64, of one of the four -/
theorem take_cost (h : Wt wt s) (hG : Good s) (hL : Lim 64 s) {f : Int} {x : Ff.E} (hv : s.takeV = some (f, x)) : 1 ≤ x.2 ∧ x.2 ≤ 64 ∧ 0 ≤ f ∧ f ≤ 3 := by
  obtain ⟨r, t, u, hl, hf, hi, ht⟩ := take_some hv
  have hm : r ∈ s.pick.l := by rw [hl]; simp
  have h1 := ((hG.pick hL).1.ok r hm).its.co x (by rw [hi]; simp)
  have h2 := h.pick hG hL r hm
  rw [hf] at h2
  exact ⟨h1.1, h1.2, h2.1, h2.2.1⟩
end
/-- a run: moments, the last of them, the greatest cost -/
structure Run (wt : Int → Int) (q C : Int) (L : List Mo) (n : Nat) (m : Mo) : Prop where
  len : L.length = n + 1
  last : L[n]? = some m
  nx : ∀ i (h : i + 1 < L.length), Next L[i] L[i + 1]
  ok : ∀ x ∈ L, Good x.s ∧ Lim C x.s ∧ Wt wt x.s ∧ x.s.q = q
  rise : ∀ a (h : a < L.length) i, L[a].T i ≤ m.T i
  tl : ∀ a (h : a < L.length) i, 0 ≤ L[a].T i
  tu : ∀ i, m.T i ≤ 64 * (n : Int)
  du : ∀ i, 0 ≤ m.D i ∧ m.D i ≤ (n : Int)
  c : 1 ≤ C ∧ C ≤ 64
theorem Run.start (wt : Int → Int) {q : Int} (h1 : 1 ≤ q) (h2 : q ≤ 64) : Run wt q 1 [⟨⟨q, [], false⟩, fun _ => 0, fun _ => 0⟩] 0 ⟨⟨q, [], false⟩, fun _ => 0, fun _ => 0⟩ := by
  refine ⟨rfl, rfl, fun i h => by simp at h, fun x hx => ?_, fun a h i => ?_, fun a h i => ?_, fun i => by simp, fun i => by simp, by decide, by decide⟩
  · obtain rfl : x = ⟨⟨q, [], false⟩, fun _ => 0, fun _ => 0⟩ := by simpa using hx
    exact ⟨⟨⟨h1, h2⟩, by simp, fun r hr => by simp at hr, fun _ => rfl⟩, ⟨fun r hr => by simp at hr, fun r hr => by simp at hr, fun r hr => by simp at hr⟩, fun r hr => by simp at hr, rfl⟩
  · simp at h; subst h; simp
  · simp at h; subst h; simp
theorem Run.mem {wt : Int → Int} {q C : Int} {L : List Mo} {n : Nat} {m : Mo} (h : Run wt q C L n m) : m ∈ L := List.mem_of_getElem? h.last
theorem Run.nth {wt : Int → Int} {q C : Int} {L : List Mo} {n : Nat} {m : Mo} (h : Run wt q C L n m) : ∃ hn : n < L.length, L[n] = m := by
  have hn : n < L.length := by have := h.len; omega
  have := h.last
  rw [List.getElem?_eq_getElem hn] at this
  exact ⟨hn, Option.some.inj this⟩
end Fl
namespace Go.Proofs.Ytgeoebodlcbebaa
open Go.RowKit
open Fl (Lk Mo St Wt Run costN)
set_option linter.unusedVariables false
set_option linter.unusedSimpArgs false

theorem Run.next {wt : Int → Int} {q C : Int} {L : List Mo} {n : Nat} {m : Mo} (h : Run wt q C L n m) (kd : Int) {f id : Int} (hf : 0 ≤ f ∧ f ≤ 3) (hid : id ≤ 9223372036854775807) (c : Int) :
    Run wt q (costN wt C m kd f id c) (L ++ [m.next wt kd f id c]) (n + 1) (m.next wt kd f id c) := by
  obtain ⟨hG, hLC, hW, hq⟩ := h.ok m h.mem
  have hL : Fl.Lim 64 m.s := hLC.mono h.c.2
  have hCC : C ≤ costN wt C m kd f id c ∧ costN wt C m kd f id c ≤ 64 := by
    unfold costN
    split
    · rename_i hc
      have := pushE_co hc.2
      have := h.c.2
      omega
    · exact ⟨Int.le_refl _, h.c.2⟩
  have hLC' : Fl.Lim (costN wt C m kd f id c) m.s := hLC.mono hCC.1
  obtain ⟨hn, hlast⟩ := h.nth
  have hnx := Fl.next_next (wt := wt) hG hL kd f id c
  have hnext : Fl.Good (m.next wt kd f id c).s ∧ Fl.Lim (costN wt C m kd f id c) (m.next wt kd f id c).s ∧ Wt wt (m.next wt kd f id c).s ∧ (m.next wt kd f id c).s.q = q := by
    have hc0 := h.c.1
    unfold Mo.next
    by_cases h0 : kd = 0
    · rw [if_pos h0]
      refine ⟨hG.push (by omega) hid, hLC'.push hG (by omega) (fun he => ?_), hW.push hf hG id c, (Fl.push_q _ _ _ _).trans hq⟩
      unfold costN
      rw [if_pos ⟨h0, he⟩]
      omega
    · rw [if_neg h0]
      by_cases h1 : kd = 1
      · rw [if_pos h1]
        exact ⟨hG.take hL, hLC'.take hG hL, hW.take hG hL, (Fl.take_q hG hL).trans hq⟩
      · rw [if_neg h1]
        by_cases h2 : kd = 2
        · rw [if_pos h2]
          exact ⟨(hG.pick hL).1, hLC'.pick hG hL, hW.pick hG hL, (Fl.pick_q hG hL).trans hq⟩
        · rw [if_neg h2]
          exact ⟨hG.drop f id, hLC'.drop hG f id, hW.drop f id, (Fl.drop_q f id).trans hq⟩
  have hT : ∀ i, m.T i ≤ (m.next wt kd f id c).T i ∧ (m.next wt kd f id c).T i ≤ m.T i + 64 := by
    intro i
    unfold Mo.next
    by_cases h0 : kd = 0
    · rw [if_pos h0]; show m.T i ≤ m.T i ∧ m.T i ≤ m.T i + 64; omega
    · rw [if_neg h0]
      by_cases h1 : kd = 1
      · rw [if_pos h1]
        cases hv : m.s.takeV with
        | none => show m.T i ≤ m.T i ∧ m.T i ≤ m.T i + 64; omega
        | some v =>
          obtain ⟨g, x⟩ := v
          have := Fl.take_cost hW hG hL hv
          show m.T i ≤ (if i = g then m.T i + x.2 else m.T i) ∧ (if i = g then m.T i + x.2 else m.T i) ≤ m.T i + 64
          split <;> omega
      · rw [if_neg h1]
        by_cases h2 : kd = 2
        · rw [if_pos h2]; show m.T i ≤ m.T i ∧ m.T i ≤ m.T i + 64; omega
        · rw [if_neg h2]; show m.T i ≤ m.T i ∧ m.T i ≤ m.T i + 64; omega
  have hD : ∀ i, m.D i ≤ (m.next wt kd f id c).D i ∧ (m.next wt kd f id c).D i ≤ m.D i + 1 := by
    intro i
    unfold Mo.next
    by_cases h0 : kd = 0
    · rw [if_pos h0]; show m.D i ≤ m.D i ∧ m.D i ≤ m.D i + 1; omega
    · rw [if_neg h0]
      by_cases h1 : kd = 1
      · rw [if_pos h1]; show m.D i ≤ m.D i ∧ m.D i ≤ m.D i + 1; omega
      · rw [if_neg h1]
        by_cases h2 : kd = 2
        · rw [if_pos h2]; show m.D i ≤ m.D i ∧ m.D i ≤ m.D i + 1; omega
        · rw [if_neg h2]
          cases hb : m.s.dropB f id with
          | false => simp; omega
          | true =>
            simp only [if_true]
            split <;> omega
  generalize costN wt C m kd f id c = C' at *
  generalize m.next wt kd f id c = m' at *
  have hl := h.len
  refine ⟨by simp [hl], by rw [List.getElem?_append_right (by omega)]; simp [hl], fun i hi => ?_, fun x hx => ?_, fun a ha i => ?_, fun a ha i => ?_, fun i => ?_, fun i => ?_, ?_⟩
  · simp at hi
    by_cases e : i + 1 < L.length
    · rw [List.getElem_append_left (by omega), List.getElem_append_left e]
      exact h.nx i e
    · have e1 : i = n := by omega
      subst e1
      rw [List.getElem_append_left hn, hlast, List.getElem_append_right (by omega)]
      simp only [List.getElem_singleton]
      exact hnx
  · rcases List.mem_append.1 hx with e | e
    · obtain ⟨g1, g2, g3, g4⟩ := h.ok x e
      exact ⟨g1, g2.mono hCC.1, g3, g4⟩
    · simp at e; subst e; exact hnext
  · by_cases e : a < L.length
    · rw [List.getElem_append_left e]
      have := h.rise a e i
      have := (hT i).1
      omega
    · rw [List.getElem_append_right (by omega)]
      simp
  · by_cases e : a < L.length
    · rw [List.getElem_append_left e]; exact h.tl a e i
    · rw [List.getElem_append_right (by omega)]
      simp only [List.getElem_singleton]
      have h1 := h.tl n hn i
      rw [hlast] at h1
      have := (hT i).1
      omega
  · have := h.tu i
    have := (hT i).2
    omega
  · have := h.du i
    have := hD i
    omega
  · have := h.c
    omega
theorem Run.near {wt : Int → Int} {q C : Int} {L : List Mo} {n : Nat} {m : Mo} (h : Run wt q C L n m) (hw : ∀ i : Nat, i < 4 → 1 ≤ wt i ∧ wt i ≤ 16) (hn : n ≤ 1000) {i j k : Nat} (hi : i < 4) (hj : j < i) (hk : k < L.length)
    (hb : ∀ a (ha : a < L.length), k ≤ a → (Fl.row L[a].s.l i).isSome = true ∧ (Fl.row L[a].s.l j).isSome = true ∧ L[a].D i = m.D i ∧ L[a].D j = m.D j) :
    nearI (m.T i - L[k].T i) (wt i) (m.T j - L[k].T j) (wt j) q C = true := by
  obtain ⟨hnl, hlast⟩ := h.nth
  have hwi := hw i hi
  have hwj := hw j (by omega)
  have hboth : ∀ a (ha : a < L.length), k ≤ a → Fl.Both i j (wt i) (wt j) L[a].s := fun a ha hka => by
    obtain ⟨h1, h2, _, _⟩ := hb a ha hka
    obtain ⟨_, _, hW, _⟩ := h.ok L[a] (List.getElem_mem ha)
    constructor
    · cases hr : Fl.row L[a].s.l i with
      | none => rw [hr] at h1; cases h1
      | some r => exact ⟨r, rfl, by rw [(hW r (Fl.row_mem hr).1).2.2, (Fl.row_mem hr).2]⟩
    · cases hr : Fl.row L[a].s.l j with
      | none => rw [hr] at h2; cases h2
      | some r => exact ⟨r, rfl, by rw [(hW r (Fl.row_mem hr).1).2.2, (Fl.row_mem hr).2]⟩
  have hc := h.c
  have hf := Fl.fair_from h.nx (i := (i : Int)) (j := (j : Int)) (wi := wt i) (wj := wt j) (C := C) (by omega) (by omega) (by omega) (by omega) (fun x hx => ⟨(h.ok x hx).1, (h.ok x hx).2.1⟩) (fun x hx => (h.ok x hx).2.2.2) n k h.len.symm hk (fun a ha hka => ⟨hboth a ha hka, by rw [hlast]; exact (hb a ha hka).2.2.1, by rw [hlast]; exact (hb a ha hka).2.2.2⟩)
  rw [hlast] at hf
  have hq : 1 ≤ q ∧ q ≤ 64 := by
    obtain ⟨g1, _, _, g4⟩ := h.ok m h.mem
    rw [← g4]; exact g1.q
  have t1 := h.tl k hk i
  have t2 := h.tl k hk j
  have t3 := h.tu i
  have t4 := h.tu j
  have r1 := h.rise k hk i
  have r2 := h.rise k hk j
  unfold nearI
  refine decide_eq_true ⟨by omega, by omega, by omega, by omega, by omega, by omega, by omega, by omega, hf.1, hf.2⟩
/-- a moment's look -/
def look (m : Mo) : Lk := ⟨fun i => m.T i, fun i => m.D i, fun i => (Fl.row m.s.l i).isSome⟩
theorem Run.pairs {wt : Int → Int} {q C : Int} {L : List Mo} {n : Nat} {m : Mo} (h : Run wt q C L n m) (hw : ∀ i : Nat, i < 4 → 1 ≤ wt i ∧ wt i ≤ 16) (hn : n ≤ 1000) : PairsOk (L.map look) n (look m) (fun i => wt i) q C := by
  have hc := h.c
  have hq : 1 ≤ q ∧ q ≤ 64 := by
    obtain ⟨g1, _, _, g4⟩ := h.ok m h.mem
    rw [← g4]; exact g1.q
  refine ⟨by simp [h.len], by simp [h.last], hn, fun k hk i hi => ?_, by omega, by omega, fun i j k hk hi hj hb => ?_⟩
  · have hk' : k < L.length := by simpa using hk
    have r1 := h.rise k hk' i
    have t1 := h.tl k hk' i
    have t3 := h.tu i
    have hwi := hw i hi
    simp only [List.getElem_map]
    exact ⟨hi, by show 0 ≤ m.T i - L[k].T i; omega, by show m.T i - L[k].T i < _; omega, by show 0 ≤ wt i ∧ wt i < _; omega⟩
  · have hk' : k < L.length := by simpa using hk
    simp only [List.getElem_map]
    refine Run.near h hw hn hi hj hk' (fun a ha hka => ?_)
    have := hb a (by simpa using ha) hka
    simp only [List.getElem_map] at this
    exact this
end Go.Proofs.Ytgeoebodlcbebaa
