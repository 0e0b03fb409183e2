/-
  Deficit round robin: calls keep a ring valid; moments of a run, fair from each to each later one.
-/
import Derived.Test.YtgeoebodlcbebaaFlowFair2
namespace Fl
set_option linter.unusedVariables false
set_option linter.unusedSimpArgs false
open Ff (E)

/-- rows and items are at most n -/
structure Small (n : Nat) (s : St) : Prop where
  l : s.l.length ≤ n
  its : ∀ r ∈ s.l, r.its.length ≤ n
theorem Small.give {n : Nat} {s : St} (h : Small n s) : Small n s.give := by
  refine ⟨by rw [give_len]; exact h.l, ?_⟩
  cases hl : s.l with
  | nil => rw [give_nil hl]; exact h.its
  | cons r t =>
    obtain ⟨d, hd⟩ := give_shape hl
    rw [hd]
    intro x hx
    rcases List.mem_cons.1 hx with e | e
    · rw [e]; exact h.its r (by rw [hl]; simp)
    · exact h.its x (by rw [hl]; simp [e])
theorem Small.turn {n : Nat} {s : St} (h : Small n s) : Small n s.turn := by
  cases hl : s.l with
  | nil => unfold St.turn; rw [hl]; exact h
  | cons r t =>
    rw [turn_eq hl]
    have h1 := h.l
    have h2 := h.its
    rw [hl] at h1 h2
    exact ⟨by simpa using h1, fun x hx => h2 x (by simp at hx ⊢; rcases hx with e | e; exact Or.inr e; exact Or.inl e)⟩
theorem Small.pick {n : Nat} {s : St} (h : Small n s) (hG : Good s) (hL : Lim 64 s) : Small n s.pick :=
  pick_keeps (P := Small n) (fun _ _ h => h.give) (fun _ _ _ _ h => h.turn) hG hL h
theorem put_length (l : List Rw) (x : Rw) : (put l x).length ≤ l.length := by
  unfold put
  exact List.length_filterMap_le _ _
theorem Small.with {n : Nat} {s : St} {x : Rw} (h : Small n s) (hx : x.its.length ≤ n) : Small n (s.with x) :=
  ⟨Nat.le_trans (put_length s.l x) h.l, fun r hr => by
    rcases put_sub s.l x r hr with e | e
    · exact h.its r e
    · rw [e]; exact hx⟩
theorem Small.mono {n m : Nat} {s : St} (h : Small n s) (hm : n ≤ m) : Small m s := ⟨Nat.le_trans h.l hm, fun r hr => Nat.le_trans (h.its r hr) hm⟩
theorem Lim.mono {C D : Int} {s : St} (h : Lim C s) (hD : C ≤ D) : Lim D s :=
  ⟨fun r hr e he => Int.le_trans (h.cost r hr e he) hD, fun r hr => Int.le_trans (h.rest r hr) hD, fun r hr => by have := h.top r hr; omega⟩

/-! ### Push -/
theorem pushE_zero {l : List E} {id c : Int} (h : Ff.pushE l id c = 0) : Ff.bad id c = false ∧ Ff.has l id = false ∧ Ff.pushL l id c = l ++ [(id, c)] := by
  unfold Ff.pushE at h
  cases hb : Ff.bad id c with
  | true => rw [hb] at h; simp at h
  | false =>
    cases hh : Ff.has l id with
    | true => rw [hb, hh] at h; simp at h
    | false => exact ⟨rfl, rfl, by unfold Ff.pushL; rw [hb, hh]; rfl⟩
theorem pushL_cost {l : List E} {id c C : Int} (hl : ∀ e ∈ l, e.2 ≤ C) (hc : Ff.pushE l id c = 0 → c ≤ C) : ∀ e ∈ Ff.pushL l id c, e.2 ≤ C := by
  intro e he
  unfold Ff.pushL at he
  cases hb : Ff.bad id c with
  | true => rw [hb] at he; exact hl e (by simpa using he)
  | false =>
    cases hh : Ff.has l id with
    | true => rw [hb, hh] at he; exact hl e (by simpa using he)
    | false =>
      rw [hb, hh] at he
      have h0 : Ff.pushE l id c = 0 := by unfold Ff.pushE; rw [hb, hh]; rfl
      rcases List.mem_append.1 (show e ∈ l ++ [(id, c)] by simpa using he) with h1 | h1
      · exact hl e h1
      · obtain rfl : e = (id, c) := by simpa using h1
        exact hc h0
theorem good_pushL {l : List E} (h : Ff.Good l) {id c : Int} (hid : id ≤ 9223372036854775807) : Ff.Good (Ff.pushL l id c) := by
  unfold Ff.pushL
  cases hb : Ff.bad id c with
  | true => exact h
  | false =>
    cases hh : Ff.has l id with
    | true => exact h
    | false =>
      obtain ⟨b1, b2, b3⟩ := Ff.bad_no hb
      exact h.push b1 hid b2 b3 (Ff.has_no.1 hh)
theorem push_new {s : St} {f w id c : Int} (h1 : ¬ (f < 0 ∨ w < 1 ∨ w > 16)) (hr : row s.l f = none) : s.push f w id c = (if Ff.pushE [] id c = 0 then { s with l := s.l ++ [⟨f, w, 0, [(id, c)]⟩] } else s) ∧ s.pushE f w id c = Ff.pushE [] id c := by
  unfold St.push St.pushE
  rw [if_neg h1, if_neg h1, hr]
  exact ⟨rfl, rfl⟩
theorem push_there {s : St} {f w id c : Int} {r : Rw} (h1 : ¬ (f < 0 ∨ w < 1 ∨ w > 16)) (hr : row s.l f = some r) (hw : r.w = w) : s.push f w id c = { s with l := put s.l { r with its := Ff.pushL r.its id c } } ∧ s.pushE f w id c = Ff.pushE r.its id c := by
  unfold St.push St.pushE
  rw [if_neg h1, if_neg h1, hr]
  simp only [if_pos hw, and_self]
theorem push_bad {s : St} {f w id c : Int} (h : (f < 0 ∨ w < 1 ∨ w > 16) ∨ ∃ r, row s.l f = some r ∧ r.w ≠ w) : s.push f w id c = s ∧ s.pushE f w id c = 1 := by
  unfold St.push St.pushE
  by_cases h1 : f < 0 ∨ w < 1 ∨ w > 16
  · rw [if_pos h1, if_pos h1]; exact ⟨rfl, rfl⟩
  · rw [if_neg h1, if_neg h1]
    rcases h with h | ⟨r, hr, hw⟩
    · exact absurd h h1
    · rw [hr]; simp only [if_neg hw, and_self]
theorem push_cases (s : St) (f w id c : Int) : ((f < 0 ∨ w < 1 ∨ w > 16) ∨ ∃ r, row s.l f = some r ∧ r.w ≠ w) ∨ (¬ (f < 0 ∨ w < 1 ∨ w > 16) ∧ (row s.l f = none ∨ ∃ r, row s.l f = some r ∧ r.w = w)) := by
  by_cases h1 : f < 0 ∨ w < 1 ∨ w > 16
  · exact Or.inl (Or.inl h1)
  · cases hr : row s.l f with
    | none => exact Or.inr ⟨h1, Or.inl rfl⟩
    | some r =>
      by_cases hw : r.w = w
      · exact Or.inr ⟨h1, Or.inr ⟨r, rfl, hw⟩⟩
      · exact Or.inl (Or.inr ⟨r, rfl, hw⟩)
theorem put_its {s : St} {r : Rw} {its : List E} (hi : its ≠ []) : ({ s with l := put s.l { r with its := its } } : St) = s.with { r with its := its } := (with_put (x := { r with its := its }) hi).symm
theorem Good.push {s : St} (h : Good s) {f w id c : Int} (hf : f ≤ 9223372036854775807) (hid : id ≤ 9223372036854775807) : Good (s.push f w id c) := by
  rcases push_cases s f w id c with h1 | ⟨h1, hr | ⟨r, hr, hw⟩⟩
  · rw [(push_bad h1).1]; exact h
  · rw [(push_new h1 hr).1]
    split
    · rename_i h0
      obtain ⟨b, _, hl⟩ := pushE_zero h0
      refine ⟨h.q, ?_, fun x hx => ?_, fun h0 => by simp at h0⟩
      · rw [List.map_append, List.nodup_append]
        refine ⟨h.nd, by simp, fun u hu v hv => ?_⟩
        obtain ⟨x, hx, rfl⟩ := List.mem_map.1 hu
        simp at hv
        subst hv
        exact row_none.1 hr x hx
      · rcases List.mem_append.1 hx with e | e
        · exact h.ok x e
        · obtain rfl : x = ⟨f, w, 0, [(id, c)]⟩ := by simpa using e
          have hg := good_pushL (c := c) Ff.good_nil hid
          rw [hl] at hg
          exact ⟨⟨by show 0 ≤ f; omega, hf⟩, ⟨by show 1 ≤ w; omega, by show w ≤ 16; omega⟩, Int.le_refl 0, by simp, by simpa using hg⟩
    · exact h
  · have hm := (row_mem hr).1
    have ho := h.ok r hm
    rw [(push_there h1 hr hw).1, put_its (pushL_ne ho.ne id c)]
    exact h.with ⟨r, hm, rfl⟩ (fun hi => ⟨ho.f, ho.w, ho.d, hi, good_pushL ho.its hid⟩)
theorem Lim.push {C : Int} {s : St} (h : Lim C s) (hG : Good s) (hC : 0 ≤ C) {f w id c : Int} (hc : s.pushE f w id c = 0 → c ≤ C) : Lim C (s.push f w id c) := by
  rcases push_cases s f w id c with h1 | ⟨h1, hr | ⟨r, hr, hw⟩⟩
  · rw [(push_bad h1).1]; exact h
  · obtain ⟨e1, e2⟩ := push_new (id := id) (c := c) h1 hr
    rw [e1]
    rw [e2] at hc
    split
    · rename_i h0
      have hc := hc h0
      refine ⟨fun x hx => ?_, fun x hx => ?_, fun x hx => ?_⟩
      · rcases List.mem_append.1 hx with e | e
        · exact h.cost x e
        · obtain rfl : x = ⟨f, w, 0, [(id, c)]⟩ := by simpa using e
          intro e he
          obtain rfl : e = (id, c) := by simpa using he
          exact hc
      · cases hl : s.l with
        | nil => simp [hl] at hx
        | cons y t =>
          simp [hl] at hx
          rcases hx with e | e
          · exact h.rest x (by rw [hl]; exact e)
          · rw [e]; exact hC
      · cases hl : s.l with
        | nil =>
          simp [hl] at hx
          subst hx
          rw [hG.gv hl]
          simpa using hC
        | cons y t =>
          simp [hl] at hx
          subst hx
          exact h.top y (by rw [hl]; rfl)
    · exact h
  · obtain ⟨e1, e2⟩ := push_there (id := id) (c := c) h1 hr hw
    have hm := (row_mem hr).1
    have ho := hG.ok r hm
    rw [e1, put_its (pushL_ne ho.ne id c)]
    rw [e2] at hc
    exact h.with hG hm rfl rfl (pushL_cost (h.cost r hm) hc) (Int.le_refl _)
theorem length_pushL' (l : List E) (id c : Int) : (Ff.pushL l id c).length ≤ l.length + 1 := by
  unfold Ff.pushL
  split
  · omega
  · split
    · omega
    · simp
theorem Small.push {n : Nat} {s : St} (h : Small n s) (hG : Good s) (f w id c : Int) : Small (n + 1) (s.push f w id c) := by
  rcases push_cases s f w id c with h1 | ⟨h1, hr | ⟨r, hr, hw⟩⟩
  · rw [(push_bad h1).1]; exact h.mono (Nat.le_succ n)
  · rw [(push_new h1 hr).1]
    split
    · refine ⟨by have := h.l; simp; omega, fun x hx => ?_⟩
      rcases List.mem_append.1 hx with e | e
      · have := h.its x e; omega
      · obtain rfl : x = ⟨f, w, 0, [(id, c)]⟩ := by simpa using e
        simp
    · exact h.mono (Nat.le_succ n)
  · have hm := (row_mem hr).1
    rw [(push_there h1 hr hw).1, put_its (pushL_ne (hG.ok r hm).ne id c)]
    refine (h.mono (Nat.le_succ n)).with ?_
    have := length_pushL' r.its id c
    have := h.its r hm
    show (Ff.pushL r.its id c).length ≤ n + 1
    omega

/-! ### Take, Drop -/
theorem Good.take {s : St} (h : Good s) (hL : Lim 64 s) : Good s.take := by
  cases hv : s.takeV with
  | none => rw [(take_none h hL hv).2]; exact h
  | some v =>
    obtain ⟨f, x⟩ := v
    obtain ⟨r, t, u, hl, hf, hi, ht⟩ := take_some hv
    obtain ⟨hp, hpL, hre⟩ := h.pick hL
    have hm : r ∈ s.pick.l := by rw [hl]; simp
    have ho := hp.ok r hm
    rw [ht]
    refine hp.with ⟨r, hm, rfl⟩ (fun hu => ⟨ho.f, ho.w, ?_, hu, ho.its.sub (by rw [hi]; exact List.sublist_cons_self x u)⟩)
    simp [St.ready, hl, Rw.fits, hi] at hre
    show 0 ≤ r.d - x.2
    omega
theorem Lim.take {C : Int} {s : St} (h : Lim C s) (hG : Good s) (hL : Lim 64 s) : Lim C s.take := by
  cases hv : s.takeV with
  | none => rw [(take_none hG hL hv).2]; exact h
  | some v =>
    obtain ⟨f, x⟩ := v
    obtain ⟨r, t, u, hl, hf, hi, ht⟩ := take_some hv
    obtain ⟨hp, hpL, hre⟩ := hG.pick hL
    have hpC := h.pick hG hL
    have hm : r ∈ s.pick.l := by rw [hl]; simp
    have hx := ((hp.ok r hm).its.co x (by rw [hi]; simp)).1
    rw [ht]
    exact hpC.with hp hm rfl rfl (fun e he => hpC.cost r hm e (by rw [hi]; exact List.mem_cons_of_mem _ he)) (by show r.d - x.2 ≤ r.d; omega)
theorem Small.take {n : Nat} {s : St} (h : Small n s) (hG : Good s) (hL : Lim 64 s) : Small n s.take := by
  cases hv : s.takeV with
  | none => rw [(take_none hG hL hv).2]; exact h
  | some v =>
    obtain ⟨f, x⟩ := v
    obtain ⟨r, t, u, hl, hf, hi, ht⟩ := take_some hv
    rw [ht]
    refine (h.pick hG hL).with ?_
    have := (h.pick hG hL).its r (by rw [hl]; simp)
    rw [hi] at this
    simp at this
    show u.length ≤ n
    omega
theorem drop_no {s : St} {f id : Int} (h : s.dropB f id = false) : s.drop f id = s := by
  unfold St.dropB at h
  unfold St.drop
  split
  · rfl
  · rename_i r hr
    rw [hr] at h
    simp only at h
    rw [h]; rfl
theorem drop_yes {s : St} {f id : Int} (h : s.dropB f id = true) : ∃ r, row s.l f = some r ∧ Ff.has r.its id = true ∧ s.drop f id = s.with { r with its := Ff.drop r.its id } := by
  unfold St.dropB at h
  cases hr : row s.l f with
  | none => rw [hr] at h; cases h
  | some r =>
    rw [hr] at h
    simp only at h
    refine ⟨r, rfl, h, ?_⟩
    unfold St.drop
    rw [hr]
    simp only [h, if_true]
theorem Good.drop {s : St} (h : Good s) (f id : Int) : Good (s.drop f id) := by
  cases hb : s.dropB f id with
  | false => rw [drop_no hb]; exact h
  | true =>
    obtain ⟨r, hr, _, e⟩ := drop_yes hb
    have hm := (row_mem hr).1
    have ho := h.ok r hm
    rw [e]
    exact h.with ⟨r, hm, rfl⟩ (fun hi => ⟨ho.f, ho.w, ho.d, hi, ho.its.drop id⟩)
theorem Lim.drop {C : Int} {s : St} (h : Lim C s) (hG : Good s) (f id : Int) : Lim C (s.drop f id) := by
  cases hb : s.dropB f id with
  | false => rw [drop_no hb]; exact h
  | true =>
    obtain ⟨r, hr, _, e⟩ := drop_yes hb
    have hm := (row_mem hr).1
    rw [e]
    exact h.with hG hm rfl rfl (fun e he => h.cost r hm e (List.mem_filter.1 he).1) (Int.le_refl _)
theorem Small.drop {n : Nat} {s : St} (h : Small n s) (f id : Int) : Small n (s.drop f id) := by
  cases hb : s.dropB f id with
  | false => rw [drop_no hb]; exact h
  | true =>
    obtain ⟨r, hr, _, e⟩ := drop_yes hb
    rw [e]
    refine h.with ?_
    have := Ff.drop_length r.its id
    have := h.its r (row_mem hr).1
    show (Ff.drop r.its id).length ≤ n
    omega

/-! ### moments -/
/-- a moment: the ring, what was taken from each flow, how often something was dropped from it -/
structure Mo where
  s : St
  T : Int → Int
  D : Int → Int
def Mo.next (wt : Int → Int) (m : Mo) (kd f id c : Int) : Mo :=
  if kd = 0 then { m with s := m.s.push f (wt f) id c }
  else if kd = 1 then { m with s := m.s.take, T := match m.s.takeV with | none => m.T | some (g, x) => fun k => if k = g then m.T k + x.2 else m.T k }
  else if kd = 2 then { m with s := m.s.pick }
  else { m with s := m.s.drop f id, D := if m.s.dropB f id then fun k => if k = f then m.D k + 1 else m.D k else m.D }
/-- the greatest cost so far -/
def costN (wt : Int → Int) (C : Int) (m : Mo) (kd f id c : Int) : Int := if kd = 0 ∧ m.s.pushE f (wt f) id c = 0 then max C c else C
/-- what is taken between two moments follows from the rings -/
def Next (a b : Mo) : Prop := ∀ i j wi wj, i ≠ j → Both i j wi wj a.s → Both i j wi wj b.s → b.D i = a.D i → b.D j = a.D j → (b.T i - a.T i) * wj - (b.T j - a.T j) * wi = Phi i j wi wj b.s - Phi i j wi wj a.s
theorem next_next {wt : Int → Int} {m : Mo} (hG : Good m.s) (hL : Lim 64 m.s) (kd f id c : Int) : Next m (m.next wt kd f id c) := by
  intro i j wi wj hij ha hb hi hj
  unfold Mo.next at *
  by_cases h0 : kd = 0
  · rw [if_pos h0] at *
    have := Phi_push (wi := wi) (wj := wj) hij hG ha f (wt f) id c
    simp only [this, Int.sub_self, Int.zero_mul]
  · rw [if_neg h0] at *
    by_cases h1 : kd = 1
    · rw [if_pos h1] at *
      simp only at hb ⊢
      cases hv : m.s.takeV with
      | none =>
        rw [(take_none hG hL hv).2]
        simp only [Int.sub_self, Int.zero_mul]
      | some v =>
        obtain ⟨g, x⟩ := v
        have := Phi_take hij hG hL ha hb hv
        rw [this]
        simp only
        by_cases e1 : i = g
        · have e2 : ¬ j = g := fun e => hij (e1.trans e.symm)
          have e3 : ¬ g = j := fun e => e2 e.symm
          rw [if_pos e1, if_neg e2, if_pos e1.symm, if_neg e3]
          have : m.T i + x.2 - m.T i = x.2 := by omega
          rw [this]
          simp only [Int.sub_self, Int.zero_mul]
          omega
        · have e1' : ¬ g = i := fun e => e1 e.symm
          rw [if_neg e1, if_neg e1']
          by_cases e2 : j = g
          · rw [if_pos e2, if_pos e2.symm]
            have : m.T j + x.2 - m.T j = x.2 := by omega
            rw [this]
            simp only [Int.sub_self, Int.zero_mul]
            omega
          · have e2' : ¬ g = j := fun e => e2 e.symm
            rw [if_neg e2, if_neg e2']
            simp only [Int.sub_self, Int.zero_mul]
            omega
    · rw [if_neg h1] at *
      by_cases h2 : kd = 2
      · rw [if_pos h2] at *
        have := (Phi_pick hij hG hL ha).2
        simp only [this, Int.sub_self, Int.zero_mul]
      · rw [if_neg h2] at *
        simp only at hi hj ⊢
        have hd : m.s.dropB f id = true → f ≠ i ∧ f ≠ j := fun hdb => by
          rw [if_pos hdb] at hi hj
          refine ⟨fun e => ?_, fun e => ?_⟩
          · rw [if_pos e.symm] at hi; omega
          · rw [if_pos e.symm] at hj; omega
        have := Phi_drop (wi := wi) (wj := wj) hij (s := m.s) f id hd
        simp only [this, Int.sub_self, Int.zero_mul]
/-- from moment k to the last -/
theorem sum_from {L : List Mo} (hN : ∀ m (h : m + 1 < L.length), Next L[m] L[m + 1]) {i j wi wj : Int} (hij : i ≠ j) (z : Mo) (n : Nat) (hn : n + 1 = L.length) (hz : ∀ h : n < L.length, L[n] = z) :
    ∀ (d k : Nat) (hk : k < L.length), k + d = n → (∀ m (h : m < L.length), k ≤ m → Both i j wi wj L[m].s ∧ L[m].D i = z.D i ∧ L[m].D j = z.D j) →
      (z.T i - L[k].T i) * wj - (z.T j - L[k].T j) * wi = Phi i j wi wj z.s - Phi i j wi wj L[k].s
  | 0, k, hk, he, hb => by
    have : k = n := by omega
    subst this
    rw [hz hk]
    simp only [Int.sub_self, Int.zero_mul]
  | d + 1, k, hk, he, hb => by
    have hk2 : k + 1 < L.length := by omega
    have ih := sum_from hN hij z n hn hz d (k + 1) hk2 (by omega) (fun m h hm => hb m h (by omega))
    obtain ⟨b1, d1, d2⟩ := hb k hk (Nat.le_refl k)
    obtain ⟨b2, d3, d4⟩ := hb (k + 1) hk2 (Nat.le_succ k)
    have h1 := hN k hk2 i j wi wj hij b1 b2 (d3.trans d1.symm) (d4.trans d2.symm)
    have e1 : (z.T i - L[k].T i) * wj = (z.T i - L[k + 1].T i) * wj + (L[k + 1].T i - L[k].T i) * wj := by rw [← Int.add_mul]; congr 1; omega
    have e2 : (z.T j - L[k].T j) * wi = (z.T j - L[k + 1].T j) * wi + (L[k + 1].T j - L[k].T j) * wi := by rw [← Int.add_mul]; congr 1; omega
    omega
/-- fair from moment k to the last -/
theorem fair_from {L : List Mo} (hN : ∀ m (h : m + 1 < L.length), Next L[m] L[m + 1]) {i j wi wj C : Int} (hij : i ≠ j) (hwi : 0 ≤ wi) (hwj : 0 ≤ wj) (hC : 0 ≤ C) (hG : ∀ m ∈ L, Good m.s ∧ Lim C m.s) {q : Int} (hq : ∀ m ∈ L, m.s.q = q) (n k : Nat) (hn : n + 1 = L.length) (hk : k < L.length)
    (hb : ∀ m (h : m < L.length), k ≤ m → Both i j wi wj L[m].s ∧ L[m].D i = (L[n]'(by omega)).D i ∧ L[m].D j = (L[n]'(by omega)).D j) :
    ((L[n]'(by omega)).T i - L[k].T i) * wj ≤ ((L[n]'(by omega)).T j - L[k].T j) * wi + (q * wi * wj + C * wj + C * wi) ∧ ((L[n]'(by omega)).T j - L[k].T j) * wi ≤ ((L[n]'(by omega)).T i - L[k].T i) * wj + (q * wi * wj + C * wj + C * wi) := by
  have hnl : n < L.length := by omega
  have h1 := sum_from hN hij L[n] n hn (fun _ => rfl) (n - k) k hk (by omega) hb
  obtain ⟨g1, l1⟩ := hG L[k] (List.getElem_mem hk)
  obtain ⟨g2, l2⟩ := hG L[n] (List.getElem_mem hnl)
  have b1 := Phi_bound hij hwi hwj hC g1 l1 (hb k hk (Nat.le_refl k)).1
  have b2 := Phi_bound hij hwi hwj hC g2 l2 (hb n hnl (by omega)).1
  rw [hq _ (List.getElem_mem hk)] at b1
  rw [hq _ (List.getElem_mem hnl)] at b2
  omega
end Fl
