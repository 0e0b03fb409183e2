/-
  Deficit round robin over lists: rows, the ring, its calls; what stays valid.
-/
import Derived.Test.YtgeoebodlcbebaaFifoMath
namespace Fl
set_option linter.unusedVariables false
set_option linter.unusedSimpArgs false
open Ff (E)
/-- a flow: its number, weight, deficit, items -/
structure Rw where
  f : Int
  w : Int
  d : Int
  its : List E
/-- a ring: its quantum, its flows in order, whether the first was given -/
structure St where
  q : Int
  l : List Rw
  g : Bool
def row (l : List Rw) (f : Int) : Option Rw := l.find? (fun r => r.f == f)
/-- a row in the place of the one that is there; without items it is gone -/
def put (l : List Rw) (x : Rw) : List Rw := l.filterMap (fun r => if r.f = x.f then (if x.its = [] then none else some x) else some r)
def St.give (s : St) : St :=
  match s.l with
  | [] => s
  | r :: t => if s.g then s else { s with l := { r with d := r.d + s.q * r.w } :: t, g := true }
/-- the first item's cost is within the deficit -/
def Rw.fits (r : Rw) : Bool :=
  match r.its with
  | [] => true
  | x :: _ => decide (x.2 ≤ r.d)
def St.ready (s : St) : Bool :=
  match s.l with
  | [] => true
  | r :: _ => s.g && r.fits
def St.turn (s : St) : St :=
  match s.l with
  | [] => s
  | r :: t => { s with l := t ++ [r], g := false }
def pickN : Nat → St → St
  | 0, s => s
  | n + 1, s => if s.give.ready then s.give else pickN n s.give.turn
def gap (l : List Rw) : Nat := (l.map (fun r => (64 - r.d).toNat)).sum
def meas (s : St) : Nat := 2 * gap s.l + (if s.g then 1 else 0)
def St.pick (s : St) : St := pickN (meas s + 1) s
/-- the ring with a row put; the visit ends with the first row -/
def St.with (s : St) (x : Rw) : St := { s with l := put s.l x, g := s.g && !(x.its.isEmpty && (s.l.head?.map (·.f) == some x.f)) }
/-- Push: what it tells, what it leaves -/
def St.pushE (s : St) (f w id c : Int) : Int :=
  if f < 0 ∨ w < 1 ∨ w > 16 then 1
  else match row s.l f with
    | none => Ff.pushE [] id c
    | some r => if r.w = w then Ff.pushE r.its id c else 1
def St.push (s : St) (f w id c : Int) : St :=
  if f < 0 ∨ w < 1 ∨ w > 16 then s
  else match row s.l f with
    | none => if Ff.pushE [] id c = 0 then { s with l := s.l ++ [⟨f, w, 0, [(id, c)]⟩] } else s
    | some r => if r.w = w then { s with l := put s.l { r with its := Ff.pushL r.its id c } } else s
/-- Take: what it tells, what it leaves -/
def St.takeV (s : St) : Option (Int × E) :=
  match s.pick.l with
  | [] => none
  | r :: _ => r.its.head?.map (fun x => (r.f, x))
def St.take (s : St) : St :=
  match s.pick.l with
  | [] => s.pick
  | r :: _ =>
    match r.its with
    | [] => s.pick
    | x :: t => s.pick.with { r with d := r.d - x.2, its := t }
/-- Drop: what it tells, what it leaves -/
def St.dropB (s : St) (f id : Int) : Bool :=
  match row s.l f with
  | none => false
  | some r => Ff.has r.its id
def St.drop (s : St) (f id : Int) : St :=
  match row s.l f with
  | none => s
  | some r => if Ff.has r.its id then s.with { r with its := Ff.drop r.its id } else s

/-- a row that may stand in a ring -/
structure RowOk (r : Rw) : Prop where
  f : 0 ≤ r.f ∧ r.f ≤ 9223372036854775807
  w : 1 ≤ r.w ∧ r.w ≤ 16
  d : 0 ≤ r.d
  ne : r.its ≠ []
  its : Ff.Good r.its
/-- deficits and costs within C -/
structure Lim (C : Int) (s : St) : Prop where
  cost : ∀ r ∈ s.l, ∀ e ∈ r.its, e.2 ≤ C
  rest : ∀ r ∈ s.l.tail, r.d ≤ C
  top : ∀ r, s.l.head? = some r → r.d ≤ C + (if s.g then s.q * r.w else 0)
structure Good (s : St) : Prop where
  q : 1 ≤ s.q ∧ s.q ≤ 64
  nd : (s.l.map (·.f)).Nodup
  ok : ∀ r ∈ s.l, RowOk r
  gv : s.l = [] → s.g = false

theorem row_mem {l : List Rw} {f : Int} {r : Rw} (h : row l f = some r) : r ∈ l ∧ r.f = f := by
  unfold row at h
  exact ⟨List.mem_of_find?_eq_some h, by simpa using List.find?_some h⟩
theorem row_none {l : List Rw} {f : Int} : row l f = none ↔ ∀ r ∈ l, r.f ≠ f := by
  unfold row
  rw [List.find?_eq_none]
  simp
theorem row_split {l : List Rw} {f : Int} {r : Rw} (h : row l f = some r) : ∃ a b, l = a ++ r :: b ∧ r.f = f ∧ ∀ x ∈ a, x.f ≠ f := by
  unfold row at h
  obtain ⟨h1, a, b, h2, h3⟩ := List.find?_eq_some_iff_append.1 h
  exact ⟨a, b, h2, by simpa using h1, fun x hx => by simpa using h3 x hx⟩
theorem row_of_mem {l : List Rw} (hn : (l.map (·.f)).Nodup) {r : Rw} (hr : r ∈ l) : row l r.f = some r := by
  cases h : row l r.f with
  | none => exact absurd rfl (row_none.1 h r hr)
  | some x =>
    obtain ⟨h1, h2⟩ := row_mem h
    rw [Ff.inj_of_nd hn h1 hr h2]
theorem nd_split {a b : List Rw} {r : Rw} (h : ((a ++ r :: b).map (·.f)).Nodup) : (∀ x ∈ a, x.f ≠ r.f) ∧ ∀ x ∈ b, x.f ≠ r.f := by
  rw [List.map_append, List.map_cons, List.nodup_append] at h
  obtain ⟨_, h2, h3⟩ := h
  rw [List.nodup_cons] at h2
  exact ⟨fun x hx he => h3 x.f (List.mem_map.2 ⟨x, hx, rfl⟩) r.f List.mem_cons_self he, fun x hx he => h2.1 (List.mem_map.2 ⟨x, hx, he⟩)⟩
theorem put_other {l : List Rw} {x : Rw} (h : ∀ r ∈ l, r.f ≠ x.f) : put l x = l := by
  unfold put
  induction l with
  | nil => rfl
  | cons r t ih =>
    rw [List.filterMap_cons, if_neg (h r (by simp))]
    rw [ih (fun y hy => h y (by simp [hy]))]
/-- .. in its place -/
theorem put_split {a b : List Rw} {r x : Rw} (h : ((a ++ r :: b).map (·.f)).Nodup) (hf : r.f = x.f) : put (a ++ r :: b) x = a ++ (if x.its = [] then [] else [x]) ++ b := by
  obtain ⟨h1, h2⟩ := nd_split h
  have e : put (a ++ r :: b) x = put a x ++ ((if x.its = [] then [] else [x]) ++ put b x) := by
    unfold put
    rw [List.filterMap_append, List.filterMap_cons, if_pos hf]
    by_cases hi : x.its = [] <;> simp [hi]
  rw [e, put_other (fun y hy => by rw [← hf]; exact h1 y hy), put_other (fun y hy => by rw [← hf]; exact h2 y hy), List.append_assoc]
theorem put_set {a b : List Rw} {r x : Rw} (h : ((a ++ r :: b).map (·.f)).Nodup) (hf : r.f = x.f) (hi : x.its ≠ []) : put (a ++ r :: b) x = a ++ x :: b := by
  rw [put_split h hf, if_neg hi]; simp
theorem put_gone {a b : List Rw} {r x : Rw} (h : ((a ++ r :: b).map (·.f)).Nodup) (hf : r.f = x.f) (hi : x.its = []) : put (a ++ r :: b) x = a ++ b := by
  rw [put_split h hf, if_pos hi]; simp
theorem put_sub (l : List Rw) (x : Rw) : ∀ r ∈ put l x, r ∈ l ∨ r = x := by
  intro r hr
  unfold put at hr
  obtain ⟨y, hy, he⟩ := List.mem_filterMap.1 hr
  by_cases h : y.f = x.f
  · rw [if_pos h] at he
    by_cases h2 : x.its = []
    · rw [if_pos h2] at he; cases he
    · rw [if_neg h2] at he; cases he; exact Or.inr rfl
  · rw [if_neg h] at he; cases he; exact Or.inl hy

/-! ### give, turn, pick -/
theorem give_nil {s : St} (h : s.l = []) : s.give = s := by unfold St.give; rw [h]
theorem give_yes {s : St} (h : s.g = true) : s.give = s := by
  unfold St.give
  split
  · rfl
  · rw [h]; rfl
theorem give_no {s : St} {r : Rw} {t : List Rw} (hl : s.l = r :: t) (h : s.g = false) : s.give = { s with l := { r with d := r.d + s.q * r.w } :: t, g := true } := by
  unfold St.give
  rw [hl]
  simp [h]
theorem give_g {s : St} (h : s.l ≠ []) : s.give.g = true := by
  cases hl : s.l with
  | nil => exact absurd hl h
  | cons r t =>
    cases hg : s.g with
    | true => rw [give_yes hg, hg]
    | false => rw [give_no hl hg]
theorem give_q (s : St) : s.give.q = s.q := by
  unfold St.give
  split
  · rfl
  · split <;> rfl
theorem give_fs (s : St) : s.give.l.map (·.f) = s.l.map (·.f) := by
  unfold St.give
  split
  · rfl
  · rename_i r t h
    split
    · rfl
    · rw [h]; rfl
theorem give_len (s : St) : s.give.l.length = s.l.length := by simpa using congrArg List.length (give_fs s)
theorem Good.give {s : St} (h : Good s) : Good s.give := by
  refine ⟨by rw [give_q]; exact h.q, by rw [give_fs]; exact h.nd, ?_, fun h0 => ?_⟩
  · cases hl : s.l with
    | nil => rw [give_nil hl]; exact h.ok
    | cons r t =>
      cases hg : s.g with
      | true => rw [give_yes hg]; exact h.ok
      | false =>
        rw [give_no hl hg]
        intro x hx
        have hr := h.ok r (by rw [hl]; simp)
        rcases List.mem_cons.1 hx with e | e
        · subst e
          have h1 := Int.mul_nonneg (show 0 ≤ s.q by have := h.q; omega) (show 0 ≤ r.w by have := hr.w; omega)
          exact ⟨hr.f, hr.w, by have := hr.d; show 0 ≤ r.d + s.q * r.w; omega, hr.ne, hr.its⟩
        · exact h.ok x (by rw [hl]; simp [e])
  · have : s.l = [] := List.length_eq_zero_iff.1 (by rw [← give_len, h0]; rfl)
    rw [give_nil this]; exact h.gv this
theorem Lim.give {C : Int} {s : St} (h : Lim C s) : Lim C s.give := by
  cases hl : s.l with
  | nil => rw [give_nil hl]; exact h
  | cons r t =>
    cases hg : s.g with
    | true => rw [give_yes hg]; exact h
    | false =>
      rw [give_no hl hg]
      have h1 := h.cost
      have h2 := h.rest
      have h3 := h.top
      rw [hl] at h1 h2 h3
      rw [hg] at h3
      refine ⟨fun x hx => ?_, h2, fun x hx => ?_⟩
      · rcases List.mem_cons.1 hx with e | e
        · subst e; exact h1 r (by simp)
        · exact h1 x (by simp [e])
      · simp at hx
        subst hx
        have := h3 r rfl
        simp at this ⊢
        omega
theorem turn_eq {s : St} {r : Rw} {t : List Rw} (hl : s.l = r :: t) : s.turn = { s with l := t ++ [r], g := false } := by unfold St.turn; rw [hl]
theorem turn_q (s : St) : s.turn.q = s.q := by unfold St.turn; split <;> rfl
theorem Good.turn {s : St} (h : Good s) : Good s.turn := by
  cases hl : s.l with
  | nil => unfold St.turn; rw [hl]; exact h
  | cons r t =>
    rw [turn_eq hl]
    have hp : (t ++ [r]).Perm s.l := by rw [hl]; exact List.perm_append_singleton r t
    exact ⟨h.q, (hp.map _).nodup_iff.2 h.nd, fun x hx => h.ok x (hp.mem_iff.1 hx), fun h0 => by simp at h0⟩
theorem Lim.turn {C : Int} {s : St} (h : Lim C s) (hok : ∀ r ∈ s.l, r.its ≠ []) (hr : s.ready = false) (hg : s.g = true) : Lim C s.turn := by
  cases hl : s.l with
  | nil => unfold St.turn; rw [hl]; exact h
  | cons r t =>
    rw [turn_eq hl]
    have h1 := h.cost
    have h2 := h.rest
    rw [hl] at h1 h2
    have hd : r.d ≤ C := by
      unfold St.ready at hr
      rw [hl, hg] at hr
      simp [Rw.fits] at hr
      cases hi : r.its with
      | nil => exact absurd hi (hok r (by rw [hl]; simp))
      | cons x u =>
        rw [hi] at hr
        simp at hr
        have := h1 r (by simp) x (by rw [hi]; simp)
        omega
    refine ⟨fun x hx => h1 x (by simp at hx ⊢; rcases hx with e | e; exact Or.inr e; exact Or.inl e), fun x hx => ?_, fun x hx => ?_⟩
    · have hx2 : x ∈ t ++ [r] := List.mem_of_mem_tail hx
      rcases List.mem_append.1 hx2 with e | e
      · exact h2 x (by simpa using e)
      · obtain rfl : x = r := by simpa using e
        exact hd
    · have hx2 : x ∈ t ++ [r] := List.mem_of_head? hx
      have : x.d ≤ C := by
        rcases List.mem_append.1 hx2 with e | e
        · exact h2 x (by simpa using e)
        · obtain rfl : x = r := by simpa using e
          exact hd
      simpa using this
theorem gap_cons (r : Rw) (l : List Rw) : gap (r :: l) = (64 - r.d).toNat + gap l := by simp [gap]
theorem gap_append (a b : List Rw) : gap (a ++ b) = gap a + gap b := by simp [gap]
/-- each turn comes nearer -/
theorem meas_turn {s : St} (h : Good s) (hL : Lim 64 s) (hn : s.l ≠ []) (hr : s.give.ready = false) : meas s.give.turn < meas s := by
  cases hl : s.l with
  | nil => exact absurd hl hn
  | cons r t =>
    have hrok := h.ok r (by rw [hl]; simp)
    have hbig : ∀ d, { r with d := d }.fits = false → d < 64 := fun d hf => by
      cases hi : r.its with
      | nil => exact absurd hi hrok.ne
      | cons x u =>
        simp [Rw.fits, hi] at hf
        have := (hrok.its.co x (by rw [hi]; simp)).2
        omega
    cases hg : s.g with
    | true =>
      rw [give_yes hg, turn_eq hl]
      unfold meas
      simp only [hl, hg]
      rw [gap_append, gap_cons, gap_cons]
      simp [gap]
      omega
    | false =>
      rw [give_no hl hg] at hr ⊢
      rw [turn_eq (r := { r with d := r.d + s.q * r.w }) (t := t) rfl]
      unfold meas
      simp only [hl, hg]
      have hf : { r with d := r.d + s.q * r.w }.fits = false := by simpa [St.ready] using hr
      have h1 := hbig _ hf
      have h2 : 1 ≤ s.q * r.w := Int.le_trans (by decide) (Int.mul_le_mul h.q.1 hrok.w.1 (by decide) (by have := h.q; omega))
      have h3 := hrok.d
      rw [gap_append, gap_cons, gap_cons]
      simp [gap]
      omega
theorem pickN_more : ∀ (n : Nat) (s : St), Good s → Lim 64 s → meas s < n → pickN (n + 1) s = pickN n s
  | 0, _, _, _, h => by omega
  | n + 1, s, hg, hL, h => by
    show (if s.give.ready then s.give else pickN (n + 1) s.give.turn) = (if s.give.ready then s.give else pickN n s.give.turn)
    cases hr : s.give.ready with
    | true => rfl
    | false =>
      simp only [Bool.false_eq_true, if_false]
      by_cases hn : s.l = []
      · rw [give_nil hn] at hr
        simp [St.ready, hn] at hr
      · have hm := meas_turn hg hL hn hr
        have hgg := give_g hn
        exact pickN_more n _ hg.give.turn (hL.give.turn (fun r hr => (hg.give.ok r hr).ne) hr hgg) (by omega)
theorem pickN_eq {s : St} (hg : Good s) (hL : Lim 64 s) : ∀ n, meas s < n → pickN n s = s.pick := by
  intro n
  induction n with
  | zero => intro h; omega
  | succ n ih =>
    intro h
    by_cases h1 : meas s < n
    · rw [pickN_more n s hg hL h1, ih h1]
    · have : n = meas s := by omega
      subst this
      rfl
/-- one round of the loop -/
theorem pick_step {s : St} (hg : Good s) (hL : Lim 64 s) (hr : s.give.ready = false) : s.pick = s.give.turn.pick := by
  have hn : s.l ≠ [] := fun hn => by
    rw [give_nil hn] at hr
    simp [St.ready, hn] at hr
  have hm := meas_turn hg hL hn hr
  have e : s.pick = pickN (meas s) s.give.turn := by
    show (if s.give.ready then s.give else pickN (meas s) s.give.turn) = _
    rw [hr]; rfl
  rw [e]
  exact pickN_eq hg.give.turn (hL.give.turn (fun r hr => (hg.give.ok r hr).ne) hr (give_g hn)) _ hm
theorem pick_done {s : St} (hr : s.give.ready = true) : s.pick = s.give := by
  show (if s.give.ready then s.give else pickN (meas s) s.give.turn) = _
  rw [hr]; rfl
/-- what a step of the loop keeps, the pick keeps -/
theorem pick_ind {P : St → Prop} (hgive : ∀ s, Good s → P s → P s.give) (hturn : ∀ s, Good s → s.g = true → s.ready = false → P s → P s.turn) : ∀ (n : Nat) (s : St), meas s < n → Good s → Lim 64 s → P s → P s.pick ∧ Good s.pick ∧ Lim 64 s.pick ∧ s.pick.ready = true
  | 0, _, h, _, _, _ => by omega
  | n + 1, s, h, hg, hL, hp => by
    cases hr : s.give.ready with
    | true => rw [pick_done hr]; exact ⟨hgive s hg hp, hg.give, hL.give, hr⟩
    | false =>
      have hn : s.l ≠ [] := fun hn => by
        rw [give_nil hn] at hr
        simp [St.ready, hn] at hr
      rw [pick_step hg hL hr]
      have hgg := give_g hn
      exact pick_ind hgive hturn n _ (by have := meas_turn hg hL hn hr; omega) hg.give.turn (hL.give.turn (fun r hr => (hg.give.ok r hr).ne) hr hgg) (hturn _ hg.give hgg hr (hgive s hg hp))
theorem Good.pick {s : St} (hg : Good s) (hL : Lim 64 s) : Good s.pick ∧ Lim 64 s.pick ∧ s.pick.ready = true := (pick_ind (P := fun _ => True) (fun _ _ _ => trivial) (fun _ _ _ _ _ => trivial) _ s (Nat.lt_succ_self _) hg hL trivial).2
theorem pick_keeps {P : St → Prop} (hgive : ∀ s, Good s → P s → P s.give) (hturn : ∀ s, Good s → s.g = true → s.ready = false → P s → P s.turn) {s : St} (hg : Good s) (hL : Lim 64 s) (hp : P s) : P s.pick := (pick_ind hgive hturn _ s (Nat.lt_succ_self _) hg hL hp).1
theorem Lim.pick {C : Int} {s : St} (h : Lim C s) (hg : Good s) (hL : Lim 64 s) : Lim C s.pick :=
  pick_keeps (P := Lim C) (fun _ _ h => h.give) (fun _ hg h1 h2 h => h.turn (fun r hr => (hg.ok r hr).ne) h2 h1) hg hL h
theorem pick_q {s : St} (hg : Good s) (hL : Lim 64 s) : s.pick.q = s.q :=
  pick_keeps (P := fun x => x.q = s.q) (fun x _ h => (give_q x).trans h) (fun x _ _ _ h => (turn_q x).trans h) hg hL rfl
theorem turn_fs (s : St) : (s.turn.l.map (·.f)).Perm (s.l.map (·.f)) := by
  unfold St.turn
  split
  · exact List.Perm.refl _
  · rename_i r t h
    rw [h]
    exact (List.perm_append_singleton r t).map _
theorem pick_fs {s : St} (hg : Good s) (hL : Lim 64 s) : (s.pick.l.map (·.f)).Perm (s.l.map (·.f)) :=
  pick_keeps (P := fun x => (x.l.map (·.f)).Perm (s.l.map (·.f))) (fun x _ h => by rw [give_fs]; exact h) (fun x _ _ _ h => (turn_fs x).trans h) hg hL (List.Perm.refl _)
theorem pick_nil {s : St} (h : s.l = []) : s.pick = s := by
  have hr : s.give.ready = true := by rw [give_nil h]; simp [St.ready, h]
  rw [pick_done hr, give_nil h]
theorem pick_again {s : St} (hg : Good s) (hL : Lim 64 s) : s.pick.pick = s.pick := by
  obtain ⟨h1, h2, h3⟩ := hg.pick hL
  by_cases hn : s.pick.l = []
  · exact pick_nil hn
  · have hgv : s.pick.g = true := by
      cases hl : s.pick.l with
      | nil => exact absurd hl hn
      | cons r t => simp [St.ready, hl] at h3; exact h3.1
    have e := give_yes hgv
    rw [pick_done (by rw [e]; exact h3), e]
end Fl
