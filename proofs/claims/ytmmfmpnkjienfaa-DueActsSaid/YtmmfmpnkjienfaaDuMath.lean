/-
  Timers with kinds as plain lists: a kind and a number as one key; the first of all; what an insertion, a removal and a turn leave in order.
-/
import Derived.Test.YtmmfmpnkjienfaaWhMath
namespace Wh
set_option linter.unusedVariables false

/-! ### keys -/
/-- a kind and a number as one key -/
def key (k i : Int) : Int := k * 1099511627777 + i
/-- which there are -/
def May (k i : Int) : Prop := 1 ≤ k ∧ k ≤ 4 ∧ 0 ≤ i ∧ i ≤ 1099511627776
instance (k i : Int) : Decidable (May k i) := by unfold May; infer_instance
def kd (e : E) : Int := e.1 / 1099511627777
def nm (e : E) : Int := e.1 % 1099511627777
/-- keys of timers, and ticks -/
def Good (l : List E) : Prop := ∀ e ∈ l, 1099511627777 ≤ e.1 ∧ e.1 < 5497558138885 ∧ 0 ≤ e.2 ∧ e.2 < 18446744073709551616
theorem kd_key {k i a : Int} (h : May k i) : kd (key k i, a) = k := by unfold May at h; unfold kd key; simp only; omega
theorem nm_key {k i a : Int} (h : May k i) : nm (key k i, a) = i := by unfold May at h; unfold nm key; simp only; omega
theorem key_good {k i : Int} (h : May k i) : 1099511627777 ≤ key k i ∧ key k i < 5497558138885 := by unfold May at h; unfold key; omega
theorem may_of {l : List E} (h : Good l) {e : E} (he : e ∈ l) : May (kd e) (nm e) := by
  have := h e he
  unfold May kd nm
  omega
theorem key_of (e : E) : key (kd e) (nm e) = e.1 := by unfold key kd nm; omega
theorem key_eq {l : List E} (hg : Good l) {e : E} (he : e ∈ l) {k i : Int} (hm : May k i) : e.1 = key k i ↔ kd e = k ∧ nm e = i := by
  have := hg e he
  unfold May at hm
  unfold kd nm key
  constructor
  · intro h; omega
  · intro h; omega
theorem less_kd (a b : E) : less a b ↔ a.2 < b.2 ∨ (a.2 = b.2 ∧ (kd a < kd b ∨ (kd a = kd b ∧ nm a < nm b))) := by
  unfold less kd nm
  omega
theorem Good.filter {l : List E} (h : Good l) (p : E → Bool) : Good (l.filter p) := fun e he => h e (List.mem_filter.1 he).1
theorem Good.without {l : List E} (h : Good l) (id : Int) : Good (without l id) := h.filter _
theorem Good.snoc {l : List E} (h : Good l) {k i a : Int} (hm : May k i) (ha : 0 ≤ a ∧ a < 18446744073709551616) : Good (l ++ [(key k i, a)]) := by
  intro e he
  rcases List.mem_append.1 he with he | he
  · exact h e he
  · simp at he
    subst he
    have := key_good hm
    exact ⟨this.1, this.2, ha.1, ha.2⟩
theorem Good.perm {l m : List E} (h : Good l) (p : l.Perm m) : Good m := fun e he => h e (p.mem_iff.2 he)

/-! ### what does not depend on the order of a list -/
theorem sortT_eq {a b : List E} (h : a.Perm b) (hb : b.Nodup) : sortT a = sortT b := sortT_is (sortT_sorted (h.nodup_iff.2 hb)) ((sortT_perm a).trans h) hb
theorem turned_eq {a b : List E} (h : a.Perm b) (hb : b.Nodup) (tm : Int) : turned a tm = turned b tm := sortT_eq (h.filter _) (hb.filter _)
theorem without_perm {a b : List E} (h : a.Perm b) (id : Int) : (without a id).Perm (without b id) := h.filter _
theorem nextR_eq {a b : List E} (h : a.Perm b) : nextR a = nextR b := by
  cases hb : nextR b with
  | none =>
    cases b with
    | nil => rw [List.Perm.eq_nil h]; rfl
    | cons x r => cases hb
  | some m =>
    obtain ⟨⟨e, he, h1⟩, h2⟩ := nextR_is hb
    exact nextR_of ⟨e, h.mem_iff.2 he, h1⟩ (fun x hx => h2 x (h.mem_iff.1 hx))

/-! ### the first of all -/
def firstOf (l : List E) : Option E := (sortT l).head?
theorem firstOf_none {l : List E} (h : firstOf l = none) : l = [] := by
  unfold firstOf at h
  rw [List.head?_eq_none_iff] at h
  have := (sortT_perm l).length_eq
  rw [h] at this
  exact List.length_eq_zero_iff.1 this.symm
theorem firstOf_nil : firstOf [] = none := rfl
theorem firstOf_is {l : List E} (hn : l.Nodup) {e : E} (h : firstOf l = some e) : e ∈ l ∧ ∀ x ∈ l, ¬ less x e := by
  unfold firstOf at h
  obtain ⟨t, ht⟩ : ∃ t, sortT l = e :: t := by
    cases hs : sortT l with
    | nil => rw [hs] at h; cases h
    | cons y t => rw [hs] at h; simp at h; exact ⟨t, by rw [h]⟩
  have hp := sortT_perm l
  have hs := sortT_sorted hn
  rw [ht] at hp hs
  rw [List.pairwise_cons] at hs
  refine ⟨hp.mem_iff.1 List.mem_cons_self, fun x hx hl => ?_⟩
  rcases List.mem_cons.1 (hp.mem_iff.2 hx) with rfl | hx
  · exact less_irr hl
  · exact less_irr (less_trans hl (hs.1 x hx))
theorem firstOf_of {l : List E} (hn : l.Nodup) {e : E} (h1 : e ∈ l) (h2 : ∀ x ∈ l, ¬ less x e) : firstOf l = some e := by
  cases hf : firstOf l with
  | none => rw [firstOf_none hf] at h1; cases h1
  | some y =>
    obtain ⟨g1, g2⟩ := firstOf_is hn hf
    rcases less_tri e y with h | h | h
    · exact absurd h (g2 e h1)
    · rw [h]
    · exact absurd h (h2 y g1)
theorem firstOf_least {l : List E} (hn : l.Nodup) {k : Nat} (h : Least l k) : ∃ hk : k < l.length, firstOf l = some l[k] := by
  obtain ⟨hk, hl⟩ := h
  refine ⟨hk, firstOf_of hn (List.getElem_mem hk) (fun x hx => ?_)⟩
  obtain ⟨j, hj, rfl⟩ := List.getElem_of_mem hx
  exact hl j hj
theorem nextR_first {l : List E} (hn : l.Nodup) : nextR l = (firstOf l).map (·.2) := by
  cases hf : firstOf l with
  | none => rw [firstOf_none hf]; rfl
  | some e =>
    obtain ⟨h1, h2⟩ := firstOf_is hn hf
    refine nextR_of ⟨e, h1, rfl⟩ (fun x hx => ?_)
    have := h2 x hx
    unfold less at this
    show e.2 ≤ x.2
    omega
theorem firstOf_eq {a b : List E} (h : a.Perm b) (hb : b.Nodup) : firstOf a = firstOf b := by unfold firstOf; rw [sortT_eq h hb]
theorem nodup_due {l : List E} (hn : l.Nodup) (tm : Int) : (due l tm).Nodup := hn.filter _
theorem turned_mem {l : List E} {tm : Int} {e : E} : e ∈ turned l tm ↔ e ∈ l ∧ e.2 ≤ tm := by
  unfold turned due
  rw [(sortT_perm _).mem_iff, List.mem_filter]
  simp
theorem turned_sorted {l : List E} (hn : l.Nodup) (tm : Int) : (turned l tm).Pairwise less := sortT_sorted (nodup_due hn tm)
theorem turned_nodup {l : List E} (hn : l.Nodup) (tm : Int) : (turned l tm).Nodup := (sortT_perm _).nodup_iff.2 (nodup_due hn tm)
theorem turned_length (l : List E) (tm : Int) : (turned l tm).length ≤ l.length := by
  unfold turned
  rw [(sortT_perm _).length_eq]
  exact List.length_filter_le _ _
/-- a sorted list with the elements that are due -/
theorem turned_is {l s : List E} {tm : Int} (hn : l.Nodup) (hs : s.Pairwise less) (h : ∀ e, e ∈ s ↔ e ∈ l ∧ e.2 ≤ tm) : s = turned l tm := by
  refine sortT_is hs ?_ (nodup_due hn tm)
  have hsn : s.Nodup := List.Pairwise.imp (fun {a b} (hl : less a b) (he : a = b) => less_irr (he ▸ hl)) hs
  refine (List.perm_ext_iff_of_nodup hsn (nodup_due hn tm)).2 (fun e => ?_)
  rw [h e]
  unfold due
  rw [List.mem_filter]
  simp
/-- the head of what is due is the first of all -/
theorem turned_head {l t : List E} {tm : Int} {e : E} (hn : l.Nodup) (h : turned l tm = e :: t) : firstOf l = some e ∧ e.2 ≤ tm := by
  have hm := turned_mem.1 (show e ∈ turned l tm by rw [h]; exact List.mem_cons_self)
  refine ⟨firstOf_of hn hm.1 (fun x hx hl => ?_), hm.2⟩
  have hxt : x.2 ≤ tm := by unfold less at hl; omega
  have hs := turned_sorted hn tm
  have hx2 := turned_mem.2 ⟨hx, hxt⟩
  rw [h] at hs hx2
  rw [List.pairwise_cons] at hs
  rcases List.mem_cons.1 hx2 with rfl | hx2
  · exact less_irr hl
  · exact less_irr (less_trans hl (hs.1 x hx2))
theorem turned_empty {l : List E} {tm : Int} (h : turned l tm = []) : ∀ e ∈ l, tm < e.2 := fun e he => by
  rcases Int.lt_or_le tm e.2 with h1 | h1
  · exact h1
  · have := turned_mem.2 ⟨he, h1⟩
    rw [h] at this
    cases this
theorem turned_none {l : List E} {tm : Int} (h : ∀ e ∈ l, tm < e.2) : turned l tm = [] := by
  cases hs : turned l tm with
  | nil => rfl
  | cons y t =>
    have hm := turned_mem.1 (show y ∈ turned l tm by rw [hs]; exact List.mem_cons_self)
    have := h y hm.1
    omega
theorem rest_all {l : List E} {tm : Int} (h : ∀ e ∈ l, tm < e.2) : rest l tm = l := List.filter_eq_self.2 (fun e he => by have := h e he; simp; omega)
theorem turned_first {l : List E} {tm : Int} {e : E} (hn : l.Nodup) (hf : firstOf l = some e) (he : e.2 ≤ tm) : ∃ t, turned l tm = e :: t := by
  obtain ⟨h1, h2⟩ := firstOf_is hn hf
  cases hs : turned l tm with
  | nil => have := turned_empty hs e h1; omega
  | cons y t =>
    obtain ⟨h3, _⟩ := turned_head hn hs
    rw [hf] at h3
    injection h3 with h3
    subst h3
    exact ⟨t, rfl⟩

/-! ### a place in a sorted list -/
/-- place i of e in a sorted list: what stands ahead is less, what stands from there on is not -/
structure Place (r : List E) (e : E) (i : Nat) : Prop where
  le : i ≤ r.length
  ahead : ∀ j (h : j < r.length), j < i → less r[j] e
  from_ : ∀ j (h : j < r.length), i ≤ j → ¬ less r[j] e
theorem mem_ins {r : List E} {e x : E} {i : Nat} : x ∈ r.take i ++ e :: r.drop i ↔ x = e ∨ x ∈ r := by
  have : r.take i ++ r.drop i = r := List.take_append_drop i r
  constructor
  · intro h
    rcases List.mem_append.1 h with h | h
    · exact Or.inr (List.mem_of_mem_take h)
    · rcases List.mem_cons.1 h with h | h
      · exact Or.inl h
      · exact Or.inr (List.mem_of_mem_drop h)
  · intro h
    rcases h with h | h
    · exact List.mem_append_right _ (List.mem_cons.2 (Or.inl h))
    · rw [← this] at h
      rcases List.mem_append.1 h with h | h
      · exact List.mem_append_left _ h
      · exact List.mem_append_right _ (List.mem_cons.2 (Or.inr h))
theorem ins_pairwise {r : List E} {e : E} {i : Nat} (hs : r.Pairwise less) (hp : Place r e i) (he : e ∉ r) : (r.take i ++ e :: r.drop i).Pairwise less := by
  rw [List.pairwise_append]
  refine ⟨hs.take, ?_, fun x hx y hy => ?_⟩
  · rw [List.pairwise_cons]
    refine ⟨fun y hy => ?_, hs.drop⟩
    obtain ⟨j, hj, rfl⟩ := List.getElem_of_mem hy
    rw [List.getElem_drop]
    rw [List.length_drop] at hj
    rcases less_tri e r[i + j] with h | h | h
    · exact h
    · exact absurd (by rw [h]; exact List.getElem_mem _) he
    · exact absurd h (hp.from_ (i + j) (by omega) (by omega))
  · obtain ⟨j, hj, rfl⟩ := List.getElem_of_mem hx
    rw [List.length_take] at hj
    rw [List.getElem_take]
    have h1 := hp.ahead j (by omega) (by omega)
    rcases List.mem_cons.1 hy with rfl | hy
    · exact h1
    · obtain ⟨k, hk, rfl⟩ := List.getElem_of_mem hy
      rw [List.length_drop] at hk
      rw [List.getElem_drop]
      rw [List.pairwise_iff_getElem] at hs
      exact hs j (i + k) (by omega) (by omega) (by omega)
/-- put: the new element at its place -/
theorem turned_put {l : List E} {k a tm : Int} {i : Nat} (hn : (l.map (·.1)).Nodup) (hk : find l k = none) (ha : a ≤ tm) (hp : Place (turned l tm) (k, a) i) :
    (turned l tm).take i ++ (k, a) :: (turned l tm).drop i = turned (l ++ [(k, a)]) tm := by
  have hnl := nodup_of hn
  have hne : (k, a) ∉ l := fun h => find_none.1 hk _ h rfl
  have hn2 : (l ++ [(k, a)]).Nodup := by
    rw [List.nodup_append]
    exact ⟨hnl, by simp, fun x hx y hy => by simp at hy; subst hy; exact fun e => hne (e ▸ hx)⟩
  refine turned_is hn2 (ins_pairwise (turned_sorted hnl tm) hp (fun h => hne (turned_mem.1 h).1)) (fun e => ?_)
  rw [mem_ins, turned_mem, List.mem_append]
  constructor
  · rintro (rfl | h)
    · exact ⟨Or.inr (by simp), ha⟩
    · exact ⟨Or.inl h.1, h.2⟩
  · rintro ⟨h | h, h2⟩
    · exact Or.inr ⟨h, h2⟩
    · simp at h; exact Or.inl h
/-- put later: nothing is due more -/
theorem turned_put_later {l : List E} {k a tm : Int} (ha : tm < a) : turned (l ++ [(k, a)]) tm = turned l tm := by
  unfold turned due
  rw [List.filter_append, List.filter_cons, if_neg (by simp; omega)]
  simp
theorem mem_without {l : List E} {id : Int} {e : E} : e ∈ without l id ↔ e ∈ l ∧ e.1 ≠ id := by unfold without; rw [List.mem_filter]; simp
theorem find_eq {l : List E} (hn : (l.map (·.1)).Nodup) {x : E} (hx : x ∈ l) {k a : Int} (hf : find l k = some a) (e : x.1 = k) : x = (k, a) := by
  obtain ⟨y, b⟩ := x
  simp at e
  subst e
  have := find_of_mem hn hx
  rw [hf] at this
  injection this with this
  rw [this]
/-- taken away where it stands -/
theorem turned_drop {l : List E} {k a tm : Int} {i : Nat} (hn : (l.map (·.1)).Nodup) (hk : find l k = some a) (h : i < (turned l tm).length) (hi : (turned l tm)[i] = (k, a)) :
    (turned l tm).eraseIdx i = turned (without l k) tm := by
  have hnl := nodup_of hn
  have hnt := turned_nodup hnl tm
  refine turned_is (nodup_of (nodup_without hn)) ((turned_sorted hnl tm).sublist (List.eraseIdx_sublist _ _)) (fun e => ?_)
  have hpe := erase_perm (turned l tm) i h
  rw [hi] at hpe
  have hnc := hpe.nodup_iff.1 hnt
  rw [List.nodup_cons] at hnc
  have h1 : e ∈ (turned l tm).eraseIdx i ↔ e ∈ turned l tm ∧ e ≠ (k, a) := by
    rw [hpe.mem_iff, List.mem_cons]
    constructor
    · intro he
      exact ⟨Or.inr he, fun e2 => hnc.1 (e2 ▸ he)⟩
    · rintro ⟨h | h, h2⟩
      · exact absurd h h2
      · exact h
  rw [h1, turned_mem, mem_without]
  constructor
  · rintro ⟨⟨h2, h3⟩, h4⟩
    exact ⟨⟨h2, fun e2 => h4 (find_eq hn h2 hk e2)⟩, h3⟩
  · rintro ⟨⟨h2, h3⟩, h4⟩
    exact ⟨⟨h2, h4⟩, fun e2 => h3 (by rw [e2])⟩
/-- what is not due is not there -/
theorem turned_drop_later {l : List E} {k a tm : Int} (hn : (l.map (·.1)).Nodup) (hk : find l k = some a) (ha : tm < a) : turned (without l k) tm = turned l tm := by
  refine (turned_is (nodup_of (nodup_without hn)) (turned_sorted (nodup_of hn) tm) (fun e => ?_)).symm
  rw [turned_mem, mem_without]
  constructor
  · rintro ⟨h1, h2⟩
    refine ⟨⟨h1, fun e2 => ?_⟩, h2⟩
    have := find_eq hn h1 hk e2
    subst this
    simp at h2
    omega
  · rintro ⟨⟨h1, _⟩, h2⟩
    exact ⟨h1, h2⟩
theorem without_none {l : List E} {k : Int} (h : find l k = none) : without l k = l := List.filter_eq_self.2 (fun e he => by simpa using find_none.1 h e he)
/-- the place tells whether it is there -/
theorem place_there {r : List E} {e : E} {i : Nat} (hs : r.Pairwise less) (hp : Place r e i) (he : e ∈ r) : ∃ h : i < r.length, r[i] = e := by
  obtain ⟨j, hj, hje⟩ := List.getElem_of_mem he
  have h1 : ¬ j < i := fun h => less_irr (hje ▸ hp.ahead j hj h)
  have hi : i < r.length := by omega
  refine ⟨hi, ?_⟩
  have h2 := hp.from_ i hi (Nat.le_refl _)
  by_cases e1 : i = j
  · subst e1; exact hje
  · rw [List.pairwise_iff_getElem] at hs
    exact absurd (hje ▸ hs i j hi hj (by omega)) h2
/-- the list behind a set -/
def setL (l : List E) (k a : Int) : List E := without l k ++ [(k, a)]
theorem find_without_same (l : List E) (k : Int) : find (without l k) k = none := find_none.2 (fun e he => (mem_without.1 he).2)
theorem nodup_set {l : List E} (hn : (l.map (·.1)).Nodup) (k a : Int) : ((setL l k a).map (·.1)).Nodup := by
  unfold setL
  rw [List.map_append, List.nodup_append]
  refine ⟨nodup_without hn, by simp, fun x hx y hy => ?_⟩
  simp at hy
  obtain ⟨e, he, rfl⟩ := List.mem_map.1 hx
  rw [hy]
  exact (mem_without.1 he).2
theorem len_set (l : List E) (k a : Int) : (setL l k a).length ≤ l.length + 1 := by
  unfold setL
  rw [List.length_append]
  have : (without l k).length ≤ l.length := List.length_filter_le _ _
  simp
  omega
theorem putL_set {l : List E} {k a : Int} (hk : 0 ≤ k) : putErr (without l k) k = 0 ∧ putL (without l k) k a = setL l k a := by
  have h0 : putErr (without l k) k = 0 := by
    unfold putErr
    rw [if_neg (by omega), if_neg (by unfold has; rw [find_without_same]; simp)]
  refine ⟨h0, ?_⟩
  unfold putL setL
  rw [if_pos h0]
/-- put back what was turned out -/
theorem back_perm (l : List E) (tm : Int) : (rest l tm ++ turned l tm).Perm l := by
  refine ((sortT_perm _).append_left _).trans ?_
  induction l with
  | nil => exact List.Perm.refl _
  | cons e r ih =>
    unfold rest due at *
    simp only [List.filter_cons]
    by_cases h : e.2 ≤ tm
    · rw [if_neg (by simp; omega), if_pos (by simpa using h)]
      exact List.perm_middle.trans (ih.cons e)
    · rw [if_pos (by simp; omega), if_neg (by simpa using h)]
      exact ih.cons e
end Wh
