/-
  Numbers that are due at ticks, as plain lists: what is found, dropped, put; the order; what a turn returns.
-/
import Derived.Test.YtmmfmpnkjienfaaBase
namespace Wh
set_option linter.unusedVariables false

/-- a number and its tick -/
abbrev E := Int × Int
def find : List E → Int → Option Int
  | [], _ => none
  | e :: r, id => if e.1 = id then some e.2 else find r id
def has (l : List E) (id : Int) : Bool := (find l id).isSome
def without (l : List E) (id : Int) : List E := l.filter (fun e => decide (e.1 ≠ id))
def putErr (l : List E) (id : Int) : Int := if id < 0 then 1 else if has l id = true then 8 else 0
def putL (l : List E) (id at_ : Int) : List E := if putErr l id = 0 then l ++ [(id, at_)] else l
theorem find_drop (l : List E) (id : Int) (j : Nat) (h : j < l.length) : find (l.drop j) id = if l[j].1 = id then some l[j].2 else find (l.drop (j + 1)) id := by
  rw [List.drop_eq_getElem_cons h]; rfl
theorem find_mem {l : List E} {id a : Int} (h : find l id = some a) : (id, a) ∈ l := by
  induction l with
  | nil => cases h
  | cons e r ih =>
    unfold find at h
    split at h
    · rename_i h1
      obtain ⟨i, a'⟩ := e
      simp at h1 h
      subst h1 h
      exact List.mem_cons_self
    · exact List.mem_cons_of_mem _ (ih h)
theorem find_none {l : List E} {id : Int} : find l id = none ↔ ∀ e ∈ l, e.1 ≠ id := by
  induction l with
  | nil => simp [find]
  | cons e r ih =>
    unfold find
    split
    · rename_i h; simp [h]
    · rename_i h; simp [ih, h]
theorem find_of_mem {l : List E} (hn : (l.map (·.1)).Nodup) {id a : Int} (h : (id, a) ∈ l) : find l id = some a := by
  induction l with
  | nil => cases h
  | cons e r ih =>
    rw [List.map_cons, List.nodup_cons] at hn
    unfold find
    rcases List.mem_cons.1 h with rfl | h
    · rw [if_pos rfl]
    · rw [if_neg ?_]
      · exact ih hn.2 h
      · intro e1
        exact hn.1 (List.mem_map.2 ⟨(id, a), h, e1.symm⟩)
/-- the numbers are distinct, and what is put keeps them so -/
theorem nodup_put {l : List E} {id a : Int} (hn : (l.map (·.1)).Nodup) : ((putL l id a).map (·.1)).Nodup := by
  unfold putL
  split
  · rename_i h
    unfold putErr at h
    split at h
    · cases h
    · split at h
      · cases h
      · rename_i h1 h2
        have : find l id = none := by
          cases hf : find l id with
          | none => rfl
          | some x => exact absurd (by simp [has, hf]) h2
        rw [List.map_append, List.nodup_append]
        refine ⟨hn, by simp, fun x hx y hy => ?_⟩
        simp at hy
        obtain ⟨e, he, rfl⟩ := List.mem_map.1 hx
        rw [hy]
        exact find_none.1 this e he
  · exact hn
theorem nodup_without {l : List E} {id : Int} (hn : (l.map (·.1)).Nodup) : ((without l id).map (·.1)).Nodup :=
  (List.Sublist.map _ (List.filter_sublist)).nodup hn

/-- the order: ticks, then numbers -/
def less (a b : E) : Prop := a.2 < b.2 ∨ (a.2 = b.2 ∧ a.1 < b.1)
instance (a b : E) : Decidable (less a b) := by unfold less; infer_instance
theorem less_trans {a b c : E} (h : less a b) (g : less b c) : less a c := by unfold less at *; omega
theorem less_irr {a : E} (h : less a a) : False := by unfold less at h; omega
theorem less_tri (a b : E) : less a b ∨ a = b ∨ less b a := by
  obtain ⟨i, x⟩ := a
  obtain ⟨j, y⟩ := b
  unfold less
  simp
  omega
/-- two lists in order with the same elements are the same -/
theorem sorted_unique : ∀ {a b : List E}, a.Pairwise less → b.Pairwise less → a.Perm b → a = b
  | [], b, _, _, h => (List.Perm.nil_eq h)
  | x :: r, [], _, _, h => by have := h.length_eq; simp at this
  | x :: r, y :: s, ha, hb, h => by
    rw [List.pairwise_cons] at ha hb
    have e : x = y := by
      have hx : x ∈ y :: s := h.mem_iff.1 List.mem_cons_self
      have hy : y ∈ x :: r := h.mem_iff.2 List.mem_cons_self
      rcases List.mem_cons.1 hx with e | hx
      · exact e
      · rcases List.mem_cons.1 hy with e | hy
        · exact e.symm
        · exact (less_irr (less_trans (ha.1 y hy) (hb.1 x hx))).elim
    subst e
    rw [sorted_unique ha.2 hb.2 ((List.perm_cons x).1 h)]

def ins (x : E) : List E → List E
  | [] => [x]
  | y :: r => if less x y then x :: y :: r else y :: ins x r
def sortT : List E → List E
  | [] => []
  | x :: r => ins x (sortT r)
theorem ins_perm (x : E) : ∀ l, (ins x l).Perm (x :: l)
  | [] => List.Perm.refl _
  | y :: r => by
    unfold ins
    split
    · exact List.Perm.refl _
    · exact ((ins_perm x r).cons y).trans (List.Perm.swap x y r)
theorem sortT_perm : ∀ l, (sortT l).Perm l
  | [] => List.Perm.refl _
  | x :: r => (ins_perm x _).trans ((sortT_perm r).cons x)
theorem ins_sorted {x : E} : ∀ {l : List E}, l.Pairwise less → x ∉ l → (ins x l).Pairwise less
  | [], _, _ => by simp [ins]
  | y :: r, h, hx => by
    rw [List.pairwise_cons] at h
    unfold ins
    split
    · rename_i hl
      rw [List.pairwise_cons]
      exact ⟨fun z hz => by
        rcases List.mem_cons.1 hz with rfl | hz
        · exact hl
        · exact less_trans hl (h.1 z hz), List.pairwise_cons.2 h⟩
    · rename_i hl
      rw [List.pairwise_cons]
      refine ⟨fun z hz => ?_, ins_sorted h.2 (fun h' => hx (List.mem_cons_of_mem _ h'))⟩
      rcases List.mem_cons.1 ((ins_perm x r).mem_iff.1 hz) with rfl | hz
      · rcases less_tri z y with h1 | h1 | h1
        · exact absurd h1 hl
        · exact absurd (by rw [h1]; exact List.mem_cons_self) hx
        · exact h1
      · exact h.1 z hz
theorem sortT_sorted : ∀ {l : List E}, l.Nodup → (sortT l).Pairwise less
  | [], _ => List.Pairwise.nil
  | x :: r, h => by
    rw [List.nodup_cons] at h
    exact ins_sorted (sortT_sorted h.2) (fun h' => h.1 ((sortT_perm r).mem_iff.1 h'))
theorem nodup_of {l : List E} (h : (l.map (·.1)).Nodup) : l.Nodup := by
  induction l with
  | nil => exact List.nodup_nil
  | cons e r ih =>
    rw [List.map_cons, List.nodup_cons] at h
    exact List.nodup_cons.2 ⟨fun h' => h.1 (List.mem_map.2 ⟨e, h', rfl⟩), ih h.2⟩
/-- what is in order and has the same elements is the sorted list -/
theorem sortT_is {l s : List E} (hs : s.Pairwise less) (hp : s.Perm l) (hn : l.Nodup) : s = sortT l := sorted_unique hs (sortT_sorted hn) (hp.trans (sortT_perm l).symm)

def due (l : List E) (tm : Int) : List E := l.filter (fun e => decide (e.2 ≤ tm))
def rest (l : List E) (tm : Int) : List E := l.filter (fun e => decide (tm < e.2))
/-- what a turn returns -/
def turned (l : List E) (tm : Int) : List E := sortT (due l tm)
/-- number k is the least of l -/
def Least (l : List E) (k : Nat) : Prop := ∃ h : k < l.length, ∀ j (h' : j < l.length), ¬ less l[j] l[k]
theorem without_at {l : List E} (hn : (l.map (·.1)).Nodup) (k : Nat) (h : k < l.length) : without l l[k].1 = l.eraseIdx k := by
  induction l generalizing k with
  | nil => simp at h
  | cons e r ih =>
    rw [List.map_cons, List.nodup_cons] at hn
    cases k with
    | zero =>
      show List.filter _ (e :: r) = r
      rw [List.filter_cons, if_neg (by simp)]
      exact List.filter_eq_self.2 (fun x hx => by
        simp
        intro e1
        exact hn.1 (List.mem_map.2 ⟨x, hx, e1⟩))
    | succ k =>
      have hk : k < r.length := by simpa using h
      show List.filter _ (e :: r) = e :: r.eraseIdx k
      rw [List.filter_cons, if_pos ?_]
      · exact congrArg _ (ih hn.2 k hk)
      · simp
        intro e1
        exact hn.1 (List.mem_map.2 ⟨r[k], List.getElem_mem hk, e1.symm⟩)
theorem erase_perm (l : List E) (k : Nat) (h : k < l.length) : l.Perm (l[k] :: l.eraseIdx k) := by
  induction l generalizing k with
  | nil => simp at h
  | cons e r ih =>
    cases k with
    | zero => exact List.Perm.refl _
    | succ k =>
      have hk : k < r.length := by simpa using h
      exact ((ih k hk).cons e).trans (List.Perm.swap _ _ _)
/-- the least is due: it comes first -/
theorem turned_step {l : List E} {tm : Int} {k : Nat} (hn : (l.map (·.1)).Nodup) (hk : Least l k) (hd : ∀ h : k < l.length, l[k].2 ≤ tm) :
    ∃ h : k < l.length, turned l tm = l[k] :: turned (l.eraseIdx k) tm ∧ rest l tm = rest (l.eraseIdx k) tm := by
  obtain ⟨h, hl⟩ := hk
  have hx := hd h
  have hpe := erase_perm l k h
  have hdup : (l.eraseIdx k).Nodup := by
    have := hpe.nodup_iff.1 (nodup_of hn)
    exact (List.nodup_cons.1 this).2
  have hdue : (due l tm).Perm (l[k] :: due (l.eraseIdx k) tm) := by
    have := hpe.filter (fun e => decide (e.2 ≤ tm))
    rwa [List.filter_cons, if_pos (by simpa using hx)] at this
  have hnd : (l[k] :: due (l.eraseIdx k) tm).Nodup := hdue.nodup_iff.1 ((nodup_of hn).filter _)
  refine ⟨h, ?_, ?_⟩
  · refine (sortT_is (s := l[k] :: turned (l.eraseIdx k) tm) ?_ ?_ ((nodup_of hn).filter _)).symm
    · rw [List.pairwise_cons]
      refine ⟨fun z hz => ?_, sortT_sorted (hdup.filter _)⟩
      have hz1 := (sortT_perm _).mem_iff.1 hz
      have hz2 : z ∈ l := hpe.mem_iff.2 (List.mem_cons_of_mem _ (List.mem_filter.1 hz1).1)
      obtain ⟨j, hj, rfl⟩ := List.getElem_of_mem hz2
      rcases less_tri l[k] l[j] with h1 | h1 | h1
      · exact h1
      · exact absurd (h1 ▸ hz1) (List.nodup_cons.1 hnd).1
      · exact absurd h1 (hl j hj)
    · exact ((sortT_perm _).cons _).trans hdue.symm
  · unfold rest
    have : ∀ (l : List E) (k : Nat) (h : k < l.length), l[k].2 ≤ tm → l.filter (fun e => decide (tm < e.2)) = (l.eraseIdx k).filter (fun e => decide (tm < e.2)) := by
      intro l
      induction l with
      | nil => intro k h; simp at h
      | cons e r ih =>
        intro k h hle
        cases k with
        | zero =>
          have hle' : e.2 ≤ tm := hle
          rw [List.filter_cons, if_neg (by simp; omega)]
          rfl
        | succ k =>
          have hk : k < r.length := by simpa using h
          show List.filter _ (e :: r) = List.filter _ (e :: r.eraseIdx k)
          rw [List.filter_cons, List.filter_cons, ih k hk hle]
    exact this l k h hx
/-- the least is not due: nothing is -/
theorem turned_end {l : List E} {tm : Int} {k : Nat} (hk : Least l k) (hd : ∀ h : k < l.length, tm < l[k].2) : turned l tm = [] ∧ rest l tm = l := by
  obtain ⟨h, hl⟩ := hk
  have hx := hd h
  have hall : ∀ e ∈ l, tm < e.2 := fun e he => by
    obtain ⟨j, hj, rfl⟩ := List.getElem_of_mem he
    have := hl j hj
    unfold less at this
    omega
  have hdue : due l tm = [] := List.filter_eq_nil_iff.2 (fun e he => by have := hall e he; simp; omega)
  refine ⟨by unfold turned; rw [hdue]; rfl, List.filter_eq_self.2 (fun e he => by have := hall e he; simp; omega)⟩
theorem turned_nil (tm : Int) : turned [] tm = [] ∧ rest [] tm = [] := ⟨rfl, rfl⟩
/-- the lesser of two -/
def min2 (a b : Int) : Int := if b < a then b else a
/-- the earliest tick -/
def nextR : List E → Option Int
  | [] => none
  | e :: r => some (r.foldl (fun m x => min2 m x.2) e.2)
theorem foldMin (r : List E) : ∀ m : Int, (r.foldl (fun m x => min2 m x.2) m = m ∨ ∃ e ∈ r, e.2 = r.foldl (fun m x => min2 m x.2) m) ∧ r.foldl (fun m x => min2 m x.2) m ≤ m ∧ ∀ e ∈ r, r.foldl (fun m x => min2 m x.2) m ≤ e.2 := by
  induction r with
  | nil => intro m; simp
  | cons x r ih =>
    intro m
    obtain ⟨h1, h2, h3⟩ := ih (min2 m x.2)
    have hm : min2 m x.2 ≤ m ∧ min2 m x.2 ≤ x.2 ∧ (min2 m x.2 = m ∨ min2 m x.2 = x.2) := by unfold min2; split <;> omega
    rw [List.foldl_cons]
    refine ⟨?_, by omega, fun e he => ?_⟩
    · rcases h1 with h1 | ⟨e, he, h1⟩
      · rcases hm.2.2 with h | h
        · exact Or.inl (h1.trans h)
        · exact Or.inr ⟨x, List.mem_cons_self, (h1.trans h).symm⟩
      · exact Or.inr ⟨e, List.mem_cons_of_mem _ he, h1⟩
    · rcases List.mem_cons.1 he with rfl | he
      · omega
      · exact h3 e he
theorem nextR_is {l : List E} {m : Int} (h : nextR l = some m) : (∃ e ∈ l, e.2 = m) ∧ ∀ e ∈ l, m ≤ e.2 := by
  cases l with
  | nil => cases h
  | cons x r =>
    injection h with h
    obtain ⟨h1, h2, h3⟩ := foldMin r x.2
    rw [h] at h1 h2 h3
    refine ⟨?_, fun e he => ?_⟩
    · rcases h1 with h1 | ⟨e, he, h1⟩
      · exact ⟨x, List.mem_cons_self, h1.symm⟩
      · exact ⟨e, List.mem_cons_of_mem _ he, h1⟩
    · rcases List.mem_cons.1 he with rfl | he
      · exact h2
      · exact h3 e he
theorem nextR_of {l : List E} {m : Int} (h1 : ∃ e ∈ l, e.2 = m) (h2 : ∀ e ∈ l, m ≤ e.2) : nextR l = some m := by
  cases hx : nextR l with
  | none =>
    cases l with
    | nil => obtain ⟨e, he, _⟩ := h1; cases he
    | cons x r => cases hx
  | some n =>
    obtain ⟨⟨e, he, g1⟩, g2⟩ := nextR_is hx
    obtain ⟨e', he', g3⟩ := h1
    have a := g2 e' he'
    have b := h2 e he
    rw [show n = m by omega]
end Wh
