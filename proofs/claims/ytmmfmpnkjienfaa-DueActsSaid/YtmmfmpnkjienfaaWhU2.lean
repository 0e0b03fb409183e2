/-
  The program's Turn, its facts: what has been taken is given back to the slots or laid into the row of what is due.
-/
import Derived.Test.YtmmfmpnkjienfaaWhT4
namespace Go.Proofs.Ytmmfmpnkjienfaa
open Go.RowKit
set_option linter.unusedVariables false

theorem due_snoc (l : List Wh.E) (e : Wh.E) (tm : Int) : Wh.due (l ++ [e]) tm = if e.2 ≤ tm then Wh.due l tm ++ [e] else Wh.due l tm := by
  unfold Wh.due
  by_cases h : e.2 ≤ tm <;> simp [h]
theorem rest_snoc (l : List Wh.E) (e : Wh.E) (tm : Int) : Wh.rest (l ++ [e]) tm = if tm < e.2 then Wh.rest l tm ++ [e] else Wh.rest l tm := by
  unfold Wh.rest
  by_cases h : tm < e.2 <;> simp [h]
theorem take_snoc (l : List Wh.E) (k : Nat) (h : k < l.length) : l.take (k + 1) = l.take k ++ [l[k]] := by
  rw [List.take_add_one, List.getElem?_eq_getElem h]
  rfl
theorem split_perm (p : Wh.E → Bool) : ∀ l : List Wh.E, (l.filter p ++ l.filter (fun e => !p e)).Perm l
  | [] => List.Perm.refl _
  | x :: r => by
    have ih := split_perm p r
    cases h : p x
    · simp only [List.filter_cons, h]
      exact (List.perm_middle).trans (ih.cons x)
    · simp only [List.filter_cons, h]
      exact ih.cons x
theorem ge_lt_perm (now : Int) (l : List Wh.E) (m : Nat) : (geP now l m ++ ltP now l m).Perm l := by
  have h := split_perm (fun e => decide (m ≤ pl now e.2)) l
  have e : (fun e : Wh.E => !decide (m ≤ pl now e.2)) = fun e => decide (pl now e.2 < m) := by
    funext e
    by_cases h : m ≤ pl now e.2
    · have : ¬ pl now e.2 < m := by omega
      simp [h, this]
    · have : pl now e.2 < m := by omega
      simp [h, this]
  rw [e] at h
  exact h
theorem due_rest (l : List Wh.E) (tm : Int) : (Wh.due l tm ++ Wh.rest l tm).Perm l := by
  have h := split_perm (fun e => decide (e.2 ≤ tm)) l
  have e : (fun e : Wh.E => !decide (e.2 ≤ tm)) = fun e => decide (tm < e.2) := by
    funext e
    by_cases h : e.2 ≤ tm
    · have : ¬ tm < e.2 := by omega
      simp [h, this]
    · have : tm < e.2 := by omega
      simp [h, this]
  rw [e] at h
  exact h
theorem later_wf {now tm : Int} (h1 : (Lit.int .u64 now).wf = true) (h2 : (Lit.int .u64 tm).wf = true) : (Lit.int .u64 (later now tm)).wf = true := by
  unfold later
  split
  · exact h2
  · exact h1
theorem later_ge (now tm : Int) : now ≤ later now tm ∧ tm ≤ later now tm := by unfold later; split <;> omega
/-- what is at a later place than the new tick stays where it is -/
theorem atP_later {now n' : Int} {l : List Wh.E} (hn : (Lit.int .u64 now).wf = true) (hn' : (Lit.int .u64 n').wf = true) (hw : Wf l) (hle : now ≤ n') (i : Nat) : atP n' (geP now l (pl now n' + 1)) i = atP now (geP now l (pl now n' + 1)) i := by
  unfold atP
  refine List.filter_congr (fun e he => ?_)
  obtain ⟨h1, h2⟩ := List.mem_filter.1 he
  simp only [decide_eq_true_eq] at h2
  obtain ⟨g1, g2⟩ := wf_u64 hn
  obtain ⟨g3, g4⟩ := wf_u64 hn'
  have := Wh.plc_keep (n := now.toNat) (t := n'.toNat) (a := e.2.toNat) (toNat_lt (hw e h1).2) (by omega) (toNat_lt hn') (by show pl now n' < pl now e.2; omega)
  show decide (Wh.plc n'.toNat e.2.toNat = i) = decide (Wh.plc now.toNat e.2.toNat = i)
  rw [this]
/-- what is at a later place is due later -/
theorem geP_later {now n' : Int} {l : List Wh.E} (hn : (Lit.int .u64 now).wf = true) (hn' : (Lit.int .u64 n').wf = true) (hw : Wf l) {e : Wh.E} (he : e ∈ geP now l (pl now n' + 1)) : n' < e.2 := by
  obtain ⟨h1, h2⟩ := List.mem_filter.1 he
  simp only [decide_eq_true_eq] at h2
  obtain ⟨g3, g4⟩ := wf_u64 hn'
  obtain ⟨g5, g6⟩ := wf_u64 (hw e h1).2
  have := (Wh.plc_later (n := now.toNat) (a := n'.toNat) (b := e.2.toNat) (toNat_lt hn) (toNat_lt hn') (by show pl now n' < pl now e.2; omega)).1
  omega
/-- all that is due has been taken -/
theorem due_taken {now tm : Int} {l acc : List Wh.E} (hn : (Lit.int .u64 now).wf = true) (ht : (Lit.int .u64 tm).wf = true) (hw : Wf l) (hp : acc.Perm (ltP now l (pl now (later now tm) + 1))) : (Wh.due acc tm).Perm (Wh.due l tm) := by
  have h1 := (ge_lt_perm now l (pl now (later now tm) + 1)).filter (fun e => decide (e.2 ≤ tm))
  rw [List.filter_append] at h1
  have h2 : (geP now l (pl now (later now tm) + 1)).filter (fun e => decide (e.2 ≤ tm)) = [] := by
    rw [List.filter_eq_nil_iff]
    intro e he
    have h3 := geP_later hn (later_wf hn ht) hw he
    have h4 := (later_ge now tm).2
    simp
    omega
  rw [h2, List.nil_append] at h1
  exact (hp.filter _).trans h1
/-- and all else is in the slots again -/
theorem rest_back {now tm : Int} {l acc : List Wh.E} (hn : (Lit.int .u64 now).wf = true) (ht : (Lit.int .u64 tm).wf = true) (hw : Wf l) (hp : acc.Perm (ltP now l (pl now (later now tm) + 1))) :
    (geP now l (pl now (later now tm) + 1) ++ Wh.rest acc tm).Perm (Wh.rest l tm) := by
  have h1 := (ge_lt_perm now l (pl now (later now tm) + 1)).filter (fun e => decide (tm < e.2))
  rw [List.filter_append] at h1
  have h2 : (geP now l (pl now (later now tm) + 1)).filter (fun e => decide (tm < e.2)) = geP now l (pl now (later now tm) + 1) := by
    rw [List.filter_eq_self]
    intro e he
    have h3 := geP_later hn (later_wf hn ht) hw he
    have h4 := (later_ge now tm).2
    simp
    omega
  rw [h2] at h1
  exact ((hp.filter _).append_left _).trans h1
theorem WAt.perm {w : World} {B P T : Nat} {now : Int} {lt ls lt' ls' : List Wh.E} {sl : Nat → Option Nat} (h : WAt w B P now lt ls T sl) (h1 : lt.Perm lt') (h2 : ls.Perm ls') : WAt w B P now lt' ls' T sl :=
  { h with
    tm := h.tm.perm h1
    sm := fun j hj b hb => (h.sm j hj b hb).perm (h2.filter _)
    sn := fun j hj hb => List.perm_nil.1 (by have := (h2.filter (fun e => decide (pl now e.2 = j))); have h3 := h.sn j hj hb; unfold atP at h3 ⊢; rw [h3] at this; exact this.symm)
    wf := fun e he => h.wf e (h2.mem_iff.2 he) }
theorem sortT_perm_eq {a b : List Wh.E} (h : a.Perm b) (hb : b.Nodup) : Wh.sortT a = Wh.sortT b := Wh.sortT_is (Wh.sortT_sorted (h.nodup_iff.2 hb)) ((Wh.sortT_perm a).trans h) hb
/-- no row of timers is one of the wheel's blocks -/
theorem WAt.notOwn {w : World} {B P T B' n : Nat} {now : Int} {lt ls : List Wh.E} {sl : Nat → Option Nat} {v : Value} {xs : List Value} (h : WAt w B P now lt ls T sl) (hrow : w.ownsRow B' 39 3 v n xs) (k : Nat) (hk : WF P T sl k) : v.ownBlock ≠ some k := by
  obtain ⟨hl, ⟨rfl, _⟩ | ⟨g, cap, c2, rfl, hg, hc, _⟩⟩ := hrow
  · simp [Value.ownBlock]
  · intro e
    simp [Value.ownBlock] at e
    subst e
    rcases hk with rfl | rfl | ⟨j, hj, hb⟩
    · obtain ⟨cur, hr, _⟩ := h.row
      rw [hr] at hc
      cases hc
    · exact h.tm.cells hc rfl
    · exact (h.sm j hj g hb).cells hc rfl
end Go.Proofs.Ytmmfmpnkjienfaa
