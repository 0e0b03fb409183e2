/-
  The program's Turn, a step of its loop.
-/
import Derived.Test.YtmmfmpnkjienfaaWhU2
namespace Go.Proofs.Ytmmfmpnkjienfaa
open Go.RowKit
set_option linter.unusedVariables false

/-- k of the elements that have been taken are given back or due -/
structure TurnS (w0 : World) (B P : Nat) (now tm : Int) (l : List Wh.E) (T : Nat) (sl : Nat → Option Nat) (acc : List Wh.E) (v : Value) (k : Nat) (u : Value) (w : World) (lt : List Wh.E) (s : Nat → Option Nat) : Prop where
  at_ : WAt w B P (later now tm) lt (geP now l (pl now (later now tm) + 1) ++ Wh.rest (acc.take k) tm) T s
  all : (Wh.due (acc.take k) tm ++ lt).Perm l
  new : ∀ i, WF P T s i → WF P T sl i ∨ w0.heap.size ≤ i
  vrow : RowE w w0.heap.size v acc
  urow : RowE w w0.heap.size u (Wh.due (acc.take k) tm)
  ne : ∀ i, v.ownBlock = some i → u.ownBlock ≠ some i
  chg : Chg (WF P T sl) w0 w
  perm : acc.Perm (ltP now l (pl now (later now tm) + 1))
section
variable {w0 w wA w2 w3 : World} {B P T k : Nat} {now tm : Int} {l acc lt : List Wh.E} {sl s : Nat → Option Nat} {u u' v : Value} {e : Ending}
theorem TurnS.start (h : TakeS w0 B P now l T sl (pl now (later now tm) + 1) v acc w) (ht : (Lit.int .u64 tm).wf = true) (hw : Wf l) (hw2 : w2 = w.setCell ⟨P, 0, none⟩ (.int .u64 (later now tm))) : TurnS w0 B P now tm l T sl acc v 0 (.slice none 0 0) w2 l (cutS sl (pl now (later now tm) + 1)) := by
  have hn := h.at_.now
  have e1 : Wh.rest (acc.take 0) tm = [] := by simp [Wh.rest]
  have e2 : Wh.due (acc.take 0) tm = [] := by simp [Wh.due]
  have h1 := h.at_.setNow (later now tm) hw2 (later_wf hn ht) (fun i _ => atP_later hn (later_wf hn ht) hw (later_ge now tm).1 i)
  refine ⟨?_, ?_, fun i hi => Or.inl hi.cut, ?_, ?_, fun i _ => by simp [Value.ownBlock], ?_, h.perm⟩
  · rw [e1, List.append_nil]; exact h1
  · rw [e2, List.nil_append]
  · subst hw2
    exact own_keep h.row (fun i hi => Below.heap_setCell _ _ _ _ (fun e => h.at_.notOwn h.row i (Or.inl e) hi))
  · rw [e2]; exact RowE.nil _ _
  · subst hw2
    exact h.chg.setCell (Or.inl (Or.inl rfl)) _
theorem TurnS.ids (h : TurnS w0 B P now tm l T sl acc v k u w lt s) (hn : (l.map (·.1)).Nodup) : ((geP now l (pl now (later now tm) + 1) ++ acc).map (·.1)).Nodup :=
  (((h.perm.append_left _).trans (ge_lt_perm now l _)).map _).nodup_iff.2 hn
theorem TurnS.fresh (h : TurnS w0 B P now tm l T sl acc v k u w lt s) (hn : (l.map (·.1)).Nodup) (hk : k < acc.length) : ∀ x ∈ geP now l (pl now (later now tm) + 1) ++ acc.take k, x.1 ≠ acc[k].1 := by
  have h1 := h.ids hn
  rw [List.map_append, List.nodup_append] at h1
  intro x hx e
  rcases List.mem_append.1 hx with hx | hx
  · exact h1.2.2 x.1 (List.mem_map.2 ⟨x, hx, rfl⟩) acc[k].1 (List.mem_map.2 ⟨acc[k], List.getElem_mem hk, rfl⟩) e
  · obtain ⟨i, hi, rfl⟩ := List.getElem_of_mem hx
    have hi2 : i < k := by rw [List.length_take] at hi; omega
    rw [List.getElem_take] at e
    have h2 := h1.2.1
    rw [List.Nodup, List.pairwise_iff_getElem] at h2
    have := h2 i k (by simp; omega) (by simpa using hk) hi2
    simp at this
    exact this e
theorem TurnS.unseen (h : TurnS w0 B P now tm l T sl acc v k u w lt s) (hn : (l.map (·.1)).Nodup) (hk : k < acc.length) : Wh.find (geP now l (pl now (later now tm) + 1) ++ Wh.rest (acc.take k) tm) acc[k].1 = none := by
  refine Wh.find_none.2 (fun x hx => h.fresh hn hk x ?_)
  rcases List.mem_append.1 hx with hx | hx
  · exact List.mem_append_left _ hx
  · exact List.mem_append_right _ (List.mem_filter.1 hx).1
theorem TurnS.slen (h : TurnS w0 B P now tm l T sl acc v k u w lt s) : (geP now l (pl now (later now tm) + 1) ++ Wh.rest (acc.take k) tm).length ≤ l.length := by
  have h1 := ((h.perm.append_left _).trans (ge_lt_perm now l (pl now (later now tm) + 1))).length_eq
  have h2 : (Wh.rest (acc.take k) tm).length ≤ (acc.take k).length := List.length_filter_le _ _
  rw [List.length_take] at h2
  rw [List.length_append] at h1 ⊢
  omega
theorem TurnS.len (h : TurnS w0 B P now tm l T sl acc v k u w lt s) : acc.length ≤ l.length := by
  rw [h.perm.length_eq]
  exact List.length_filter_le _ _
theorem TurnS.dlen (h : TurnS w0 B P now tm l T sl acc v k u w lt s) : (Wh.due (acc.take k) tm).length ≤ l.length := by
  rw [← h.all.length_eq, List.length_append]
  omega
theorem TurnS.mem (h : TurnS w0 B P now tm l T sl acc v k u w lt s) (hk : k < acc.length) : acc[k] ∈ l := (List.mem_filter.1 (h.perm.mem_iff.1 (List.getElem_mem hk))).1
theorem TurnS.below (h : TurnS w0 B P now tm l T sl acc v k u w lt s) (hb : Below w.heap.size w wA) : TurnS w0 B P now tm l T sl acc v k u wA lt s :=
  { h with at_ := h.at_.below hb, vrow := h.vrow.below hb, urow := h.urow.below hb, chg := h.chg.then hb }
theorem TurnS.late (h : TurnS w0 B P now tm l T sl acc v k u w lt s) (hk : k < acc.length) (hx : tm < acc[k].2) (hp : Placed w B P (later now tm) lt (geP now l (pl now (later now tm) + 1) ++ Wh.rest (acc.take k) tm) T s acc[k] e w2) : ∃ s', TurnS w0 B P now tm l T sl acc v (k + 1) u w2 lt s' := by
  obtain ⟨s', h1, h2⟩ := hp.s
  have e1 : Wh.rest (acc.take (k + 1)) tm = Wh.rest (acc.take k) tm ++ [acc[k]] := by rw [take_snoc _ _ hk, rest_snoc, if_pos hx]
  have e2 : Wh.due (acc.take (k + 1)) tm = Wh.due (acc.take k) tm := by rw [take_snoc _ _ hk, due_snoc, if_neg (by omega)]
  have hsz := h.chg.size
  refine ⟨s', ?_, ?_, fun i hi => ?_, ?_, ?_, h.ne, ?_, h.perm⟩
  · rw [e1, ← List.append_assoc]; exact h1
  · rw [e2]; exact h.all
  · rcases h2 i hi with h3 | h3
    · exact h.new i h3
    · exact Or.inr (by omega)
  · exact own_keep h.vrow (fun i hi => hp.c.block i (World.ownsRow.lt h.vrow i hi).2 (fun hf => h.at_.notOwn h.vrow i hf hi))
  · rw [e2]
    exact own_keep h.urow (fun i hi => hp.c.block i (World.ownsRow.lt h.urow i hi).2 (fun hf => h.at_.notOwn h.urow i hf hi))
  · exact h.chg.trans hp.c (fun i hi => by
      rcases h.new i hi with h3 | h3
      · exact Or.inl h3
      · exact Or.inr h3)
theorem TurnS.has (h : TurnS w0 B P now tm l T sl acc v k u w lt s) (hn : (l.map (·.1)).Nodup) (hk : k < acc.length) : acc[k] ∈ lt := by
  have h1 := h.all.mem_iff.2 (h.mem hk)
  rcases List.mem_append.1 h1 with h2 | h2
  · exact absurd rfl (h.fresh hn hk _ (List.mem_append_right _ (List.mem_filter.1 h2).1))
  · exact h2
theorem TurnS.ltn (h : TurnS w0 B P now tm l T sl acc v k u w lt s) (hn : (l.map (·.1)).Nodup) : (lt.map (·.1)).Nodup := by
  have h1 := (h.all.map (·.1)).nodup_iff.2 hn
  rw [List.map_append, List.nodup_append] at h1
  exact h1.2.1
/-- the element has left the map -/
theorem TurnS.gone (h : TurnS w0 B P now tm l T sl acc v k u w lt s) (hk : k < acc.length) (hM : MapE w2 T (Wh.without lt acc[k].1)) (hc : Chg (fun i => i = T) w w2) :
    WAt w2 B P (later now tm) (Wh.without lt acc[k].1) (geP now l (pl now (later now tm) + 1) ++ Wh.rest (acc.take k) tm) T s ∧ RowE w2 w0.heap.size v acc ∧ RowE w2 w0.heap.size u (Wh.due (acc.take k) tm) ∧ Chg (WF P T sl) w0 w2 := by
  refine ⟨h.at_.writeMap _ hM hc, ?_, ?_, h.chg.trans hc (fun i hi => Or.inl (Or.inr (Or.inl hi)))⟩
  · exact own_keep h.vrow (fun i hi => hc.block i (World.ownsRow.lt h.vrow i hi).2 (fun hf => h.at_.notOwn h.vrow i (Or.inr (Or.inl hf)) hi))
  · exact own_keep h.urow (fun i hi => hc.block i (World.ownsRow.lt h.urow i hi).2 (fun hf => h.at_.notOwn h.urow i (Or.inr (Or.inl hf)) hi))
theorem TurnS.due (h : TurnS w0 B P now tm l T sl acc v k u w lt s) (hn : (l.map (·.1)).Nodup) (hk : k < acc.length) (hx : acc[k].2 ≤ tm) (hM : MapE w2 T (Wh.without lt acc[k].1)) (hc : Chg (fun i => i = T) w w2)
    (hrow : w3.ownsRow w0.heap.size 39 3 u' ((Wh.due (acc.take k) tm).length + 1) (cellsE (Wh.due (acc.take k) tm) ++ [.int .i64 0, .int .i64 acc[k].1, .int .u64 acc[k].2]))
    (hb : Below w0.heap.size w2 w3) (hkeep : ∀ i, i < w2.heap.size → some i ≠ u.ownBlock → w3.heap[i]? = w2.heap[i]?) (hl : ∀ i, u'.ownBlock = some i → u.ownBlock = some i ∨ w2.heap.size ≤ i) : TurnS w0 B P now tm l T sl acc v (k + 1) u' w3 (Wh.without lt acc[k].1) s := by
  obtain ⟨h1, h2, h3, h4⟩ := h.gone hk hM hc
  have e1 : Wh.rest (acc.take (k + 1)) tm = Wh.rest (acc.take k) tm := by rw [take_snoc _ _ hk, rest_snoc, if_neg (by omega)]
  have e2 : Wh.due (acc.take (k + 1)) tm = Wh.due (acc.take k) tm ++ [acc[k]] := by rw [take_snoc _ _ hk, due_snoc, if_pos hx]
  refine ⟨?_, ?_, h.new, ?_, ?_, fun i hi hu => ?_, ?_, h.perm⟩
  · rw [e1]
    exact h1.keep (fun i hi => hkeep i (h1.bounds i hi).2 (fun e => h1.notOwn h3 i hi e.symm))
  · rw [e2]
    refine List.Perm.trans ?_ h.all
    rw [List.append_assoc]
    refine List.Perm.append_left _ ?_
    obtain ⟨i, hi, hi2⟩ := List.getElem_of_mem (h.has hn hk)
    rw [← hi2, Wh.without_at (h.ltn hn) i hi]
    exact (Wh.erase_perm lt i hi).symm
  · exact own_keep h2 (fun i hi => hkeep i (World.ownsRow.lt h2 i hi).2 (fun e => h.ne i hi e.symm))
  · rw [e2]
    exact RowE.snoc hrow
  · rcases hl i hu with h5 | h5
    · exact h.ne i hi h5
    · have := (World.ownsRow.lt h2 i hi).2
      omega
  · exact ⟨hb.os.trans h4.os, hb.tape.trans h4.tape, hb.output.trans h4.output, Nat.le_trans h4.size hb.size, fun i hi hf => (hb.block i hi).trans (h4.block i hi hf)⟩
/-- the loop has ended -/
theorem TurnS.stop (h : TurnS w0 B P now tm l T sl acc v acc.length u w lt s) (hn : (l.map (·.1)).Nodup) (hnw : (Lit.int .u64 now).wf = true) (ht : (Lit.int .u64 tm).wf = true) (hw : Wf l) :
    WAt w B P (later now tm) (Wh.rest l tm) (Wh.rest l tm) T s ∧ RowE w w0.heap.size u (Wh.due acc tm) ∧ (Wh.due acc tm).Perm (Wh.due l tm) := by
  have h1 := h.at_
  have h2 := h.all
  have h3 := h.urow
  rw [List.take_length] at h1 h2 h3
  have hd := due_taken hnw ht hw h.perm
  refine ⟨h1.perm ?_ (rest_back hnw ht hw h.perm), h3, hd⟩
  have h4 := h2.trans (due_rest l tm).symm
  exact (List.perm_append_left_iff _).1 ((hd.append_right lt).symm.trans h4)
end
end Go.Proofs.Ytmmfmpnkjienfaa
