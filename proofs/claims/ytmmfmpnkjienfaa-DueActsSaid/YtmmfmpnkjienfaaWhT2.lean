/-
  The program's take, what it needs: the slots below a place are emptied, their elements lie in a row.
-/
import Derived.Test.YtmmfmpnkjienfaaWhX
namespace Go.Proofs.Ytmmfmpnkjienfaa
open Go.RowKit
set_option linter.unusedVariables false

/-- the elements at places below m, and the others -/
def ltP (now : Int) (l : List Wh.E) (m : Nat) : List Wh.E := l.filter (fun e => decide (pl now e.2 < m))
def geP (now : Int) (l : List Wh.E) (m : Nat) : List Wh.E := l.filter (fun e => decide (m ≤ pl now e.2))
theorem atP_geP (now : Int) (l : List Wh.E) (m i : Nat) : atP now (geP now l m) i = if i < m then [] else atP now l i := by
  unfold atP geP
  rw [List.filter_filter]
  by_cases h : i < m
  · rw [if_pos h, List.filter_eq_nil_iff]
    intro e _
    simp
    omega
  · rw [if_neg h]
    congr 1
    funext e
    by_cases h2 : pl now e.2 = i
    · simp [h2]; omega
    · simp [h2]
theorem ltP_succ (now : Int) (m : Nat) : ∀ l : List Wh.E, (ltP now l m ++ atP now l m).Perm (ltP now l (m + 1))
  | [] => List.Perm.refl _
  | e :: r => by
    have ih := ltP_succ now m r
    unfold ltP atP at *
    rcases Nat.lt_trichotomy (pl now e.2) m with h | h | h
    · have h1 : pl now e.2 ≠ m := by omega
      have h2 : pl now e.2 < m + 1 := by omega
      simpa [List.filter_cons, h, h1, h2] using ih.cons e
    · simp only [List.filter_cons, h, decide_true, if_true]
      simp only [Nat.lt_irrefl, decide_false, Bool.false_eq_true, if_false, Nat.lt_succ_self, decide_true, if_true]
      exact (List.perm_middle).trans (ih.cons e)
    · have h1 : ¬ pl now e.2 < m := by omega
      have h2 : ¬ pl now e.2 < m + 1 := by omega
      have h3 : pl now e.2 ≠ m := by omega
      simpa [List.filter_cons, h1, h2, h3] using ih
theorem Wf.filter {l : List Wh.E} (h : Wf l) (p : Wh.E → Bool) : Wf (l.filter p) := fun e he => h e (List.mem_filter.1 he).1
/-- the slots below m are empty -/
def cutS (sl : Nat → Option Nat) (m : Nat) : Nat → Option Nat := fun j => if j < m then none else sl j
/-- the slots below m have been emptied into the row v -/
structure TakeS (w0 : World) (B P : Nat) (now : Int) (l : List Wh.E) (T : Nat) (sl : Nat → Option Nat) (m : Nat) (v : Value) (acc : List Wh.E) (w : World) : Prop where
  at_ : WAt w B P now l (geP now l m) T (cutS sl m)
  row : RowE w w0.heap.size v acc
  perm : acc.Perm (ltP now l m)
  chg : Chg (WF P T sl) w0 w
  low : ∀ k, WF P T sl k → k < w0.heap.size
theorem WF.cut {P T m k : Nat} {sl : Nat → Option Nat} (h : WF P T (cutS sl m) k) : WF P T sl k := by
  rcases h with h | h | ⟨j, hj, hs⟩
  · exact Or.inl h
  · exact Or.inr (Or.inl h)
  · unfold cutS at hs
    split at hs
    · cases hs
    · exact Or.inr (Or.inr ⟨j, hj, hs⟩)
theorem own_not {w : World} {B k : Nat} {e : TypeId} {size n : Nat} {v : Value} {xs : List Value} (h : w.ownsRow B e size v n xs) (hk : k < B) : v.ownBlock ≠ some k := fun e => by
  have := (World.ownsRow.lt h k e).1
  omega
section
variable {w0 w W w' : World} {B P T m : Nat} {now : Int} {l acc acc' : List Wh.E} {sl : Nat → Option Nat} {v v' : Value}
theorem TakeS.start (h : WAt w0 B P now l l T sl) (q : Nat) : TakeS w0 B P now l T sl 0 (.slice none 0 0) [] (w0.drewN q) := by
  have e1 : geP now l 0 = l := List.filter_eq_self.2 (fun _ _ => by simp)
  have e2 : cutS sl 0 = sl := by funext j; simp [cutS]
  have e3 : ltP now l 0 = [] := List.filter_eq_nil_iff.2 (fun _ _ => by simp)
  refine ⟨?_, RowE.nil _ _, by rw [e3], (Chg.refl _ _).drewN q, fun k hk => (h.bounds k hk).2⟩
  rw [e1, e2]
  exact h.keep (fun _ _ => rfl)
theorem TakeS.slot (h : TakeS w0 B P now l T sl m v acc w) (hm : m < 256) : w.cell? ⟨P, m + 2, none⟩ = some (.map (sl m)) := by
  have := h.at_.slot m hm
  rw [this]
  simp [cutS]
theorem TakeS.map (h : TakeS w0 B P now l T sl m v acc w) (hm : m < 256) {b : Nat} (hb : sl m = some b) : MapE w b (atP now l m) := by
  have := h.at_.sm m hm b (by simp [cutS, hb])
  rwa [atP_geP, if_neg (by omega)] at this
theorem TakeS.none (h : TakeS w0 B P now l T sl m v acc w) (hm : m < 256) (hb : sl m = none) : atP now l m = [] := by
  have := h.at_.sn m hm (by simp [cutS, hb])
  rwa [atP_geP, if_neg (by omega)] at this
theorem TakeS.step (h : TakeS w0 B P now l T sl m v acc w) (hm : m < 256) (hA : WAt W B P now l (geP now l m) T (cutS sl m)) (hrow : RowE W w0.heap.size v' acc') (hp : acc'.Perm (acc ++ atP now l m)) (hc : Chg (WF P T sl) w0 W) (hw' : w' = W.setCell ⟨P, m + 2, Option.none⟩ (.map Option.none)) :
    TakeS w0 B P now l T sl (m + 1) v' acc' w' := by
  have hP := h.low P (Or.inl rfl)
  have hs := hA.setSlot m hm Option.none (geP now l (m + 1)) hw' (fun b hb => by cases hb) (fun _ => by rw [atP_geP, if_pos (by omega)]) (fun i _ hi => by
    rw [atP_geP, atP_geP]
    by_cases h1 : i < m
    · rw [if_pos h1, if_pos (by omega)]
    · rw [if_neg h1, if_neg (by omega)]) (by
      intro e he
      obtain ⟨h1, h2⟩ := List.mem_filter.1 he
      exact hA.wf e (List.mem_filter.2 ⟨h1, by simp at h2 ⊢; omega⟩))
  have e : (fun i => if i = m then Option.none else cutS sl m i) = cutS sl (m + 1) := by
    funext i
    unfold cutS
    by_cases h1 : i = m
    · rw [if_pos h1, if_pos (by omega)]
    · rw [if_neg h1]
      by_cases h2 : i < m
      · rw [if_pos h2, if_pos (by omega)]
      · rw [if_neg h2, if_neg (by omega)]
  rw [e] at hs
  refine ⟨hs, ?_, ?_, ?_, h.low⟩
  · subst hw'
    exact own_keep hrow (fun k hk => Below.heap_setCell _ _ _ _ (fun e => own_not hrow hP (by rw [hk, e])))
  · exact hp.trans ((h.perm.append_right _).trans (ltP_succ now m l))
  · subst hw'
    exact hc.setCell (Or.inl (Or.inl rfl)) _
end
end Go.Proofs.Ytmmfmpnkjienfaa
