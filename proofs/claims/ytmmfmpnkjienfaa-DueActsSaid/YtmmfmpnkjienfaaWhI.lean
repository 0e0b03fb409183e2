/-
  How the program's wheel lies: its cells, its map of all elements, the maps of its slots.
-/
import Derived.Test.YtmmfmpnkjienfaaWhF
namespace Go.Proofs.Ytmmfmpnkjienfaa
open Go.RowKit
set_option linter.unusedVariables false

/-- the place of a tick -/
def pl (now a : Int) : Nat := Wh.plc now.toNat a.toNat
/-- the elements at place j -/
def atP (now : Int) (l : List Wh.E) (j : Nat) : List Wh.E := l.filter (fun e => decide (pl now e.2 = j))
theorem atP_mem {now : Int} {l : List Wh.E} {j : Nat} {e : Wh.E} : e ∈ atP now l j ↔ e ∈ l ∧ pl now e.2 = j := by simp [atP]
theorem atP_snoc (now : Int) (l : List Wh.E) (e : Wh.E) (j : Nat) : atP now (l ++ [e]) j = if pl now e.2 = j then atP now l j ++ [e] else atP now l j := by
  unfold atP
  by_cases h : pl now e.2 = j <;> simp [h]
theorem atP_without (now : Int) (l : List Wh.E) (id : Int) (j : Nat) : atP now (Wh.without l id) j = Wh.without (atP now l j) id := by
  unfold atP Wh.without
  rw [List.filter_filter, List.filter_filter]
  congr 1
  funext e
  exact Bool.and_comm _ _
/-- every number and every tick is in its range -/
def Wf (l : List Wh.E) : Prop := ∀ e ∈ l, (Lit.int .i64 e.1).wf = true ∧ (Lit.int .u64 e.2).wf = true

/-- the wheel at P: lt in its map, ls in its slots, sl the slots' blocks -/
structure WAt (w : World) (B P : Nat) (now : Int) (lt ls : List Wh.E) (T : Nat) (sl : Nat → Option Nat) : Prop where
  row : ∃ cur, w.heap[P]? = some (.cells cur 73 (0, 0)) ∧ cur.size = 258 ∧ cur[0]? = some (.int .u64 now) ∧ cur[1]? = some (.map (some T)) ∧ ∀ j, j < 256 → cur[j + 2]? = some (.map (sl j))
  tm : MapE w T lt
  sm : ∀ j, j < 256 → ∀ b, sl j = some b → MapE w b (atP now ls j)
  sn : ∀ j, j < 256 → sl j = none → atP now ls j = []
  bP : B ≤ P
  bT : B ≤ T
  bS : ∀ j, j < 256 → ∀ b, sl j = some b → B ≤ b
  neT : ∀ j, j < 256 → ∀ b, sl j = some b → b ≠ T
  inj : ∀ i, i < 256 → ∀ j, j < 256 → ∀ b, sl i = some b → sl j = some b → i = j
  now : (Lit.int .u64 now).wf = true
  wf : Wf ls
/-- its blocks -/
def WF (P T : Nat) (sl : Nat → Option Nat) (k : Nat) : Prop := k = P ∨ k = T ∨ ∃ j, j < 256 ∧ sl j = some k

theorem MapE.cells {w : World} {b : Nat} {l : List Wh.E} {cur : Array Value} {t : TypeId} {fr : Nat × Nat} {k : Nat} (h : MapE w b l) (hk : w.heap[k]? = some (.cells cur t fr)) : k ≠ b := by
  obtain ⟨D, ⟨es, clock, hm, r⟩, hD⟩ := h
  intro e
  subst e
  rw [hm] at hk
  cases hk
section
variable {w w' : World} {B P T : Nat} {now : Int} {lt ls : List Wh.E} {sl : Nat → Option Nat}
theorem WAt.neP (h : WAt w B P now lt ls T sl) : P ≠ T := by
  obtain ⟨cur, hc, _⟩ := h.row
  exact h.tm.cells hc
theorem WAt.nePs (h : WAt w B P now lt ls T sl) (j : Nat) (hj : j < 256) (b : Nat) (hb : sl j = some b) : P ≠ b := by
  obtain ⟨cur, hc, _⟩ := h.row
  exact (h.sm j hj b hb).cells hc
theorem WAt.bounds (h : WAt w B P now lt ls T sl) (k : Nat) (hk : WF P T sl k) : B ≤ k ∧ k < w.heap.size := by
  rcases hk with rfl | rfl | ⟨j, hj, hb⟩
  · obtain ⟨cur, hc, _⟩ := h.row
    exact ⟨h.bP, lt_block hc⟩
  · exact ⟨h.bT, h.tm.lt⟩
  · exact ⟨h.bS j hj k hb, (h.sm j hj k hb).lt⟩
theorem WAt.keep (h : WAt w B P now lt ls T sl) (hk : ∀ k, WF P T sl k → w'.heap[k]? = w.heap[k]?) : WAt w' B P now lt ls T sl := by
  obtain ⟨cur, hc, r⟩ := h.row
  exact { h with
    row := ⟨cur, (hk P (Or.inl rfl)).trans hc, r⟩
    tm := h.tm.keep (hk T (Or.inr (Or.inl rfl)))
    sm := fun j hj b hb => (h.sm j hj b hb).keep (hk b (Or.inr (Or.inr ⟨j, hj, hb⟩))) }
theorem WAt.below (h : WAt w B P now lt ls T sl) (hb : Below w.heap.size w w') : WAt w' B P now lt ls T sl := h.keep (fun k hk => hb.block k (h.bounds k hk).2)
theorem WAt.now0 (h : WAt w B P now lt ls T sl) : w.cell? ⟨P, 0, none⟩ = some (.int .u64 now) := by
  obtain ⟨cur, hc, _, c0, _⟩ := h.row
  rw [cell_of_row w P 0 cur _ _ hc, c0]
theorem WAt.map1 (h : WAt w B P now lt ls T sl) : w.cell? ⟨P, 1, none⟩ = some (.map (some T)) := by
  obtain ⟨cur, hc, _, _, c1, _⟩ := h.row
  rw [cell_of_row w P 1 cur _ _ hc, c1]
theorem WAt.slot (h : WAt w B P now lt ls T sl) (j : Nat) (hj : j < 256) : w.cell? ⟨P, j + 2, none⟩ = some (.map (sl j)) := by
  obtain ⟨cur, hc, _, _, _, c⟩ := h.row
  rw [cell_of_row w P (j + 2) cur _ _ hc, c j hj]
theorem WAt.frozen (h : WAt w B P now lt ls T sl) (i : Nat) : w.frozen? ⟨P, i, none⟩ = false := by
  obtain ⟨cur, hc, _⟩ := h.row
  exact frozen_of w P i cur _ hc
/-- a slot's cell is written: what the slot's map then holds is told apart -/
theorem WAt.setSlot (h : WAt w B P now lt ls T sl) (j : Nat) (hj : j < 256) (x : Option Nat) (ls' : List Wh.E) (hw' : w' = w.setCell ⟨P, j + 2, none⟩ (.map x))
    (hx : ∀ b, x = some b → MapE w b (atP now ls' j) ∧ B ≤ b ∧ b ≠ T ∧ ∀ i, i < 256 → i ≠ j → sl i ≠ some b) (hx0 : x = none → atP now ls' j = []) (ho : ∀ i, i < 256 → i ≠ j → atP now ls' i = atP now ls i) (hwf : Wf ls') :
    WAt w' B P now lt ls' T (fun i => if i = j then x else sl i) := by
  subst hw'
  obtain ⟨cur, hc, hs, c0, c1, c⟩ := h.row
  have hP := setCell_block w P (j + 2) cur _ (.map x) hc
  have hoth : ∀ k, k ≠ P → (w.setCell ⟨P, j + 2, none⟩ (.map x)).heap[k]? = w.heap[k]? := fun k hk => Below.heap_setCell _ _ _ _ hk
  refine { row := ⟨_, hP, by simp [hs], ?_, ?_, fun i hi => ?_⟩, tm := h.tm.keep (hoth T h.neP.symm), sm := fun i hi b hb => ?_, sn := fun i hi hb => ?_, bP := h.bP, bT := h.bT, bS := fun i hi b hb => ?_, neT := fun i hi b hb => ?_, inj := fun i hi i' hi' b hb hb' => ?_, now := h.now, wf := hwf }
  · rw [Array.getElem?_setIfInBounds_ne (by omega)]; exact c0
  · rw [Array.getElem?_setIfInBounds_ne (by omega)]; exact c1
  · by_cases e : i = j
    · subst e
      rw [if_pos rfl, Array.getElem?_setIfInBounds_self_of_lt (by omega)]
    · rw [if_neg e, Array.getElem?_setIfInBounds_ne (by omega)]
      exact c i hi
  · by_cases e : i = j
    · subst e
      rw [if_pos rfl] at hb
      exact (hx b hb).1.keep (hoth b ((hx b hb).1.cells hc).symm)
    · rw [if_neg e] at hb
      rw [ho i hi e]
      exact (h.sm i hi b hb).keep (hoth b (h.nePs i hi b hb).symm)
  · by_cases e : i = j
    · subst e
      rw [if_pos rfl] at hb
      exact hx0 hb
    · rw [if_neg e] at hb
      rw [ho i hi e]
      exact h.sn i hi hb
  · by_cases e : i = j
    · rw [if_pos e] at hb; exact (hx b hb).2.1
    · rw [if_neg e] at hb; exact h.bS i hi b hb
  · by_cases e : i = j
    · rw [if_pos e] at hb; exact (hx b hb).2.2.1
    · rw [if_neg e] at hb; exact h.neT i hi b hb
  · by_cases e : i = j
    · by_cases e' : i' = j
      · omega
      · rw [if_pos e] at hb
        rw [if_neg e'] at hb'
        exact absurd hb' ((hx b hb).2.2.2 i' hi' e')
    · by_cases e' : i' = j
      · rw [if_neg e] at hb
        rw [if_pos e'] at hb'
        exact absurd hb ((hx b hb').2.2.2 i hi e)
      · rw [if_neg e] at hb
        rw [if_neg e'] at hb'
        exact h.inj i hi i' hi' b hb hb'
/-- the map of a slot is written -/
theorem WAt.writeSlot (h : WAt w B P now lt ls T sl) (j : Nat) (hj : j < 256) (b : Nat) (hb : sl j = some b) (ls' : List Wh.E) (hM : MapE w' b (atP now ls' j)) (hc : Chg (fun k => k = b) w w')
    (ho : ∀ i, i < 256 → i ≠ j → atP now ls' i = atP now ls i) (hwf : Wf ls') : WAt w' B P now lt ls' T sl := by
  obtain ⟨cur, hr, r⟩ := h.row
  refine { row := ⟨cur, hc.keep hr (h.nePs j hj b hb), r⟩, tm := h.tm.keep (hc.block T h.tm.lt (fun e => h.neT j hj b hb e.symm)), sm := fun i hi b' hb' => ?_, sn := fun i hi hn => ?_, bP := h.bP, bT := h.bT, bS := h.bS, neT := h.neT, inj := h.inj, now := h.now, wf := hwf }
  · by_cases e : i = j
    · subst e
      rw [hb] at hb'
      cases hb'
      exact hM
    · rw [ho i hi e]
      exact (h.sm i hi b' hb').keep (hc.block b' (h.sm i hi b' hb').lt (fun e2 => e (h.inj i hi j hj b' hb' (e2 ▸ hb))))
  · by_cases e : i = j
    · subst e; rw [hb] at hn; cases hn
    · rw [ho i hi e]; exact h.sn i hi hn
/-- the map of all is written -/
theorem WAt.writeMap (h : WAt w B P now lt ls T sl) (lt' : List Wh.E) (hM : MapE w' T lt') (hc : Chg (fun k => k = T) w w') : WAt w' B P now lt' ls T sl := by
  obtain ⟨cur, hr, r⟩ := h.row
  exact { h with
    row := ⟨cur, hc.keep hr h.neP, r⟩
    tm := hM
    sm := fun i hi b hb => (h.sm i hi b hb).keep (hc.block b (h.sm i hi b hb).lt (h.neT i hi b hb)) }
/-- the tick is written: the slots must stay right -/
theorem WAt.setNow (h : WAt w B P now lt ls T sl) (n' : Int) (hw' : w' = w.setCell ⟨P, 0, none⟩ (.int .u64 n')) (hn : (Lit.int .u64 n').wf = true) (ho : ∀ i, i < 256 → atP n' ls i = atP now ls i) : WAt w' B P n' lt ls T sl := by
  subst hw'
  obtain ⟨cur, hc, hs, c0, c1, c⟩ := h.row
  have hP := setCell_block w P 0 cur _ (.int .u64 n') hc
  have hoth : ∀ k, k ≠ P → (w.setCell ⟨P, 0, none⟩ (.int .u64 n')).heap[k]? = w.heap[k]? := fun k hk => Below.heap_setCell _ _ _ _ hk
  refine { row := ⟨_, hP, by simp [hs], ?_, ?_, fun i hi => ?_⟩, tm := h.tm.keep (hoth T h.neP.symm), sm := fun i hi b hb => ?_, sn := fun i hi hb => ?_, bP := h.bP, bT := h.bT, bS := h.bS, neT := h.neT, inj := h.inj, now := hn, wf := h.wf }
  · rw [Array.getElem?_setIfInBounds_self_of_lt (by omega)]
  · rw [Array.getElem?_setIfInBounds_ne (by omega)]; exact c1
  · rw [Array.getElem?_setIfInBounds_ne (by omega)]; exact c i hi
  · rw [ho i hi]; exact (h.sm i hi b hb).keep (hoth b (h.nePs i hi b hb).symm)
  · rw [ho i hi]; exact h.sn i hi hb
end
/-- the wheel at P, and its blocks -/
def WIs : WS := fun w B P now l F => ∃ T sl, WAt w B P now l l T sl ∧ F = WF P T sl
end Go.Proofs.Ytmmfmpnkjienfaa
