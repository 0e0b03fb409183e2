/-
  Rows of pairs; the document's Find and Parse.
-/
import Derived.Test.YtmfnfjcoaijjdaaDoorPropC
import Derived.StillTailTactics
import Derived.BigRegion
namespace Go.Proofs.YtmfnfjcoaijjdaaDoor
open Go.RowKit
set_option linter.unusedVariables false

/-- the two cells of a pair -/
def pv (p : Pr.Pair) : List Value := [.string (mk p.1), .string (mk p.2)]
/-- the cells of pairs -/
def cellsP (l : List Pr.Pair) : List Value := l.flatMap pv
theorem cellsP_snoc (l : List Pr.Pair) (p : Pr.Pair) : cellsP l ++ [.string (mk p.1), .string (mk p.2)] = cellsP (l ++ [p]) := by simp [cellsP, pv]
theorem cellsP_length : ∀ l : List Pr.Pair, (cellsP l).length = l.length * 2
  | [] => rfl
  | p :: r => by
    have := cellsP_length r
    show (pv p ++ cellsP r).length = _
    rw [List.length_append, this, List.length_cons]
    simp [pv]; omega
theorem cellsP_get : ∀ (l : List Pr.Pair) (j : Nat) (h : j < l.length), (cellsP l)[j * 2]? = some (.string (mk l[j].1)) ∧ (cellsP l)[j * 2 + 1]? = some (.string (mk l[j].2))
  | p :: r, 0, h => ⟨rfl, rfl⟩
  | p :: r, j + 1, h => by
    have h' : j < r.length := by simp at h; omega
    obtain ⟨h1, h2⟩ := cellsP_get r j h'
    have e : ∀ k, (cellsP (p :: r))[k + 2]? = (cellsP r)[k]? := fun k => rfl
    rw [show (j + 1) * 2 = j * 2 + 2 by omega, show j * 2 + 2 + 1 = (j * 2 + 1) + 2 by omega, e, e]
    exact ⟨h1, h2⟩

/-- a slice, whose row is of this call's own blocks, that holds these pairs -/
def Row (w : World) (B : Nat) (v : Value) (l : List Pr.Pair) : Prop := w.ownsRow B 39 2 v l.length (cellsP l)
theorem infoPair : (Tryd.prog.info? 39).map (fun i => (i.zero, i.size, i.bytes)) = some (some (.agg #[.string .empty, .string .empty]), 2, 32) := by kernel_rfl
theorem Row.below {w w' : World} {B : Nat} {v : Value} {l : List Pr.Pair} (h : Row w B v l) (hb : Below w.heap.size w w') : Row w' B v l := own_below h hb
theorem Row.drew {w : World} {B : Nat} {v : Value} {l : List Pr.Pair} (h : Row w B v l) : Row w.drew B v l := h
theorem Row.base {w : World} {B B' : Nat} {v : Value} {l : List Pr.Pair} (h : Row w B v l) (hb : B' ≤ B) : Row w B' v l := own_base h hb
theorem Row.nil (w : World) (B : Nat) : Row w B (.slice none 0 0) [] := World.ownsRow_nil w B _ 2
theorem Row.lit (w : World) (B : Nat) (hB : B ≤ w.heap.size) : Row (w.alloc (.cells #[] 39)) B (.slice (some ⟨w.heap.size, 0, none⟩) 0 0) [] := own_lit w B _ 2 hB
theorem Row.snoc {w : World} {B n : Nat} {v : Value} {l : List Pr.Pair} {p : Pr.Pair} (h : w.ownsRow B 39 2 v (l.length + 1) (cellsP l ++ [.string (mk p.1), .string (mk p.2)])) : Row w B v (l ++ [p]) := by
  rw [cellsP_snoc] at h
  unfold Row
  rw [List.length_append]
  exact h

/-- the cells that a slice of pairs stands for -/
structure View (w : World) (a : Option Addr) (l : List Pr.Pair) : Prop where
  is : 0 < l.length → ∃ g, a = some ⟨g, 0, none⟩ ∧ g < w.heap.size ∧ ∀ j (h : j < l.length), w.cell? ⟨g, j * 2, none⟩ = some (.string (mk l[j].1)) ∧ w.cell? ⟨g, j * 2 + 1, none⟩ = some (.string (mk l[j].2))
theorem View.below {w w' : World} {a : Option Addr} {l : List Pr.Pair} (h : View w a l) (hb : Below w.heap.size w w') : View w' a l := by
  refine ⟨fun h0 => ?_⟩
  obtain ⟨g, ha, hg, hc⟩ := h.is h0
  refine ⟨g, ha, Nat.lt_of_lt_of_le hg hb.size, fun j hj => ?_⟩
  rw [hb.cell (p := ⟨g, _, none⟩) hg, hb.cell (p := ⟨g, _, none⟩) hg]
  exact hc j hj
theorem Row.view {w : World} {B : Nat} {v : Value} {l : List Pr.Pair} (h : Row w B v l) : ∃ a cap, v = .slice a l.length cap ∧ View w a l := by
  obtain ⟨hl, ⟨rfl, h0⟩ | ⟨g, cap, cur, rfl, hg, hc, hn, hm, hs, hx⟩⟩ := h
  · exact ⟨none, 0, by rw [h0], ⟨fun h => by omega⟩⟩
  · refine ⟨_, cap, rfl, ⟨fun h0 => ⟨g, rfl, lt_block hc, fun j hj => ?_⟩⟩⟩
    obtain ⟨e1, e2⟩ := cellsP_get l j hj
    have hcell : ∀ k, k < l.length * 2 → w.cell? ⟨g, k, none⟩ = (cellsP l)[k]? := fun k hk => by
      rw [cell_of_row w g k cur _ _ hc, ← hx, List.getElem?_take_of_lt hk]
      simp
    exact ⟨by rw [hcell _ (by omega), e1], by rw [hcell _ (by omega), e2]⟩

/-- it returns pairs and an error number -/
structure RetRow (x : Int × List Pr.Pair) (w : World) (e : Ending) (w' : World) : Prop where
  r : ∃ v, e = .returned (.tuple #[v, .int .i64 x.1]) ∧ Row w' w.heap.size v x.2
  b : Below w.heap.size w w'

theorem eqB (x y : Pr.B) : ((mk x).toList == (mk y).toList) = decide (x = y) := by
  rw [toList_bl, toList_bl, bl_mk', bl_mk', Bool.eq_iff_iff]; simp
theorem find_step (l : List Pr.Pair) (k : Pr.B) (j : Nat) (hj : j < l.length) (h : l[j].1 ≠ k) : Pr.findK (l.drop j) k = Pr.findK (l.drop (j + 1)) k := by
  rw [List.drop_eq_getElem_cons hj, Pr.findK_cons, if_neg h]
theorem find_here (l : List Pr.Pair) (k : Pr.B) (j : Nat) (hj : j < l.length) (h : l[j].1 = k) : Pr.findK (l.drop j) k = some l[j].2 := by
  rw [List.drop_eq_getElem_cons hj, Pr.findK_cons, if_pos h]

set_option maxHeartbeats 1000000 in
set_option maxRecDepth 100000 in
theorem refFindC (a : Option Addr) (cap : Nat) (l : List Pr.Pair) (k : Pr.B) (w : World) (hV : View w a l) (hl : l.length ≤ 1000000) :
    Calls Tryd.prog 21 #[.slice a l.length cap, .string (mk k)] w (Ret (.tuple #[.string (mk ((Pr.findK l k).getD [])), .bool (Pr.findK l k).isSome]) w) := by
  obtain ⟨r, hr⟩ : ∃ r, Pr.findK l k = r := ⟨_, rfl⟩
  rw [hr]
  have HR := Lib.hid hr; clear hr
  have HV := Lib.hid hV; clear hV
  go_enter Tryd.func21, Tryd.ntmps21
  go_wp2
  go_loop [6] (fun i => ∃ j : Nat, j ≤ l.length ∧ i = .int .i64 (j : Int) ∧ Hid (Pr.findK (l.drop j) k = r)) (fun i => l.length - (intOf i).toNat)
  case atStart => exact ⟨0, by omega, rfl, HR⟩
  case round =>
    obtain ⟨j, hj, rfl, hf⟩ := hrel
    by_cases hlt : j < l.length
    · obtain ⟨g, rfl, hg, hc⟩ := HV.out.is (by omega)
      obtain ⟨c1, c2⟩ := hc j hlt
      have he := eqB l[j].1 k
      have hs := find_step l k j hlt
      have hh := find_here l k j hlt
      clear hc
      generalize l[j] = p at *
      by_cases hk : p.1 = k
      · rw [decide_eq_true hk] at he
        have hr2 : r = some p.2 := by rw [← hf.out]; exact hh hk
        subst hr2
        clear hs hh hf hk HR
        go_wp2
        go_ret2
        exact ⟨rfl, Below.refl _ _⟩
      · rw [decide_eq_false hk] at he
        have hr2 := Lib.hid (show Pr.findK (l.drop (j + 1)) k = r by rw [← hs hk]; exact hf.out)
        clear hs hh hf hk HR
        go_wp2
        go_round
        case rel => exact ⟨j + 1, by omega, by go_num, hr2⟩
        case measure => simp [intOf]; omega
    · obtain rfl : j = l.length := by omega
      have hr2 : r = none := by rw [← hf.out, List.drop_length]; rfl
      subst hr2
      clear hf HR
      go_wp2
      go_ret2
      exact ⟨rfl, Below.refl _ _⟩
end Go.Proofs.YtmfnfjcoaijjdaaDoor
