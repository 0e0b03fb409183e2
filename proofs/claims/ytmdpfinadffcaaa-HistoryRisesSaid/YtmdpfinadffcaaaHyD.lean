/-
  A history: Rows.
-/
import Derived.Test.YtmdpfinadffcaaaHyB
import Derived.Test.YtmdpfinadffcaaaHyC
import Derived.Test.YtmdpfinadffcaaaInPlain
import Derived.RangeFuncBox
import Derived.RangeFuncNested
namespace Go.Proofs.Ytmdpfinadffcaaa
open Go.RowKit Go.Shelf
set_option linter.unusedVariables false
attribute [local go_sem] Oper.semAt_some

/-- how a key with a histogram lies in a row -/
def eltR : Elt Try.prog Lr.E where
  st := 29
  e := 58
  z := .agg #[.string .empty, .int .i64 0, .int .i64 0, .int .i64 0, .int .i64 0, .int .i64 0, .int .i64 0, .int .i64 0, .int .i64 0, .int .i64 0, .int .i64 0, .int .i64 0, .int .i64 0, .int .i64 0, .int .i64 0, .int .i64 0, .int .i64 0]
  size := 17
  bytes := 144
  pv := fun p => (entC p.1 p.2).toList
  ht := Try.underlying29
  info := by kernel_rfl
  hz := rfl
  pos := by decide
  le := by decide
  len := fun p => by rw [Array.length_toList, entC_size]
  one := fun p u hu => entC_one p.1 p.2 u hu
/-- a slice of one, at a step of a region -/
theorem stepOne {ops : Array Oper} {o : Oper} {a : Act} {w : World} {K : Act → World → Prop} {Q : Exit → Act → World → Prop} {X : Prop} (x : Operand) (ho : o.op = .buildSlice 29 1 #[(0, x)]) (hw : Region.wanted o (yielded ops a.tmps) = true)
    (k : ByteArray) (v : Lr.V) (hx : a.eval x = .agg (entC k v)) (hK : K (a.put o.dst (.slice (some ⟨w.heap.size, 0, none⟩) 1 1)) (w.alloc (.cells (entC k v) 58))) : if Region.wanted o (yielded ops a.tmps) = true then Oper.wp Try.prog o a w K Q else X := by
  rw [if_pos hw]
  have e := parts1 a.eval x _ hx
  unfold Oper.wp execOp
  simp only [ho, e, Sem.run_bind, run_one k v w, Result.andThen_ok]
  exact hK

/-- in the course of Rows: w is where the call began, W0 where the loop began; the box of the history, that of the rows -/
structure RwQ (T : Nat) (G : Nat → Prop) (w W0 W : World) : Prop where
  t : Boxed W w.heap.size 26 (.pointer (some ⟨T, 0, none⟩))
  g : StayG G W0 W
  b : Below w.heap.size w W
  z : W0.heap.size ≤ W.heap.size
def RwV (w W : World) (v : Value) (rows : List Lr.E) : Prop := Boxed W (w.heap.size + 1) 29 v ∧ eltR.Row W w.heap.size v rows
theorem RwQ.next {T : Nat} {G : Nat → Prop} {w W0 W W' : World} (h : RwQ T G w W0 W) (hG : ∀ k, G k → k < W0.heap.size) (hb : Below W.heap.size W W') : RwQ T G w W0 W' :=
  ⟨(hb.block _ h.t.lt).trans h.t, fun k hk => (hb.block k (Nat.lt_of_lt_of_le (hG k hk) h.z)).trans (h.g k hk), h.b.trans (hb.mono h.b.size), Nat.le_trans h.z hb.size⟩
theorem RwV.next {w W W' : World} {v : Value} {rows : List Lr.E} (h : RwV w W v rows) (hb : Below W.heap.size W W') : RwV w W' v rows := ⟨(hb.block _ h.1.lt).trans h.1, h.2.below hb⟩
theorem ko_below {W W' : World} (hb : Below W.heap.size W W') : KeepsOthers W W' := ⟨hb.size, fun k o hk _ => (hb.block k (lt_block hk)).trans hk⟩
/-- behind the append, and behind the store -/
structure RwMid (T : Nat) (w : World) (v : Value) (w2 : World) : Prop where
  t : Boxed w2 w.heap.size 26 (.pointer (some ⟨T, 0, none⟩))
  c : w2.cell? ⟨w.heap.size + 1, 0, none⟩ = some v
  f : w2.frozen? ⟨w.heap.size + 1, 0, none⟩ = false
structure RwEnd (T : Nat) (G : Nat → Prop) (w W0 wA : World) (v : Value) (rows : List Lr.E) (w' : World) : Prop where
  t : Boxed w' w.heap.size 26 (.pointer (some ⟨T, 0, none⟩))
  q : RwQ T G w W0 w'
  v : RwV w w' v rows
  k : KeepsOthers wA w'
  g : StayG G wA w'
theorem rows_step {T : Nat} {G : Nat → Prop} {w W0 wA w2 : World} {v v' : Value} {rows : List Lr.E} {y : Lr.E} (q : RwQ T G w W0 wA) (hG : ∀ k, G k → k ≠ w.heap.size + 1 ∧ ∃ cur t, W0.heap[k]? = some (.cells cur t (0, 0)) ∧ 58 ≠ t) (hv : Boxed wA (w.heap.size + 1) 29 v) (hr : eltR.Row wA w.heap.size v rows)
    (hrow : eltR.Row w2 w.heap.size v' (rows ++ [y])) (hb2 : Below w.heap.size wA w2) (hkeep : ∀ k, k < wA.heap.size → some k ≠ v.ownBlock → w2.heap[k]? = wA.heap[k]?) :
    RwMid T w v w2 ∧ RwEnd T G w W0 wA v' (rows ++ [y]) (w2.setCell ⟨w.heap.size + 1, 0, none⟩ v') := by
  have n1 : some (w.heap.size + 1) ≠ v.ownBlock := own_ne hr hv (by decide)
  have n0 : some w.heap.size ≠ v.ownBlock := own_ne hr q.t (by decide)
  have hv2 : Boxed w2 (w.heap.size + 1) 29 v := (hkeep _ hv.lt n1).trans hv
  have ht2 : Boxed w2 w.heap.size 26 (.pointer (some ⟨T, 0, none⟩)) := (hkeep _ q.t.lt n0).trans q.t
  have n2 : some (w.heap.size + 1) ≠ v'.ownBlock := own_ne hrow hv2 (by decide)
  have ht3 : Boxed (w2.setCell ⟨w.heap.size + 1, 0, none⟩ v') w.heap.size 26 (.pointer (some ⟨T, 0, none⟩)) := (Below.heap_setCell _ _ _ _ (by simp)).trans ht2
  have hst : StayG G wA (w2.setCell ⟨w.heap.size + 1, 0, none⟩ v') := fun k hk => by
    obtain ⟨g1, cur, t, g2, g3⟩ := hG k hk
    have g4 := (q.g k hk).trans g2
    exact (Below.heap_setCell _ _ _ _ g1).trans (hkeep k (lt_block g4) (own_ne hr g4 g3))
  have hbw : Below w.heap.size wA (w2.setCell ⟨w.heap.size + 1, 0, none⟩ v') := hb2.setCell (p := ⟨w.heap.size + 1, 0, none⟩) (by show w.heap.size ≤ w.heap.size + 1; omega) _
  refine ⟨⟨ht2, hv2.cell, hv2.frozen⟩, ht3, ⟨ht3, stayG_t q.g hst, q.b.trans hbw, Nat.le_trans q.z hbw.size⟩, ⟨hv2.set v', hrow.keep (fun k hk => Below.heap_setCell _ _ _ _ (fun e => n2 (by rw [hk]; exact congrArg some e.symm)))⟩, ⟨hbw.size, fun k o hk ho => ?_⟩, hst⟩
  have m1 : k ≠ w.heap.size + 1 := fun e => by
    rw [e, show wA.heap[w.heap.size + 1]? = _ from hv] at hk
    cases hk
    cases ho
  have m2 : some k ≠ v.ownBlock := fun e => by
    obtain ⟨_, ⟨rfl, _⟩ | ⟨g, cap, cur, rfl, _, hc, _⟩⟩ := hr
    · simp [Value.ownBlock] at e
    · simp [Value.ownBlock] at e
      subst e
      rw [hc] at hk
      cases hk
      cases ho
  exact (Below.heap_setCell _ _ _ _ m1).trans ((hkeep k (lt_block hk) m2).trans hk)

/-- the rows that these places stand for -/
def rowsI (l : List Lr.E) (pre : List (Ix (Lr.keys l))) : List Lr.E := pre.map fun x => ((Lr.keys l)[x.1]?.getD .empty, Hy.valOf l ((Lr.keys l)[x.1]?.getD .empty))
theorem rowsI_all {l : List Lr.E} (hg : Lr.Good l) {xs : List (Ix (Lr.keys l))} (h : AllI xs) : rowsI l xs = l.reverse := by
  have e : rowsI l xs = (xs.map (·.1)).map (fun i => ((Lr.keys l)[i]?.getD .empty, Hy.valOf l ((Lr.keys l)[i]?.getD .empty))) := by unfold rowsI; rw [List.map_map]; rfl
  rw [e, h, List.map_reverse]
  congr 1
  refine List.ext_getElem (by simp [Lr.keys]) fun i h1 h2 => ?_
  have hk : (Lr.keys l)[i]?.getD .empty = l[i].1 := by
    simp [Lr.keys, List.getElem?_eq_getElem h2]
  rw [List.getElem_map, List.getElem_range, hk]
  unfold Hy.valOf
  rw [Lr.find_at hg h2]
  rfl
theorem rowsI_snoc (l : List Lr.E) (pre : List (Ix (Lr.keys l))) (x : Ix (Lr.keys l)) : rowsI l (pre ++ [x]) = rowsI l pre ++ [((Lr.keys l)[x.1]?.getD .empty, Hy.valOf l ((Lr.keys l)[x.1]?.getD .empty))] := by simp [rowsI]
/-- what a round finds and leaves -/
def RwI (T : Nat) (G : Nat → Prop) (w W0 : World) (l : List Lr.E) (pre : List (Ix (Lr.keys l))) (W : World) : Prop := ∃ v, RwV w W v (rowsI l pre) ∧ RwQ T G w W0 W
theorem rwI_own {T : Nat} {G : Nat → Prop} {w W0 : World} {l : List Lr.E} (hG : ∀ k, G k → k < W0.heap.size) (hz : w.heap.size ≤ W0.heap.size) : OwnFrom W0.heap.size (RwI T G w W0 l) := by
  rintro s A B row ⟨v, ⟨h1, h2⟩, h3⟩ hg hr
  obtain ⟨v2, g1, g2, _⟩ := (holdsRow_own (β := List (Ix (Lr.keys l))) w.heap.size (w.heap.size + 1) 29 58 17 (fun s => (rowsI l s).length) (fun s => eltR.cells (rowsI l s)) (fun _ _ => True)) s A B row ⟨v, h1, h2, trivial⟩ hg (fun r e => (hr r e).2)
  refine ⟨v2, ⟨g1, g2⟩, h3.t.kept hg (fun e => ?_), fun k hk => (hg.block k (Nat.lt_of_lt_of_le (hG k hk) h3.z) (fun e => ?_)).trans (h3.g k hk), h3.b.grown hg h3.b.size (fun k e => Nat.le_trans hz (hr k e).1), Nat.le_trans h3.z hg.size⟩
  · obtain ⟨_, o, ho, hc⟩ := hr _ e.symm
    rw [show A.heap[w.heap.size]? = _ from h3.t] at ho
    cases ho
    cases hc
  · have := (hr k e.symm).1
    have := hG k hk
    omega

/-- it returns a row of one's own of these -/
structure RetRows (l : List Lr.E) (w : World) (e : Ending) (w' : World) : Prop where
  r : ∃ v, e = .returned v ∧ eltR.Row w' w.heap.size v l
  b : Below w.heap.size w w'
end Go.Proofs.Ytmdpfinadffcaaa
