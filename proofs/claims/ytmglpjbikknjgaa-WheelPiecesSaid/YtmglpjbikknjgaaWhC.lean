/-
  The document's wheel behind its pointer: Put.
-/
import Derived.Test.YtmglpjbikknjgaaWhB
import Derived.Test.YtmglpjbikknjgaaFoot
namespace Go.Proofs.Ytmglpjbikknjgaa
open Go.RowKit
set_option linter.unusedVariables false

/-- block R is the document's wheel: its tick, its list in the slice v -/
structure Ref (w : World) (B R : Nat) (now : Int) (v : Value) (l : List Wh.E) : Prop where
  cell : w.heap[R]? = some (.cells #[.int .u64 now, v] 30)
  row : RowE w B v l
  base : B ≤ R
/-- its blocks -/
def RefF (R : Nat) (v : Value) (k : Nat) : Prop := k = R ∨ v.ownBlock = some k
theorem Ref.ne {w : World} {B R : Nat} {now : Int} {v : Value} {l : List Wh.E} (h : Ref w B R now v l) : some R ≠ v.ownBlock := own_ne h.row h.cell (by decide)
theorem Ref.lt {w : World} {B R : Nat} {now : Int} {v : Value} {l : List Wh.E} (h : Ref w B R now v l) : ∀ k, RefF R v k → B ≤ k ∧ k < w.heap.size := by
  rintro k (rfl | hk)
  · exact ⟨h.base, lt_block h.cell⟩
  · exact World.ownsRow.lt h.row k hk
theorem Ref.keep {w w' : World} {B R : Nat} {now : Int} {v : Value} {l : List Wh.E} (h : Ref w B R now v l) (hk : ∀ k, RefF R v k → w'.heap[k]? = w.heap[k]?) : Ref w' B R now v l :=
  ⟨(hk R (Or.inl rfl)).trans h.cell, own_keep h.row (fun k e => hk k (Or.inr e)), h.base⟩
theorem Ref.below {w w' : World} {B R : Nat} {now : Int} {v : Value} {l : List Wh.E} (h : Ref w B R now v l) (hb : Below w.heap.size w w') : Ref w' B R now v l :=
  h.keep (fun k hk => hb.block k (h.lt k hk).2)
/-- behind a change of another's blocks -/
theorem Ref.apart {w w' : World} {B R : Nat} {now : Int} {v : Value} {l : List Wh.E} {F : Nat → Prop} (h : Ref w B R now v l) (hc : Chg F w w') (hd : ∀ k, RefF R v k → ¬ F k) : Ref w' B R now v l :=
  h.keep (fun k hk => hc.block k (h.lt k hk).2 (hd k hk))

/-- it returns r; the document's wheel holds l' -/
structure RetRef (r : Value) (B R : Nat) (now : Int) (v : Value) (l' : List Wh.E) (w : World) (e : Ending) (w' : World) : Prop where
  r : e = .returned r
  s : ∃ v', Ref w' B R now v' l' ∧ ∀ k, v'.ownBlock = some k → v.ownBlock = some k ∨ w.heap.size ≤ k
  c : Chg (RefF R v) w w'
theorem own_slice {w : World} {B : Nat} {e : TypeId} {size : Nat} {v : Value} {n : Nat} {xs : List Value} (h : w.ownsRow B e size v (n + 1) xs) : ∃ g cap : Nat, v = .slice (some ⟨g, 0, none⟩) (n + 1) cap := by
  obtain ⟨_, h | ⟨g, cap, cur, hv, _⟩⟩ := h
  · omega
  · exact ⟨g, cap, hv⟩
theorem own_some {w : World} {B : Nat} {e : TypeId} {size : Nat} {v : Value} {n : Nat} {xs : List Value} (h : w.ownsRow B e size v n xs) : ∃ a cap, v = .slice a n cap := by
  obtain ⟨_, ⟨hv, h0⟩ | ⟨g, cap, cur, hv, _⟩⟩ := h
  · exact ⟨none, 0, by rw [hv, h0]⟩
  · exact ⟨_, cap, hv⟩
/-- the wheel behind a store of its list -/
theorem ref_stored {w : World} {B R : Nat} {now : Int} {v v' : Value} {l' : List Wh.E} (hc : w.heap[R]? = some (.cells #[.int .u64 now, v] 30)) (hr : RowE w B v' l') (hB : B ≤ R) : Ref (w.setCell ⟨R, 1, none⟩ v') B R now v' l' := by
  have h1 := setCell_block w R 1 _ _ v' hc
  have hne : some R ≠ v'.ownBlock := own_ne hr hc (by decide)
  refine ⟨h1, own_keep hr (fun k hk => Below.heap_setCell _ _ _ _ ?_), hB⟩
  intro e
  exact hne (by rw [hk]; exact congrArg some e.symm)
theorem alloc_lt (w : World) (o : Obj) : w.heap.size < (w.alloc o).heap.size := by simp

set_option maxRecDepth 100000 in
set_option maxHeartbeats 2000000 in
theorem refPutNeg (id at_ now : Int) (B R : Nat) (v : Value) (l : List Wh.E) (w : World) (h : Ref w B R now v l) (hid : id < 0) :
    Calls Try.prog 10 #[.pointer (some ⟨R, 0, none⟩), .int .i64 id, .int .u64 at_] w (RetRef (.int .i64 1) B R now v l w) := by
  have H := Lib.hid h; clear h
  go_enter Try.func10, Try.ntmps10
  go_wp2
  go_ret
  exact ⟨rfl, ⟨v, H.out, fun k e => Or.inl e⟩, Chg.refl _ _⟩
set_option maxRecDepth 100000 in
set_option maxHeartbeats 2000000 in
theorem refPutThere (id at_ now : Int) (B R : Nat) (v : Value) (l : List Wh.E) (w : World) (h : Ref w B R now v l) (hl : l.length ≤ 1000000) (hid : ¬ id < 0) (hh : Wh.has l id = true) :
    Calls Try.prog 10 #[.pointer (some ⟨R, 0, none⟩), .int .i64 id, .int .u64 at_] w (RetRef (.int .i64 8) B R now v l w) := by
  obtain ⟨a, cap, rfl, hv⟩ := h.row.view
  have c0 : w.cell? ⟨R, 0, none⟩ = some (.int .u64 now) := by rw [cell_of_row w R _ _ _ _ h.cell]; rfl
  have c1 : w.cell? ⟨R, 1, none⟩ = some (.slice a l.length cap) := by rw [cell_of_row w R _ _ _ _ h.cell]; rfl
  have ka := fun W hV => refAtC now id a cap l W hl hV
  unfold atV at ka
  rw [show (Wh.find l id).isSome = true from hh] at ka
  have KA := Lib.hid ka; clear ka hh
  have HV := Lib.hid hv; clear hv
  have H := Lib.hid h; clear h
  go_enter Try.func10, Try.ntmps10
  go_wp2_with (go_at_call 23; (with_reducible refine (KA.out _ HV.out).mono ?_); rintro e wA ⟨rfl, hbA⟩)
  go_ret
  exact ⟨rfl, ⟨_, H.out.below hbA, fun k e => Or.inl e⟩, Chg.of_below hbA⟩
set_option maxRecDepth 100000 in
set_option maxHeartbeats 2000000 in
theorem refPutNew (id at_ now : Int) (B R : Nat) (v : Value) (l : List Wh.E) (w : World) (h : Ref w B R now v l) (hl : l.length ≤ 1000000) (hid : ¬ id < 0) (hh : Wh.has l id = false) :
    Calls Try.prog 10 #[.pointer (some ⟨R, 0, none⟩), .int .i64 id, .int .u64 at_] w (RetRef (.int .i64 0) B R now v (l ++ [(id, at_)]) w) := by
  obtain ⟨a, cap, rfl, hv⟩ := h.row.view
  have c0 : w.cell? ⟨R, 0, none⟩ = some (.int .u64 now) := by rw [cell_of_row w R _ _ _ _ h.cell]; rfl
  have c1 : w.cell? ⟨R, 1, none⟩ = some (.slice a l.length cap) := by rw [cell_of_row w R _ _ _ _ h.cell]; rfl
  have ka := fun W hV => refAtC now id a cap l W hl hV
  unfold atV at ka
  rw [show (Wh.find l id).isSome = false from hh] at ka
  have KA := Lib.hid ka; clear ka hh
  have HV := Lib.hid hv; clear hv
  have hne := Lib.hid h.ne
  have hR := lt_block h.cell
  have hBR := h.base
  have H := Lib.hid h; clear h
  go_enter Try.func10, Try.ntmps10
  go_wp2_with (first | (go_at_call 23; (with_reducible refine (KA.out _ HV.out).mono ?_); rintro e wA ⟨rfl, hbA⟩; have HA := Lib.hid (H.out.below hbA); have hOA : wA.ownsRow B 51 3 (.slice a l.length cap) l.length (cellsE l) := HA.out.row; have d1 : wA.cell? ⟨R, 1, none⟩ = some (.slice a l.length cap) := (hbA.cell (p := ⟨R, 1, none⟩) hR).trans c1) | (at_builtin; (refine wpApp2 wA rfl _ _ 28 rfl B 51 _ 3 24 Try.underlying28 infoTimer rfl (by decide) (by decide) (.slice a l.length cap) l.length (cellsE l) rfl hOA #[.int .i64 0, .int .i64 id, .int .u64 at_] _ rfl rfl (fun u hu => by simp at hu; rcases hu with rfl | rfl | rfl <;> rfl) (by omega) (by have := hbA.size; omega) ?_); intro v' w2 hown hb2 hkeep hlies; obtain ⟨g', cap', rfl⟩ := own_slice hown; have hcell2 : w2.heap[R]? = some (.cells #[.int .u64 now, .slice a l.length cap] 30) := (hkeep R (lt_block HA.out.cell) hne.out).trans HA.out.cell; have f1 := frozen_of w2 R 1 _ _ hcell2; have e1 : w2.cell? ⟨R, 1, none⟩ = some (.slice a l.length cap) := by rw [cell_of_row w2 R _ _ _ _ hcell2]; rfl))
  go_ret
  refine ⟨rfl, ⟨_, ref_stored hcell2 (RowE.snoc (l := l) (e := (id, at_)) hown) hBR, fun k e => ?_⟩, ?_⟩
  · rcases hlies k e with h | h
    · exact Or.inl h
    · exact Or.inr (Nat.le_trans hbA.size h)
  · have hc2 : Chg (RefF R (.slice a l.length cap)) w w2 := (Chg.of_below (F := RefF R (.slice a l.length cap)) hbA).trans (G := fun k => (Value.slice a l.length cap).ownBlock = some k) ⟨hb2.os, hb2.tape, hb2.output, hb2.size, fun k hk hf => hkeep k hk (fun e => hf e.symm)⟩ (fun k hk => Or.inl (Or.inr hk))
    exact hc2.setCell (Or.inl (Or.inl rfl)) _
theorem refPutC (id at_ now : Int) (B R : Nat) (v : Value) (l : List Wh.E) (w : World) (h : Ref w B R now v l) (hl : l.length ≤ 1000000) :
    Calls Try.prog 10 #[.pointer (some ⟨R, 0, none⟩), .int .i64 id, .int .u64 at_] w (RetRef (.int .i64 (Wh.putErr l id)) B R now v (Wh.putL l id at_) w) := by
  unfold Wh.putL
  by_cases hid : id < 0
  · have e : Wh.putErr l id = 1 := by unfold Wh.putErr; rw [if_pos hid]
    rw [e, if_neg (by decide)]
    exact refPutNeg id at_ now B R v l w h hid
  · cases hh : Wh.has l id with
    | true =>
      have e : Wh.putErr l id = 8 := by unfold Wh.putErr; rw [if_neg hid, if_pos hh]
      rw [e, if_neg (by decide)]
      exact refPutThere id at_ now B R v l w h hl hid hh
    | false =>
      have e : Wh.putErr l id = 0 := by unfold Wh.putErr; rw [if_neg hid, if_neg (by rw [hh]; decide)]
      rw [e, if_pos rfl]
      exact refPutNew id at_ now B R v l w h hl hid hh
end Go.Proofs.Ytmglpjbikknjgaa
