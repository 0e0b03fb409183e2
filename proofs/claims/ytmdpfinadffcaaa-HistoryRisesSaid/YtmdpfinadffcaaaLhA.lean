/-
  Links in a ring: cut, lead.
-/
import Derived.Test.YtmdpfinadffcaaaLhM
import Derived.RegionTactic
import Derived.ChangeAlike
import Derived.BigRegion
namespace Go.Proofs.Ytmdpfinadffcaaa
open Go.RowKit
open Lr (Nd)
set_option linter.unusedVariables false

/-- a link: its value, the link before it, the one after it -/
def lk (v : Value) (t : TypeId) (p q : Nat) : Obj := .cells #[v, .pointer (some ⟨p, 0, none⟩), .pointer (some ⟨q, 0, none⟩)] t
theorem lk_c1 {w : World} {x : Nat} {v : Value} {t : TypeId} {p q : Nat} (h : w.heap[x]? = some (lk v t p q)) : w.cell? ⟨x, 1, none⟩ = some (.pointer (some ⟨p, 0, none⟩)) := by rw [cell_of_row w x _ _ _ _ h]; rfl
theorem lk_c2 {w : World} {x : Nat} {v : Value} {t : TypeId} {p q : Nat} (h : w.heap[x]? = some (lk v t p q)) : w.cell? ⟨x, 2, none⟩ = some (.pointer (some ⟨q, 0, none⟩)) := by rw [cell_of_row w x _ _ _ _ h]; rfl
theorem lk_c0 {w : World} {x : Nat} {v : Value} {t : TypeId} {p q : Nat} (h : w.heap[x]? = some (lk v t p q)) : w.cell? ⟨x, 0, none⟩ = some v := by rw [cell_of_row w x _ _ _ _ h]; rfl
theorem lk_f {w : World} {x : Nat} {v : Value} {t : TypeId} {p q : Nat} (h : w.heap[x]? = some (lk v t p q)) (i : Nat) : w.frozen? ⟨x, i, none⟩ = false := frozen_of w x i _ _ h
theorem lk_aft {w : World} {z : Nat} {v : Value} {t : TypeId} {a b : Nat} (x y : Nat) (h : w.heap[z]? = some (lk v t a b)) : (w.setCell ⟨x, 2, none⟩ (.pointer (some ⟨y, 0, none⟩))).heap[z]? = some (lk v t a (if z = x then y else b)) := by
  by_cases e : z = x
  · subst e; rw [if_pos rfl]; exact setCell_block w z 2 _ _ _ h
  · rw [if_neg e]; exact (Below.heap_setCell _ _ _ _ e).trans h
theorem lk_bef {w : World} {z : Nat} {v : Value} {t : TypeId} {a b : Nat} (x y : Nat) (h : w.heap[z]? = some (lk v t a b)) : (w.setCell ⟨x, 1, none⟩ (.pointer (some ⟨y, 0, none⟩))).heap[z]? = some (lk v t (if z = x then y else a) b) := by
  by_cases e : z = x
  · subst e; rw [if_pos rfl]; exact setCell_block w z 1 _ _ _ h
  · rw [if_neg e]; exact (Below.heap_setCell _ _ _ _ e).trans h
/-- a link taken out: what stands where -/
structure Out (p q : Nat) (w : World) (e : Ending) (w' : World) : Prop where
  e : e = .returned (.tuple #[])
  h : ∀ z v t a b, w.heap[z]? = some (lk v t a b) → w'.heap[z]? = some (lk v t (if z = q then p else a) (if z = p then q else b))
  c : Chg (fun k => k = p ∨ k = q) w w'
set_option maxRecDepth 100000 in
set_option maxHeartbeats 4000000 in
theorem cutC (x p q : Nat) (v vp vq : Value) (t tp tq : TypeId) (a b c d : Nat) (w : World) (hx : w.heap[x]? = some (lk v t p q)) (hp : w.heap[p]? = some (lk vp tp a b)) (hq : w.heap[q]? = some (lk vq tq c d)) :
    Calls Try.prog 50 #[.pointer (some ⟨x, 0, none⟩)] w (Out p q w) := by
  have c1 := lk_c1 hx
  have c2 := lk_c2 hx
  have cp := lk_c2 hp
  have cq := lk_c1 hq
  have fp := lk_f hp 2
  have fq := lk_f hq 1
  clear hx hp hq
  go_enter Try.func50, Try.ntmps50
  go_region
  go_end0
  refine ⟨rfl, fun z v t a b hz => ?_, ?_⟩
  · exact lk_bef q p (lk_aft (w := w) p q hz)
  · exact (((Chg.refl (fun k => k = p ∨ k = q) w).setCell (p := ⟨p, 2, none⟩) (Or.inl (Or.inl rfl)) _).setCell (p := ⟨q, 1, none⟩) (Or.inl (Or.inr rfl)) _).drew
/-- a link put behind r: what stands where -/
structure Led (r x q : Nat) (vx : Value) (tx : TypeId) (w : World) (e : Ending) (w' : World) : Prop where
  e : e = .returned (.tuple #[])
  h : ∀ z v t a b, z ≠ x → w.heap[z]? = some (lk v t a b) → w'.heap[z]? = some (lk v t (if z = q then x else a) (if z = r then x else b))
  at_ : w'.heap[x]? = some (lk vx tx r q)
  c : Chg (fun k => k = r ∨ k = x ∨ k = q) w w'
set_option maxRecDepth 100000 in
set_option maxHeartbeats 4000000 in
theorem leadC (r x q : Nat) (vr vx vq u1 u2 : Value) (tr tx tq : TypeId) (c d f : Nat) (w : World) (hxr : x ≠ r) (hxq : x ≠ q) (hx : w.heap[x]? = some (.cells #[vx, u1, u2] tx)) (hr : w.heap[r]? = some (lk vr tr c q)) (hq : w.heap[q]? = some (lk vq tq d f)) :
    Calls Try.prog 51 #[.pointer (some ⟨r, 0, none⟩), .pointer (some ⟨x, 0, none⟩)] w (Led r x q vx tx w) := by
  have d2 := lk_c2 hr
  have d1 : w.cell? ⟨x, 1, none⟩ = some u1 := by rw [cell_of_row w x _ _ _ _ hx]; rfl
  have d3 : w.cell? ⟨x, 2, none⟩ = some u2 := by rw [cell_of_row w x _ _ _ _ hx]; rfl
  have f1 := frozen_of w x 1 _ _ hx
  have f2 := frozen_of w x 2 _ _ hx
  have HX := Lib.hid hx
  have HR := Lib.hid hr
  have HQ := Lib.hid hq
  have HXR := Lib.hid hxr
  have HXQ := Lib.hid hxq
  clear hx hr hq hxr hxq
  go_enter Try.func51, Try.ntmps51
  go_wp2
  go_region
  obtain ⟨w2, hw2⟩ : ∃ w2, w2 = ((w.setCell ⟨x, 1, none⟩ (.pointer (some ⟨r, 0, none⟩))).setCell ⟨x, 2, none⟩ (.pointer (some ⟨q, 0, none⟩))).drew := ⟨_, rfl⟩
  have hk : ∀ z o, z ≠ x → w.heap[z]? = some o → w2.heap[z]? = some o := fun z o hne hz => by
    rw [hw2]
    exact (Below.heap_setCell _ _ _ _ hne).trans ((Below.heap_setCell _ _ _ _ hne).trans hz)
  have hx2 : w2.heap[x]? = some (lk vx tx r q) := by rw [hw2]; exact setCell_block _ x 2 _ _ _ (setCell_block w x 1 _ _ _ HX.out)
  have hr2 := hk _ _ (fun e => HXR.out e.symm) HR.out
  have hq2 := hk _ _ (fun e => HXQ.out e.symm) HQ.out
  have e1 := lk_c1 hx2
  have e2 := lk_c2 hx2
  have e3 := lk_c2 hr2
  have e4 := lk_c1 hq2
  have g3 := lk_f hr2 2
  have g4 := lk_f hq2 1
  have HK := Lib.hid hk
  have HX2 := Lib.hid hx2
  have HC : Hid (Chg (fun k => k = r ∨ k = x ∨ k = q) w w2) := Lib.hid (by rw [hw2]; exact (((Chg.refl (fun k => k = r ∨ k = x ∨ k = q) w).setCell (p := ⟨x, 1, none⟩) (Or.inl (Or.inr (Or.inl rfl))) _).setCell (p := ⟨x, 2, none⟩) (Or.inl (Or.inr (Or.inl rfl))) _).drew)
  rw [← hw2]
  clear hx2 hr2 hq2 d1 d2 d3 f1 f2 hk HX HR HQ hw2
  go_wp2
  go_region
  go_end0
  refine ⟨rfl, fun z v t a b hne hz => ?_, ?_, ?_⟩
  · exact lk_bef q x (lk_aft (w := w2) r x (HK.out z _ hne hz))
  · have := lk_bef q x (lk_aft (w := w2) r x HX2.out)
    rw [if_neg HXQ.out, if_neg HXR.out] at this
    exact this
  · exact ((HC.out.setCell (p := ⟨r, 2, none⟩) (Or.inl (Or.inl rfl)) _).setCell (p := ⟨q, 1, none⟩) (Or.inl (Or.inr (Or.inr rfl))) _).drew
end Go.Proofs.Ytmdpfinadffcaaa
