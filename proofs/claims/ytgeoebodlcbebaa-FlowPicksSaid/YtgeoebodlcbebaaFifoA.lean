/-
  A queue in memory: its links in a map; two links joined.
-/
import Derived.Test.YtgeoebodlcbebaaFifoM
import Derived.RegionTactic
import Derived.ChangeAlike
import Derived.BigRegion
namespace Go.Proofs.Ytgeoebodlcbebaa
open Go.RowKit
open Ff (Nd)
set_option linter.unusedVariables false

/-- a link: its item, the numbers before and after it -/
abbrev lkO (id c p q : Int) : Obj := .cells #[.int .i64 id, .int .i64 c, .int .i64 p, .int .i64 q] 114
abbrev quO (m : Nat) (c : Int) : Obj := .cells #[.map (some m), .int .i64 c] 107
/-- block P is a queue whose map in block m holds these links; what stands before and after each -/
structure JAt (w : World) (P m : Nat) (c : Int) (ns : List Nd) (aft bef : Int → Int) : Prop where
  tab : w.heap[P]? = some (quO m c)
  map : MapL w m ns
  node : ∀ n ∈ ns, w.heap[n.b]? = some (lkO n.id n.c (bef n.id) (aft n.id))
  ndb : (ns.map (·.b)).Nodup
  ndi : (ns.map (·.id)).Nodup
  small : ∀ n ∈ ns, 0 ≤ n.id ∧ n.id ≤ 9223372036854775807
def footJ (P m : Nat) (ns : List Nd) (k : Nat) : Prop := k = P ∨ k = m ∨ k ∈ ns.map (·.b)
theorem JAt.lt {w : World} {P m : Nat} {c : Int} {ns : List Nd} {aft bef : Int → Int} (h : JAt w P m c ns aft bef) : ∀ k, footJ P m ns k → k < w.heap.size := by
  rintro k (rfl | rfl | hk)
  · exact lt_block h.tab
  · exact h.map.lt
  · obtain ⟨n, hn, rfl⟩ := List.mem_map.1 hk
    exact lt_block (h.node n hn)
theorem JAt.keep {w w' : World} {P m : Nat} {c : Int} {ns : List Nd} {aft bef : Int → Int} (h : JAt w P m c ns aft bef) (hk : ∀ k, footJ P m ns k → w'.heap[k]? = w.heap[k]?) : JAt w' P m c ns aft bef :=
  ⟨(hk P (Or.inl rfl)).trans h.tab, h.map.keep (hk m (Or.inr (Or.inl rfl))), fun n hn => (hk n.b (Or.inr (Or.inr (List.mem_map.2 ⟨n, hn, rfl⟩)))).trans (h.node n hn), h.ndb, h.ndi, h.small⟩
theorem JAt.c0 {w : World} {P m : Nat} {c : Int} {ns : List Nd} {aft bef : Int → Int} (h : JAt w P m c ns aft bef) : w.cell? ⟨P, 0, none⟩ = some (.map (some m)) := by rw [cell_of_row w P _ _ _ _ h.tab]; rfl
theorem JAt.c1 {w : World} {P m : Nat} {c : Int} {ns : List Nd} {aft bef : Int → Int} (h : JAt w P m c ns aft bef) : w.cell? ⟨P, 1, none⟩ = some (.int .i64 c) := by rw [cell_of_row w P _ _ _ _ h.tab]; rfl
theorem JAt.fr {w : World} {P m : Nat} {c : Int} {ns : List Nd} {aft bef : Int → Int} (h : JAt w P m c ns aft bef) (i : Nat) : w.frozen? ⟨P, i, none⟩ = false := frozen_of w P i _ _ h.tab
theorem JAt.n0 {w : World} {P m : Nat} {c : Int} {ns : List Nd} {aft bef : Int → Int} (h : JAt w P m c ns aft bef) {n : Nd} (hn : n ∈ ns) : w.cell? ⟨n.b, 0, none⟩ = some (.int .i64 n.id) ∧ w.cell? ⟨n.b, 1, none⟩ = some (.int .i64 n.c) ∧ w.cell? ⟨n.b, 2, none⟩ = some (.int .i64 (bef n.id)) ∧ w.cell? ⟨n.b, 3, none⟩ = some (.int .i64 (aft n.id)) := by
  have := h.node n hn
  exact ⟨by rw [cell_of_row w _ _ _ _ _ this]; rfl, by rw [cell_of_row w _ _ _ _ _ this]; rfl, by rw [cell_of_row w _ _ _ _ _ this]; rfl, by rw [cell_of_row w _ _ _ _ _ this]; rfl⟩
theorem JAt.nf {w : World} {P m : Nat} {c : Int} {ns : List Nd} {aft bef : Int → Int} (h : JAt w P m c ns aft bef) {n : Nd} (hn : n ∈ ns) (i : Nat) : w.frozen? ⟨n.b, i, none⟩ = false := frozen_of w _ i _ _ (h.node n hn)
theorem JAt.wf {w : World} {P m : Nat} {c : Int} {ns : List Nd} {aft bef : Int → Int} (h : JAt w P m c ns aft bef) {n : Nd} (hn : n ∈ ns) : (Lit.int .i64 n.id).wf = true := by
  have := h.small n hn
  have e1 : IntKind.i64.min = -9223372036854775808 := by decide
  have e2 : IntKind.i64.max = 9223372036854775807 := by decide
  simp [Lit.wf]
  omega
/-- 'm[k]' as a run -/
theorem JAt.look {w : World} {P m : Nat} {c : Int} {ns : List Nd} {aft bef : Int → Int} (h : JAt w P m c ns aft bef) {n : Nd} (hn : n ∈ ns) : (Instr.lookup 105 (.map (some m)) (.int .i64 n.id) false).run Try.prog w = .ok (.pointer (some ⟨n.b, 0, none⟩)) w := by
  have := run_lookL h.ndi h.map n.id (h.wf hn)
  rw [Ff.at_mem h.ndi hn] at this
  exact this
/-- the three kinds of blocks are apart -/
theorem JAt.kinds {w : World} {P m : Nat} {c : Int} {ns : List Nd} {aft bef : Int → Int} (h : JAt w P m c ns aft bef) : P ≠ m ∧ ∀ k ∈ ns.map (·.b), k ≠ P ∧ k ≠ m := by
  obtain ⟨es, clock, hm⟩ := h.map.cell
  refine ⟨fun e => ?_, fun k hk => ⟨fun e => ?_, fun e => ?_⟩⟩
  · have h9 := h.tab; rw [e, hm] at h9; cases h9
  · obtain ⟨n, hn, rfl⟩ := List.mem_map.1 hk
    have h9 := h.node n hn
    rw [e, h.tab] at h9; exact absurd h9 (by simp)
  · obtain ⟨n, hn, rfl⟩ := List.mem_map.1 hk
    have h9 := h.node n hn
    rw [e, hm] at h9; cases h9
theorem JAt.same_b {w : World} {P m : Nat} {c : Int} {ns : List Nd} {aft bef : Int → Int} (h : JAt w P m c ns aft bef) {n n' : Nd} (hn : n ∈ ns) (hn' : n' ∈ ns) (e : n.b = n'.b) : n = n' := Ff.inj_of_nd h.ndb hn hn' e
theorem JAt.same_i {w : World} {P m : Nat} {c : Int} {ns : List Nd} {aft bef : Int → Int} (h : JAt w P m c ns aft bef) {n n' : Nd} (hn : n ∈ ns) (hn' : n' ∈ ns) (e : n.id = n'.id) : n = n' := Ff.inj_of_nd h.ndi hn hn' e
/-- what stands after n is stored -/
theorem JAt.aft {w : World} {P m : Nat} {c : Int} {ns : List Nd} {aft bef : Int → Int} (h : JAt w P m c ns aft bef) {n : Nd} (hn : n ∈ ns) (y : Int) : JAt (w.setCell ⟨n.b, 3, none⟩ (.int .i64 y)) P m c ns (Ff.upd aft n.id y) bef := by
  have hb : n.b ∈ ns.map (·.b) := List.mem_map.2 ⟨n, hn, rfl⟩
  obtain ⟨k1, k2⟩ := h.kinds
  have hoth : ∀ k, k ≠ n.b → (w.setCell ⟨n.b, 3, none⟩ (.int .i64 y)).heap[k]? = w.heap[k]? := fun k hk => Below.heap_setCell _ _ _ _ hk
  refine ⟨(hoth P (fun e => (k2 _ hb).1 e.symm)).trans h.tab, h.map.keep (hoth m (fun e => (k2 _ hb).2 e.symm)), fun x hx => ?_, h.ndb, h.ndi, h.small⟩
  by_cases e : x.b = n.b
  · obtain rfl := h.same_b hx hn e
    rw [Ff.upd_same]
    exact setCell_block w x.b 3 _ _ _ (h.node x hx)
  · have e2 : x.id ≠ n.id := fun e2 => e (by rw [h.same_i hx hn e2])
    rw [Ff.upd_other _ _ e2]
    exact (hoth x.b e).trans (h.node x hx)
theorem JAt.bef {w : World} {P m : Nat} {c : Int} {ns : List Nd} {aft bef : Int → Int} (h : JAt w P m c ns aft bef) {n : Nd} (hn : n ∈ ns) (y : Int) : JAt (w.setCell ⟨n.b, 2, none⟩ (.int .i64 y)) P m c ns aft (Ff.upd bef n.id y) := by
  have hb : n.b ∈ ns.map (·.b) := List.mem_map.2 ⟨n, hn, rfl⟩
  obtain ⟨k1, k2⟩ := h.kinds
  have hoth : ∀ k, k ≠ n.b → (w.setCell ⟨n.b, 2, none⟩ (.int .i64 y)).heap[k]? = w.heap[k]? := fun k hk => Below.heap_setCell _ _ _ _ hk
  refine ⟨(hoth P (fun e => (k2 _ hb).1 e.symm)).trans h.tab, h.map.keep (hoth m (fun e => (k2 _ hb).2 e.symm)), fun x hx => ?_, h.ndb, h.ndi, h.small⟩
  by_cases e : x.b = n.b
  · obtain rfl := h.same_b hx hn e
    rw [Ff.upd_same]
    exact setCell_block w x.b 2 _ _ _ (h.node x hx)
  · have e2 : x.id ≠ n.id := fun e2 => e (by rw [h.same_i hx hn e2])
    rw [Ff.upd_other _ _ e2]
    exact (hoth x.b e).trans (h.node x hx)
theorem JAt.cost {w : World} {P m : Nat} {c : Int} {ns : List Nd} {aft bef : Int → Int} (h : JAt w P m c ns aft bef) (c' : Int) : JAt (w.setCell ⟨P, 1, none⟩ (.int .i64 c')) P m c' ns aft bef := by
  obtain ⟨k1, k2⟩ := h.kinds
  have hoth : ∀ k, k ≠ P → (w.setCell ⟨P, 1, none⟩ (.int .i64 c')).heap[k]? = w.heap[k]? := fun k hk => Below.heap_setCell _ _ _ _ hk
  exact ⟨setCell_block w P 1 _ _ _ h.tab, h.map.keep (hoth m (fun e => k1 e.symm)), fun x hx => (hoth x.b (k2 _ (List.mem_map.2 ⟨x, hx, rfl⟩)).1).trans (h.node x hx), h.ndb, h.ndi, h.small⟩
/-- two links joined -/
structure RetJ (P m : Nat) (c : Int) (ns : List Nd) (aft bef : Int → Int) (w : World) (e : Ending) (w' : World) : Prop where
  e : e = .returned (.tuple #[])
  s : JAt w' P m c ns aft bef
  c : Chg (fun k => k ∈ ns.map (·.b)) w w'
set_option maxRecDepth 100000 in
set_option maxHeartbeats 4000000 in
theorem joinC (P m : Nat) (c : Int) (ns : List Nd) (aft bef : Int → Int) (x y : Nd) (w : World) (h : JAt w P m c ns aft bef) (hx : x ∈ ns) (hy : y ∈ ns) :
    Calls Try.prog 56 #[.pointer (some ⟨P, 0, none⟩), .int .i64 x.id, .int .i64 y.id] w (RetJ P m c ns (Ff.upd aft x.id y.id) (Ff.upd bef y.id x.id) w) := by
  have c0 := h.c0
  have r0 := h.look hx
  obtain ⟨_, _, _, d0⟩ := h.n0 hx
  have f0 := h.nf hx 3
  have h1 := h.aft hx y.id
  have c1 := h1.c0
  have r1 := h1.look hy
  obtain ⟨_, _, d1, _⟩ := h1.n0 hy
  have f1 := h1.nf hy 2
  have h2 := h1.bef hy x.id
  have H := Lib.hid h2
  have hxb : x.b ∈ ns.map (·.b) := List.mem_map.2 ⟨x, hx, rfl⟩
  have hyb : y.b ∈ ns.map (·.b) := List.mem_map.2 ⟨y, hy, rfl⟩
  have HC : Hid (Chg (fun k => k ∈ ns.map (·.b)) w ((w.setCell ⟨x.b, 3, none⟩ (.int .i64 y.id)).setCell ⟨y.b, 2, none⟩ (.int .i64 x.id))) := Lib.hid (((Chg.refl _ w).setCell (p := ⟨x.b, 3, none⟩) (Or.inl hxb) _).setCell (p := ⟨y.b, 2, none⟩) (Or.inl hyb) _)
  clear h h1 h2 hx hy hxb hyb
  go_enter Try.func56, Try.ntmps56
  go_wp2
  go_end0
  exact ⟨rfl, H.out, HC.out⟩
end Go.Proofs.Ytgeoebodlcbebaa
