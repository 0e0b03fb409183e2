/-
  A ring of flows in memory: its links in a map; two links joined.
  A ring of flows with its queues: how it lies; Flow, Fits, Given.
  A ring of flows: the next link visited; a flow appended.
  A ring of flows: Append.
  A ring of flows: Pick's round.
-/
import Derived.Test.YtgeoebodlcbebaaFifoQ
import Derived.Test.YtgeoebodlcbebaaRobMath
import Derived.BigRegion
import Derived.Deep.LoopGhost
import Derived.Deep.QuietTactic
namespace Rb
/-- a link: its block, its source (its type, its block, its blocks), its row -/
structure Nd where
  b : Nat
  q : Nat
  t : Go.TypeId
  F : Nat → Prop
  r : Fl.Rw
abbrev Nd.src (n : Nd) : Go.Value := .iface n.t (.pointer (some ⟨n.q, 0, none⟩))
def Nd.key (n : Nd) : Ff.Nd := ⟨n.b, n.r.f, 0⟩
def Nd.dfc (n : Nd) (d : Int) : Nd := { n with r := { n.r with d := d } }
theorem keys_id (ns : List Nd) : (ns.map Nd.key).map (·.id) = ns.map (·.r.f) := by rw [List.map_map]; rfl
end Rb
namespace Go.Proofs.Ytgeoebodlcbebaa
open Go.RowKit
open Rb (Nd)
set_option linter.unusedVariables false

abbrev pB (b : Nat) : Value := .pointer (some ⟨b, 0, none⟩)
abbrev flV (n : Nd) : Value := .agg #[n.src, .int .i64 n.r.f, .int .i64 n.r.w, .int .i64 n.r.d]
abbrev flZ : Value := .agg #[.nilIface, .int .i64 0, .int .i64 0, .int .i64 0]
abbrev linkO (n : Nd) (p x : Value) : Obj := .cells #[n.src, .int .i64 n.r.f, .int .i64 n.r.w, .int .i64 n.r.d, p, x] 110
abbrev robO (q : Int) (m : Nat) (v : Value) (g : Bool) : Obj := .cells #[.int .i64 q, .map (some m), v, .bool g] 98
def updV (f : Nat → Value) (x : Nat) (u : Value) : Nat → Value := fun z => if z = x then u else f z
theorem updV_same (f : Nat → Value) (x : Nat) (u : Value) : updV f x u x = u := by simp [updV]
theorem updV_other (f : Nat → Value) {x z : Nat} (u : Value) (h : z ≠ x) : updV f x u z = f z := by simp [updV, h]
/-- '_, there := m[k]' as a run -/
theorem run_lookR {w : World} {b : Nat} {l : List Ff.Nd} (hgd : (l.map (·.id)).Nodup) (hM : MapL w b l) (k : Int) (hk : (Lit.int .i64 k).wf = true) :
    (Instr.lookup 95 (.map (some b)) (.int .i64 k) true).run Try.prog w = .ok (.tuple #[ptrV (Ff.at_ l k), .bool (Ff.at_ l k).isSome]) w := by
  obtain ⟨D, hD, hH⟩ := hM
  obtain ⟨v, ps, hrun, hv⟩ := hD.look_ok intKeyed Try.underlying95 (Try.zeroValue96 w) (ptrR_mk none) (keyL_mk k hk)
  rw [hH.has_eq] at hrun
  rw [hH.at_eq hgd] at hv
  obtain ⟨p, rfl, hp⟩ := ptrR_inv hv
  rw [← ptrD_inj hp] at hrun
  exact hrun
/-- 'm[k] = p' as a run, k not there -/
theorem run_putR {w : World} {b : Nat} {l : List Ff.Nd} (hM : MapL w b l) (n : Ff.Nd) (hk : (Lit.int .i64 n.id).wf = true) (hl : l.length ≤ 1000001) (hn : ∀ m ∈ l, m.id ≠ n.id) :
    ∃ w', (Instr.mapUpdate 95 (.map (some b)) (.int .i64 n.id) (.pointer (some ⟨n.b, 0, none⟩))).run Try.prog w = .ok () w' ∧ MapL w' b (n :: l) ∧ Chg (fun k => k = b) w w' ∧ w'.heap.size = w.heap.size := by
  obtain ⟨D, hD, hH⟩ := hM
  obtain ⟨w', hrun, h1, h2⟩ := hD.store intKeyed Try.underlying95 (show l.length < maxLen by unfold maxLen; omega) (keyL_mk n.id hk) (ptrR_mk (some n.b))
  have hg2 := h2.grown
  have hsz : w'.heap.size = w.heap.size := by obtain ⟨es, clock, es', clock', hb, rfl⟩ := h2; simp [ChangeMaps.setBlock]
  exact ⟨w', hrun, ⟨_, by simpa using h1, hH.put n hn⟩, ⟨hg2.os, hg2.tape, hg2.output, hg2.size, fun k hk hne => hg2.block k hk (fun e => hne (by cases e; rfl))⟩, hsz⟩
section
variable (w : World) {ops : Array Oper} {rest : List Oper} {o : Oper} {a : Act} {Q : Exit → Act → World → Prop}
/-- 'delete(m, k)', k there -/
theorem wpDelR (hg : o.guard = none) (m x : Operand) (hop : o.op = Op.call { callee := Callee.builtin Builtin.delete, args := #[m, x], argTypes := #[95, 3] })
    (b : Nat) (l1 l2 : List Ff.Nd) (n : Ff.Nd) (hm : a.eval m = .map (some b)) (hM : MapL w b (l1 ++ n :: l2)) (hx : a.eval x = .int .i64 n.id) (hk : (Lit.int .i64 n.id).wf = true) (hgd : ((l1 ++ n :: l2).map (·.id)).Nodup)
    (hK : ∀ w', MapL w' b (l1 ++ l2) → Chg (fun k => k = b) w w' → w'.heap.size = w.heap.size → wpList Try.prog ops Q rest (a.put o.dst (.tuple #[])) w') :
    wpList Try.prog ops Q (o :: rest) a w := by
  obtain ⟨D, hD, hH⟩ := hM
  refine wpList_delete_own _ hg m x _ _ hop 96 intKeyed Try.underlying95 ptrR b _ _ hm hD _ _ hx (keyL_mk n.id hk) ?_
  intro w' h1 h2
  have hg2 := h2.grown
  obtain ⟨es, clock, es', clock', hb, rfl⟩ := h2
  have hH2 := hH.del hgd
  refine hK _ ⟨_, hH2.size ▸ tightL h1, hH2⟩ ⟨hg2.os, hg2.tape, hg2.output, hg2.size, fun k hk hne => hg2.block k hk (fun e => hne (by cases e; rfl))⟩ (by simp [ChangeMaps.setBlock])
/-- 'len(m)' -/
theorem wpLenR (hg : o.guard = none) (m : Operand) (hop : o.op = Op.call { callee := Callee.builtin Builtin.len, args := #[m], argTypes := #[95] })
    (b : Nat) (l : List Ff.Nd) (hm : a.eval m = .map (some b)) (hM : MapL w b l)
    (hK : wpList Try.prog ops Q rest (a.put o.dst (.int .i64 (l.length : Int))) w) :
    wpList Try.prog ops Q (o :: rest) a w := by
  obtain ⟨D, hD, hH⟩ := hM
  refine wpList_len_own _ hg m _ hop 3 96 Try.underlying95 ptrR b _ _ hm hD ?_
  rw [hH.size]
  exact hK
end
/-- block R is a ring: quantum, map in block m, the visited link, given; its links, what stands after and before each -/
structure RAt (w : World) (R m : Nat) (q : Int) (v : Value) (g : Bool) (ns : List Nd) (aft bef : Nat → Value) : Prop where
  tab : w.heap[R]? = some (robO q m v g)
  map : MapL w m (ns.map Nd.key)
  node : ∀ n ∈ ns, w.heap[n.b]? = some (linkO n (bef n.b) (aft n.b))
  ndb : (ns.map (·.b)).Nodup
  ndi : (ns.map (·.r.f)).Nodup
  small : ∀ n ∈ ns, (Lit.int .i64 n.r.f).wf = true
def footR (R m : Nat) (ns : List Nd) (k : Nat) : Prop := k = R ∨ k = m ∨ k ∈ ns.map (·.b)
section
variable {w w' : World} {R m : Nat} {q : Int} {v : Value} {g : Bool} {ns : List Nd} {aft bef : Nat → Value}
theorem RAt.lt (h : RAt w R m q v g ns aft bef) : ∀ k, footR R m ns k → k < w.heap.size := by
  rintro k (rfl | rfl | hk)
  · exact lt_block h.tab
  · exact h.map.lt
  · obtain ⟨n, hn, rfl⟩ := List.mem_map.1 hk
    exact lt_block (h.node n hn)
theorem RAt.keep (h : RAt w R m q v g ns aft bef) (hk : ∀ k, footR R m ns k → w'.heap[k]? = w.heap[k]?) : RAt w' R m q v g ns aft bef :=
  ⟨(hk R (Or.inl rfl)).trans h.tab, h.map.keep (hk m (Or.inr (Or.inl rfl))), fun n hn => (hk n.b (Or.inr (Or.inr (List.mem_map.2 ⟨n, hn, rfl⟩)))).trans (h.node n hn), h.ndb, h.ndi, h.small⟩
theorem RAt.below (h : RAt w R m q v g ns aft bef) (hb : Below w.heap.size w w') : RAt w' R m q v g ns aft bef := h.keep (fun k hk => hb.block k (h.lt k hk))
theorem RAt.cs (h : RAt w R m q v g ns aft bef) : w.cell? ⟨R, 0, none⟩ = some (.int .i64 q) ∧ w.cell? ⟨R, 1, none⟩ = some (.map (some m)) ∧ w.cell? ⟨R, 2, none⟩ = some v ∧ w.cell? ⟨R, 3, none⟩ = some (.bool g) := by
  have := h.tab
  exact ⟨by rw [cell_of_row w _ _ _ _ _ this]; rfl, by rw [cell_of_row w _ _ _ _ _ this]; rfl, by rw [cell_of_row w _ _ _ _ _ this]; rfl, by rw [cell_of_row w _ _ _ _ _ this]; rfl⟩
theorem RAt.fr (h : RAt w R m q v g ns aft bef) (i : Nat) : w.frozen? ⟨R, i, none⟩ = false := frozen_of w R i _ _ h.tab
theorem RAt.nd6 (h : RAt w R m q v g ns aft bef) {n : Nd} (hn : n ∈ ns) : w.cell? ⟨n.b, 0, none⟩ = some n.src ∧ w.cell? ⟨n.b, 1, none⟩ = some (.int .i64 n.r.f) ∧ w.cell? ⟨n.b, 2, none⟩ = some (.int .i64 n.r.w) ∧ w.cell? ⟨n.b, 3, none⟩ = some (.int .i64 n.r.d) ∧ w.cell? ⟨n.b, 4, none⟩ = some (bef n.b) ∧ w.cell? ⟨n.b, 5, none⟩ = some (aft n.b) := by
  have := h.node n hn
  exact ⟨by rw [cell_of_row w _ _ _ _ _ this]; rfl, by rw [cell_of_row w _ _ _ _ _ this]; rfl, by rw [cell_of_row w _ _ _ _ _ this]; rfl, by rw [cell_of_row w _ _ _ _ _ this]; rfl, by rw [cell_of_row w _ _ _ _ _ this]; rfl, by rw [cell_of_row w _ _ _ _ _ this]; rfl⟩
theorem RAt.nf (h : RAt w R m q v g ns aft bef) {n : Nd} (hn : n ∈ ns) (i : Nat) : w.frozen? ⟨n.b, i, none⟩ = false := frozen_of w _ i _ _ (h.node n hn)
theorem RAt.same_b (h : RAt w R m q v g ns aft bef) {n n' : Nd} (hn : n ∈ ns) (hn' : n' ∈ ns) (e : n.b = n'.b) : n = n' := Ff.inj_of_nd h.ndb hn hn' e
theorem RAt.same_f (h : RAt w R m q v g ns aft bef) {n n' : Nd} (hn : n ∈ ns) (hn' : n' ∈ ns) (e : n.r.f = n'.r.f) : n = n' := Ff.inj_of_nd h.ndi hn hn' e
/-- 'm[k]', there -/
theorem RAt.look (h : RAt w R m q v g ns aft bef) {n : Nd} (hn : n ∈ ns) : (Instr.lookup 95 (.map (some m)) (.int .i64 n.r.f) true).run Try.prog w = .ok (.tuple #[.pointer (some ⟨n.b, 0, none⟩), .bool true]) w := by
  have hgd : ((ns.map Nd.key).map (·.id)).Nodup := by rw [Rb.keys_id]; exact h.ndi
  have := run_lookR hgd h.map n.r.f (h.small n hn)
  have e : Ff.at_ (ns.map Nd.key) n.r.f = some n.b := Ff.at_mem (n := n.key) hgd (List.mem_map.2 ⟨n, hn, rfl⟩)
  rw [e] at this
  exact this
/-- 'm[k]', not there -/
theorem RAt.lookNo (h : RAt w R m q v g ns aft bef) {f : Int} (hf : (Lit.int .i64 f).wf = true) (hn : ∀ n ∈ ns, n.r.f ≠ f) : (Instr.lookup 95 (.map (some m)) (.int .i64 f) true).run Try.prog w = .ok (.tuple #[.pointer none, .bool false]) w := by
  have hgd : ((ns.map Nd.key).map (·.id)).Nodup := by rw [Rb.keys_id]; exact h.ndi
  have := run_lookR hgd h.map f hf
  have e : Ff.at_ (ns.map Nd.key) f = none := Ff.at_none.2 (fun x hx => by
    obtain ⟨n, hn', rfl⟩ := List.mem_map.1 hx
    exact hn n hn')
  rw [e] at this
  exact this
/-- the three kinds of blocks are apart -/
theorem RAt.kinds (h : RAt w R m q v g ns aft bef) : R ≠ m ∧ ∀ k ∈ ns.map (·.b), k ≠ R ∧ k ≠ m := by
  obtain ⟨es, clock, hm⟩ := h.map.cell
  refine ⟨fun e => ?_, fun k hk => ⟨fun e => ?_, fun e => ?_⟩⟩
  · have h9 := h.tab; rw [e, hm] at h9; cases h9
  · obtain ⟨n, hn, rfl⟩ := List.mem_map.1 hk
    have h9 := h.node n hn
    rw [e, h.tab] at h9; exact absurd h9 (by simp)
  · obtain ⟨n, hn, rfl⟩ := List.mem_map.1 hk
    have h9 := h.node n hn
    rw [e, hm] at h9; cases h9
/-- what stands after n is stored -/
theorem RAt.setA (h : RAt w R m q v g ns aft bef) {n : Nd} (hn : n ∈ ns) (y : Value) : RAt (w.setCell ⟨n.b, 5, none⟩ y) R m q v g ns (updV aft n.b y) bef := by
  have hb : n.b ∈ ns.map (·.b) := List.mem_map.2 ⟨n, hn, rfl⟩
  obtain ⟨k1, k2⟩ := h.kinds
  have hoth : ∀ k, k ≠ n.b → (w.setCell ⟨n.b, 5, none⟩ y).heap[k]? = w.heap[k]? := fun k hk => Below.heap_setCell _ _ _ _ hk
  refine ⟨(hoth R (fun e => (k2 _ hb).1 e.symm)).trans h.tab, h.map.keep (hoth m (fun e => (k2 _ hb).2 e.symm)), fun x hx => ?_, h.ndb, h.ndi, h.small⟩
  by_cases e : x.b = n.b
  · obtain rfl := h.same_b hx hn e
    rw [updV_same]
    exact setCell_block w x.b 5 _ _ _ (h.node x hx)
  · rw [updV_other _ _ e]
    exact (hoth x.b e).trans (h.node x hx)
theorem RAt.setB (h : RAt w R m q v g ns aft bef) {n : Nd} (hn : n ∈ ns) (y : Value) : RAt (w.setCell ⟨n.b, 4, none⟩ y) R m q v g ns aft (updV bef n.b y) := by
  have hb : n.b ∈ ns.map (·.b) := List.mem_map.2 ⟨n, hn, rfl⟩
  obtain ⟨k1, k2⟩ := h.kinds
  have hoth : ∀ k, k ≠ n.b → (w.setCell ⟨n.b, 4, none⟩ y).heap[k]? = w.heap[k]? := fun k hk => Below.heap_setCell _ _ _ _ hk
  refine ⟨(hoth R (fun e => (k2 _ hb).1 e.symm)).trans h.tab, h.map.keep (hoth m (fun e => (k2 _ hb).2 e.symm)), fun x hx => ?_, h.ndb, h.ndi, h.small⟩
  by_cases e : x.b = n.b
  · obtain rfl := h.same_b hx hn e
    rw [updV_same]
    exact setCell_block w x.b 4 _ _ _ (h.node x hx)
  · rw [updV_other _ _ e]
    exact (hoth x.b e).trans (h.node x hx)
/-- the visited link, given -/
theorem RAt.vis (h : RAt w R m q v g ns aft bef) (v' : Value) : RAt (w.setCell ⟨R, 2, none⟩ v') R m q v' g ns aft bef := by
  obtain ⟨k1, k2⟩ := h.kinds
  have hoth : ∀ k, k ≠ R → (w.setCell ⟨R, 2, none⟩ v').heap[k]? = w.heap[k]? := fun k hk => Below.heap_setCell _ _ _ _ hk
  exact ⟨setCell_block w R 2 _ _ _ h.tab, h.map.keep (hoth m (fun e => k1 e.symm)), fun x hx => (hoth x.b (k2 _ (List.mem_map.2 ⟨x, hx, rfl⟩)).1).trans (h.node x hx), h.ndb, h.ndi, h.small⟩
theorem RAt.giv (h : RAt w R m q v g ns aft bef) (g' : Bool) : RAt (w.setCell ⟨R, 3, none⟩ (.bool g')) R m q v g' ns aft bef := by
  obtain ⟨k1, k2⟩ := h.kinds
  have hoth : ∀ k, k ≠ R → (w.setCell ⟨R, 3, none⟩ (.bool g')).heap[k]? = w.heap[k]? := fun k hk => Below.heap_setCell _ _ _ _ hk
  exact ⟨setCell_block w R 3 _ _ _ h.tab, h.map.keep (hoth m (fun e => k1 e.symm)), fun x hx => (hoth x.b (k2 _ (List.mem_map.2 ⟨x, hx, rfl⟩)).1).trans (h.node x hx), h.ndb, h.ndi, h.small⟩
theorem RAt.perm {ms : List Nd} (h : RAt w R m q v g ns aft bef) (hp : ns.Perm ms) : RAt w R m q v g ms aft bef :=
  ⟨h.tab, h.map.perm (hp.map _), fun n hn => h.node n (hp.mem_iff.2 hn), (hp.map _).nodup_iff.1 h.ndb, (hp.map _).nodup_iff.1 h.ndi, fun n hn => h.small n (hp.mem_iff.2 hn)⟩
theorem RAt.congr {aft' bef' : Nat → Value} (h : RAt w R m q v g ns aft bef) (h1 : ∀ n ∈ ns, aft' n.b = aft n.b) (h2 : ∀ n ∈ ns, bef' n.b = bef n.b) : RAt w R m q v g ns aft' bef' :=
  ⟨h.tab, h.map, fun n hn => by rw [h1 n hn, h2 n hn]; exact h.node n hn, h.ndb, h.ndi, h.small⟩
end
/-- another node of the same link -/
theorem RAt.swap {w : World} {R m : Nat} {q : Int} {v : Value} {g : Bool} {a b : List Nd} {n n' : Nd} {aft bef : Nat → Value} (h : RAt w R m q v g (a ++ n :: b) aft bef) (h1 : n'.b = n.b) (h2 : n'.t = n.t) (h6 : n'.q = n.q) (h3 : n'.r.f = n.r.f) (h4 : n'.r.w = n.r.w) (h5 : n'.r.d = n.r.d) : RAt w R m q v g (a ++ n' :: b) aft bef := by
  have ek : (a ++ n' :: b).map Nd.key = (a ++ n :: b).map Nd.key := by simp [Nd.key, h1, h3]
  have eb : (a ++ n' :: b).map (·.b) = (a ++ n :: b).map (·.b) := by simp [h1]
  have ef : (a ++ n' :: b).map (·.r.f) = (a ++ n :: b).map (·.r.f) := by simp [h3]
  have hm : ∀ x ∈ a ++ n' :: b, x = n' ∨ x ∈ a ++ n :: b := fun x hx => by
    simp at hx ⊢
    rcases hx with h | h | h <;> simp [h]
  refine ⟨h.tab, by rw [ek]; exact h.map, fun x hx => ?_, by rw [eb]; exact h.ndb, by rw [ef]; exact h.ndi, fun x hx => ?_⟩
  · rcases hm x hx with e | hx
    · subst e
      have := h.node n (by simp)
      have e : linkO x (bef n.b) (aft n.b) = linkO n (bef n.b) (aft n.b) := by unfold linkO Nd.src; rw [h2, h3, h4, h5, h6]
      rw [h1, e]
      exact this
    · exact h.node x hx
  · rcases hm x hx with e | hx
    · subst e; rw [h3]; exact h.small n (by simp)
    · exact h.small x hx
/-- a link with another deficit -/
theorem RAt.dfc {w : World} {R m : Nat} {q : Int} {v : Value} {g : Bool} {a b : List Nd} {n : Nd} {aft bef : Nat → Value} (h : RAt w R m q v g (a ++ n :: b) aft bef) (d : Int) : RAt (w.setCell ⟨n.b, 3, none⟩ (.int .i64 d)) R m q v g (a ++ n.dfc d :: b) aft bef := by
  have hn : n ∈ a ++ n :: b := by simp
  have hb : n.b ∈ (a ++ n :: b).map (·.b) := List.mem_map.2 ⟨n, hn, rfl⟩
  obtain ⟨k1, k2⟩ := h.kinds
  have hoth : ∀ k, k ≠ n.b → (w.setCell ⟨n.b, 3, none⟩ (.int .i64 d)).heap[k]? = w.heap[k]? := fun k hk => Below.heap_setCell _ _ _ _ hk
  have ek : (a ++ n.dfc d :: b).map Nd.key = (a ++ n :: b).map Nd.key := by simp [Nd.key, Rb.Nd.dfc]
  have eb : (a ++ n.dfc d :: b).map (·.b) = (a ++ n :: b).map (·.b) := by simp [Rb.Nd.dfc]
  have ef : (a ++ n.dfc d :: b).map (·.r.f) = (a ++ n :: b).map (·.r.f) := by simp [Rb.Nd.dfc]
  have hnd := h.ndb
  have hne : ∀ x ∈ a ++ b, x ∈ a ++ n :: b ∧ x.b ≠ n.b := fun x hx => by
    rw [List.map_append, List.map_cons, List.nodup_append] at hnd
    obtain ⟨_, h2, h3⟩ := hnd
    rw [List.nodup_cons] at h2
    rcases List.mem_append.1 hx with h4 | h4
    · exact ⟨by simp [h4], h3 x.b (List.mem_map.2 ⟨x, h4, rfl⟩) n.b (by simp)⟩
    · exact ⟨by simp [h4], fun e => h2.1 (by rw [← e]; exact List.mem_map.2 ⟨x, h4, rfl⟩)⟩
  have hm : ∀ x ∈ a ++ n.dfc d :: b, x = n.dfc d ∨ x ∈ a ++ b := fun x hx => by
    simp at hx ⊢
    rcases hx with h | h | h <;> simp [h]
  refine ⟨(hoth R (fun e => (k2 _ hb).1 e.symm)).trans h.tab, by rw [ek]; exact h.map.keep (hoth m (fun e => (k2 _ hb).2 e.symm)), fun x hx => ?_, by rw [eb]; exact h.ndb, by rw [ef]; exact h.ndi, fun x hx => ?_⟩
  · rcases hm x hx with e | hx
    · subst e
      exact setCell_block w n.b 3 _ _ _ (h.node n hn)
    · obtain ⟨e1, e2⟩ := hne x hx
      exact (hoth x.b e2).trans (h.node x e1)
  · rcases hm x hx with e | hx
    · subst e; exact h.small n hn
    · exact h.small x (hne x hx).1
/-- two links joined -/
structure RetJn (R m : Nat) (q : Int) (v : Value) (g : Bool) (ns : List Nd) (aft bef : Nat → Value) (w : World) (e : Ending) (w' : World) : Prop where
  e : e = .returned (.tuple #[])
  s : RAt w' R m q v g ns aft bef
  c : Chg (fun k => k ∈ ns.map (·.b)) w w'
set_option maxRecDepth 100000 in
set_option maxHeartbeats 4000000 in
theorem joinRC (R m : Nat) (q : Int) (v : Value) (g : Bool) (ns : List Nd) (aft bef : Nat → Value) (x y : Nd) (w : World) (h : RAt w R m q v g ns aft bef) (hx : x ∈ ns) (hy : y ∈ ns) :
    Calls Try.prog 57 #[.pointer (some ⟨x.b, 0, none⟩), .pointer (some ⟨y.b, 0, none⟩)] w (RetJn R m q v g ns (updV aft x.b (.pointer (some ⟨y.b, 0, none⟩))) (updV bef y.b (.pointer (some ⟨x.b, 0, none⟩))) w) := by
  obtain ⟨_, _, _, _, _, d0⟩ := h.nd6 hx
  have f0 := h.nf hx 5
  have h1 := h.setA hx (.pointer (some ⟨y.b, 0, none⟩))
  obtain ⟨_, _, _, _, d1, _⟩ := h1.nd6 hy
  have f1 := h1.nf hy 4
  have h2 := h1.setB hy (.pointer (some ⟨x.b, 0, none⟩))
  have H := Lib.hid h2
  have hxb : x.b ∈ ns.map (·.b) := List.mem_map.2 ⟨x, hx, rfl⟩
  have hyb : y.b ∈ ns.map (·.b) := List.mem_map.2 ⟨y, hy, rfl⟩
  have HC : Hid (Chg (fun k => k ∈ ns.map (·.b)) w ((w.setCell ⟨x.b, 5, none⟩ (.pointer (some ⟨y.b, 0, none⟩))).setCell ⟨y.b, 4, none⟩ (.pointer (some ⟨x.b, 0, none⟩)))) := Lib.hid (((Chg.refl _ w).setCell (p := ⟨x.b, 5, none⟩) (Or.inl hxb) _).setCell (p := ⟨y.b, 4, none⟩) (Or.inl hyb) _)
  clear h h1 h2 hx hy hxb hyb
  go_enter Try.func57, Try.ntmps57
  go_wp2
  go_end0
  exact ⟨rfl, H.out, HC.out⟩
end Go.Proofs.Ytgeoebodlcbebaa

namespace Go.Proofs.Ytgeoebodlcbebaa
open Go.RowKit
open Rb (Nd)
set_option linter.unusedVariables false

/-- the queues of a ring's links, apart -/
structure QsAt (w : World) (B : Nat) (X : Nat → Prop) (ns : List Nd) : Prop where
  src : ∀ n ∈ ns, n.t = 69
  q : ∀ n ∈ ns, QIs w B n.q n.r.its n.F
  own : ∀ n ∈ ns, ∀ k, n.F k → ¬ X k
  apart : ∀ n ∈ ns, ∀ n' ∈ ns, n.b ≠ n'.b → ∀ k, n.F k → ¬ n'.F k
theorem QsAt.keep {w w' : World} {B : Nat} {X : Nat → Prop} {ns : List Nd} (h : QsAt w B X ns) (hk : ∀ n ∈ ns, ∀ k, n.F k → w'.heap[k]? = w.heap[k]?) : QsAt w' B X ns :=
  ⟨h.src, fun n hn => (h.q n hn).keep (hk n hn), h.own, h.apart⟩
theorem QsAt.sub {w : World} {B : Nat} {X X' : Nat → Prop} {ns ms : List Nd} (h : QsAt w B X ns) (hs : ∀ n ∈ ms, n ∈ ns) (hX : ∀ k, X' k → X k) : QsAt w B X' ms :=
  ⟨fun n hn => h.src n (hs n hn), fun n hn => h.q n (hs n hn), fun n hn k hk hx => h.own n (hs n hn) k hk (hX k hx), fun n hn n' hn' => h.apart n (hs n hn) n' (hs n' hn')⟩
/-- all blocks -/
def footG (R m : Nat) (ns : List Nd) (k : Nat) : Prop := footR R m ns k ∨ ∃ n ∈ ns, n.F k
/-- the visited link -/
def visOf : List Nd → Value
  | [] => .pointer none
  | n :: _ => .pointer (some ⟨n.b, 0, none⟩)
/-- how a ring lies, by its links: world, base, block, map's block, quantum, given, links, after, before -/
structure RIn (w : World) (B R m : Nat) (q : Int) (g : Bool) (ns : List Nd) (x y : Nat → Nat) : Prop where
  r : RAt w R m q (visOf ns) g ns (fun k => pB (x k)) (fun k => pB (y k))
  qs : QsAt w B (footR R m ns) ns
  ring : Rb.IsRing x y (ns.map (·.b))
  lo : ∀ k, footG R m ns k → B ≤ k
/-- how a ring lies, by what it holds -/
def RIs (w : World) (B R : Nat) (s : Fl.St) (F : Nat → Prop) : Prop :=
  ∃ m ns x y, RIn w B R m s.q s.g ns x y ∧ ns.map (·.r) = s.l ∧ ∀ k, F k ↔ footG R m ns k
section
variable {w w' : World} {B R m : Nat} {q : Int} {g : Bool} {ns : List Nd} {x y : Nat → Nat}
theorem RIn.lt (h : RIn w B R m q g ns x y) : ∀ k, footG R m ns k → B ≤ k ∧ k < w.heap.size := fun k hk => ⟨h.lo k hk, by
  rcases hk with hk | ⟨n, hn, hk⟩
  · exact h.r.lt k hk
  · exact ((h.qs.q n hn).lt k hk).2⟩
theorem RIn.keep (h : RIn w B R m q g ns x y) (hk : ∀ k, footG R m ns k → w'.heap[k]? = w.heap[k]?) : RIn w' B R m q g ns x y :=
  ⟨h.r.keep (fun k hf => hk k (Or.inl hf)), h.qs.keep (fun n hn k hf => hk k (Or.inr ⟨n, hn, hf⟩)), h.ring, h.lo⟩
theorem RIn.below (h : RIn w B R m q g ns x y) (hb : Below w.heap.size w w') : RIn w' B R m q g ns x y := h.keep (fun k hk => hb.block k (h.lt k hk).2)
end
theorem RIs.keep {w w' : World} {B R : Nat} {s : Fl.St} {F : Nat → Prop} (h : RIs w B R s F) (hk : ∀ k, F k → w'.heap[k]? = w.heap[k]?) : RIs w' B R s F := by
  obtain ⟨m, ns, x, y, h1, h2, h3⟩ := h
  exact ⟨m, ns, x, y, h1.keep (fun k hf => hk k ((h3 k).2 hf)), h2, h3⟩
theorem RIs.lt {w : World} {B R : Nat} {s : Fl.St} {F : Nat → Prop} (h : RIs w B R s F) : ∀ k, F k → B ≤ k ∧ k < w.heap.size := by
  obtain ⟨m, ns, x, y, h1, h2, h3⟩ := h
  exact fun k hk => h1.lt k ((h3 k).1 hk)
theorem RIs.below {w w' : World} {B R : Nat} {s : Fl.St} {F : Nat → Prop} (h : RIs w B R s F) (hb : Below w.heap.size w w') : RIs w' B R s F := h.keep (fun k hk => hb.block k (h.lt k hk).2)
theorem RIs.root {w : World} {B R : Nat} {s : Fl.St} {F : Nat → Prop} (h : RIs w B R s F) : F R := by
  obtain ⟨m, ns, x, y, h1, h2, h3⟩ := h
  exact (h3 R).2 (Or.inl (Or.inl rfl))
/-- the link of a number -/
theorem node_of {ns : List Nd} {l : List Fl.Rw} {f : Int} {r : Fl.Rw} (hl : ns.map (·.r) = l) (h : Fl.row l f = some r) : ∃ n ∈ ns, n.r = r ∧ n.r.f = f := by
  obtain ⟨h1, h2⟩ := Fl.row_mem h
  rw [← hl] at h1
  obtain ⟨n, hn, e⟩ := List.mem_map.1 h1
  exact ⟨n, hn, e, by rw [e]; exact h2⟩
theorem node_no {ns : List Nd} {l : List Fl.Rw} {f : Int} (hl : ns.map (·.r) = l) (h : Fl.row l f = none) : ∀ n ∈ ns, n.r.f ≠ f := fun n hn => by
  have := Fl.row_none.1 h
  rw [← hl] at this
  exact this n.r (List.mem_map.2 ⟨n, hn, rfl⟩)
abbrev flO (n : Nd) : Obj := .cells #[n.src, .int .i64 n.r.f, .int .i64 n.r.w, .int .i64 n.r.d] 75
abbrev flO0 : Obj := .cells #[.nilIface, .int .i64 0, .int .i64 0, .int .i64 0] 75
set_option maxRecDepth 100000 in
set_option maxHeartbeats 1000000 in
theorem flowYes (R m : Nat) (q : Int) (v : Value) (g : Bool) (ns : List Nd) (aft bef : Nat → Value) (n : Nd) (w : World) (h : RAt w R m q v g ns aft bef) (hn : n ∈ ns) :
    Calls Try.prog 34 #[.pointer (some ⟨R, 0, none⟩), .int .i64 n.r.f] w (Ret (.tuple #[flV n, .bool true]) w) := by
  have g1 : RAt (w.alloc flO0) R m q v g ns aft bef := h.below ((Below.refl _ _).alloc (Nat.le_refl _) _)
  obtain ⟨_, c1, _, _⟩ := g1.cs
  have r1 := g1.look hn
  obtain ⟨d0, d1, d2, d3, _, _⟩ := g1.nd6 hn
  have hb : Below w.heap.size w (w.alloc flO0) := (Below.refl _ _).alloc (Nat.le_refl _) _
  have HB := Lib.hid hb
  unfold flV Nd.src
  unfold Nd.src at d0
  generalize n.t = T at *
  generalize n.q = Q at *
  generalize n.r.f = f at *
  generalize n.r.w = wt at *
  generalize n.r.d = df at *
  generalize n.b = b at *
  clear h g1 hn hb
  go_enter Try.func34, Try.ntmps34
  go_wp2
  try simp only [Exit.inBlock, Exit.then]
  refine bodyPost_ret (v := .tuple #[.agg #[.iface T (.pointer (some ⟨Q, 0, none⟩)), .int .i64 f, .int .i64 wt, .int .i64 df], .bool true]) ?_ rfl ?_
  · rw [results_cell_tmp rfl]; go_simp; (try rfl)
  · exact ⟨rfl, (Below.refl _ _).alloc (Nat.le_refl _) _⟩
set_option maxRecDepth 100000 in
set_option maxHeartbeats 1000000 in
theorem flowNo (R m : Nat) (q : Int) (v : Value) (g : Bool) (ns : List Nd) (aft bef : Nat → Value) (f : Int) (w : World) (h : RAt w R m q v g ns aft bef) (hf : (Lit.int .i64 f).wf = true) (hn : ∀ n ∈ ns, n.r.f ≠ f) :
    Calls Try.prog 34 #[.pointer (some ⟨R, 0, none⟩), .int .i64 f] w (Ret (.tuple #[flZ, .bool false]) w) := by
  have g1 : RAt (w.alloc flO0) R m q v g ns aft bef := h.below ((Below.refl _ _).alloc (Nat.le_refl _) _)
  obtain ⟨_, c1, _, _⟩ := g1.cs
  have r1 := g1.lookNo hf hn
  have hb : Below w.heap.size w (w.alloc flO0) := (Below.refl _ _).alloc (Nat.le_refl _) _
  have HB := Lib.hid hb
  clear h g1 hn hb hf
  go_enter Try.func34, Try.ntmps34
  go_wp2
  try simp only [Exit.inBlock, Exit.then]
  refine bodyPost_ret (v := .tuple #[.agg #[.nilIface, .int .i64 0, .int .i64 0, .int .i64 0], .bool false]) ?_ rfl ?_
  · rw [results_cell_tmp rfl]; go_simp; (try rfl)
  · exact ⟨rfl, HB.out⟩
/-- Fits -/
def fits (l : List Fl.Rw) (f wt : Int) : Bool := decide (f ≥ 0) && decide (wt ≥ 1) && decide (wt ≤ 16) && (match Fl.row l f with | none => true | some r => decide (r.w = wt))
set_option maxRecDepth 100000 in
set_option maxHeartbeats 1000000 in
theorem fitsC (B R : Nat) (s : Fl.St) (F : Nat → Prop) (f wt : Int) (w : World) (h : RIs w B R s F) (hf : (Lit.int .i64 f).wf = true) :
    Calls Try.prog 35 #[.pointer (some ⟨R, 0, none⟩), .int .i64 f, .int .i64 wt] w (Ret (.bool (fits s.l f wt)) w) := by
  obtain ⟨m, ns, x, y, h1, h2, h3⟩ := h
  unfold fits
  cases hr : Fl.row s.l f with
  | none =>
    have K := Lib.hid (flowNo R m _ _ _ ns _ _ f w h1.r hf (node_no h2 hr))
    clear h1 h2 h3 hr hf
    cases t1 : decide (f ≥ 0) <;> cases t2 : decide (wt ≥ 1) <;> cases t3 : decide (wt ≤ 16) <;> (
      go_enter Try.func35, Try.ntmps35
      go_wp2_with (go_at_call 34; (with_reducible refine K.out.mono ?_); rintro e wA ⟨rfl, hA⟩)
      go_ret
      exact ⟨rfl, hA.alloc hA.size _⟩)
  | some r =>
    obtain ⟨n, hn, rfl, rfl⟩ := node_of h2 hr
    have K := Lib.hid (flowYes R m _ _ _ ns _ _ n w h1.r hn)
    clear h1 h2 h3 hr hf hn
    unfold flV Nd.src at K
    dsimp only
    generalize n.t = T at *
    generalize n.q = Q at *
    generalize n.r.f = f at *
    generalize n.r.w = wn at *
    generalize n.r.d = df at *
    cases t1 : decide (f ≥ 0) <;> cases t2 : decide (wt ≥ 1) <;> cases t3 : decide (wt ≤ 16) <;> cases t4 : decide (wn = wt) <;> (
      have t5 := Lib.hid t4
      have t6 : (wn == wt) = _ := (show (wn == wt) = decide (wn = wt) by by_cases h : wn = wt <;> simp [h]).trans t4
      clear t4
      go_enter Try.func35, Try.ntmps35
      go_wp2_with (go_at_call 34; (with_reducible refine K.out.mono ?_); rintro e wA ⟨rfl, hA⟩)
      go_ret
      exact ⟨rfl, hA.alloc hA.size _⟩)
set_option maxRecDepth 100000 in
theorem robGivenC (B R : Nat) (s : Fl.St) (F : Nat → Prop) (w : World) (h : RIs w B R s F) :
    Calls Try.prog 46 #[.pointer (some ⟨R, 0, none⟩)] w (Same (.bool s.g) w) := by
  obtain ⟨m, ns, x, y, h1, h2, h3⟩ := h
  obtain ⟨_, _, _, c3⟩ := h1.r.cs
  generalize s.g = g at *
  clear h1 h2 h3
  go_enter Try.func46, Try.ntmps46
  go_wp2
  go_ret
  exact ⟨rfl, rfl⟩
end Go.Proofs.Ytgeoebodlcbebaa

namespace Rb
theorem visHead (ns : List Nd) (k : Nat) (h : (ns.map (·.b)).head? = some k) : Go.Proofs.Ytgeoebodlcbebaa.visOf ns = .pointer (some ⟨k, 0, none⟩) := by
  cases ns with
  | nil => cases h
  | cons n t => simp at h; subst h; rfl
end Rb
namespace Go.Proofs.Ytgeoebodlcbebaa
open Go.RowKit
open Rb (Nd)
set_option linter.unusedVariables false

theorem footR_perm {R m : Nat} {ns ms : List Nd} (hp : ns.Perm ms) (k : Nat) : footR R m ns k ↔ footR R m ms k := by
  unfold footR
  rw [(hp.map (·.b)).mem_iff]
theorem footG_perm {R m : Nat} {ns ms : List Nd} (hp : ns.Perm ms) (k : Nat) : footG R m ns k ↔ footG R m ms k := by
  unfold footG
  rw [footR_perm hp]
  constructor
  · rintro (h | ⟨n, hn, h⟩)
    · exact Or.inl h
    · exact Or.inr ⟨n, hp.mem_iff.1 hn, h⟩
  · rintro (h | ⟨n, hn, h⟩)
    · exact Or.inl h
    · exact Or.inr ⟨n, hp.mem_iff.2 hn, h⟩
theorem QsAt.perm {w : World} {B R m : Nat} {ns ms : List Nd} (h : QsAt w B (footR R m ns) ns) (hp : ns.Perm ms) : QsAt w B (footR R m ms) ms :=
  h.sub (fun n hn => hp.mem_iff.2 hn) (fun k hk => (footR_perm hp k).2 hk)
/-- the next is visited -/
structure RetV (B R m : Nat) (q : Int) (g : Bool) (ns : List Nd) (x y : Nat → Nat) (w : World) (e : Ending) (w' : World) : Prop where
  e : e = .returned (.tuple #[])
  s : RIn w' B R m q g ns x y
  c : Chg (fun k => k = R) w w'
set_option maxRecDepth 100000 in
set_option maxHeartbeats 1000000 in
theorem visitC (B R m : Nat) (q : Int) (g : Bool) (n : Nd) (t : List Nd) (x y : Nat → Nat) (w : World) (h : RIn w B R m q g (n :: t) x y) :
    Calls Try.prog 58 #[.pointer (some ⟨R, 0, none⟩)] w (RetV B R m q false (t ++ [n]) x y w) := by
  have hn : n ∈ n :: t := by simp
  have hp : (n :: t).Perm (t ++ [n]) := (List.perm_append_singleton n t).symm
  obtain ⟨_, _, c2, _⟩ := h.r.cs
  replace c2 : w.cell? ⟨R, 2, none⟩ = some (.pointer (some ⟨n.b, 0, none⟩)) := c2
  obtain ⟨_, _, _, _, _, d5⟩ := h.r.nd6 hn
  have f2 := h.r.fr 2
  have h1 := h.r.vis (.pointer (some ⟨x n.b, 0, none⟩))
  have f3 := h1.fr 3
  obtain ⟨_, _, _, c3⟩ := h1.cs
  have h2 := h1.giv false
  obtain ⟨r1, r2⟩ := Rb.IsRing.turn (r := n.b) (xs := t.map (·.b)) h.ring
  have em : (t ++ [n]).map (·.b) = t.map (·.b) ++ [n.b] := by simp
  have hv : visOf (t ++ [n]) = .pointer (some ⟨x n.b, 0, none⟩) := Rb.visHead _ _ (by rw [em]; exact r2)
  have hoth : ∀ k, k ≠ R → ((w.setCell ⟨R, 2, none⟩ (.pointer (some ⟨x n.b, 0, none⟩))).setCell ⟨R, 3, none⟩ (.bool false)).heap[k]? = w.heap[k]? := fun k hk => (Below.heap_setCell _ _ _ _ hk).trans (Below.heap_setCell _ _ _ _ hk)
  have hfin : RIn ((w.setCell ⟨R, 2, none⟩ (.pointer (some ⟨x n.b, 0, none⟩))).setCell ⟨R, 3, none⟩ (.bool false)) B R m q false (t ++ [n]) x y :=
    ⟨by rw [hv]; exact h2.perm hp, (h.qs.perm hp).keep (fun n' hn' k hk => hoth k (fun e => h.qs.own n' (hp.mem_iff.2 hn') k hk (Or.inl e))), by rw [em]; exact r1, fun k hk => h.lo k ((footG_perm hp k).2 hk)⟩
  have H := Lib.hid hfin
  have HC : Hid (Chg (fun k => k = R) w ((w.setCell ⟨R, 2, none⟩ (.pointer (some ⟨x n.b, 0, none⟩))).setCell ⟨R, 3, none⟩ (.bool false))) := Lib.hid (((Chg.refl (fun k => k = R) w).setCell (p := ⟨R, 2, none⟩) (Or.inl rfl) _).setCell (p := ⟨R, 3, none⟩) (Or.inl rfl) _)
  generalize x n.b = xn at *
  clear h h1 h2 r1 r2 em hv hoth hfin hn hp
  go_enter Try.func58, Try.ntmps58
  go_wp2
  go_end0
  exact ⟨rfl, H.out, HC.out⟩
/-- a ring in the course of a call that began at w0 with the blocks F -/
structure GQ (w0 : World) (F : Nat → Prop) (B R m : Nat) (q : Int) (v : Value) (g : Bool) (ns : List Nd) (aft bef : Nat → Value) (W : World) : Prop where
  r : RAt W R m q v g ns aft bef
  qs : QsAt W B (footR R m ns) ns
  c : Chg F w0 W
  f : ∀ k, footR R m ns k → F k ∨ w0.heap.size ≤ k
section
variable {w0 W W' : World} {F : Nat → Prop} {B R m : Nat} {q : Int} {v : Value} {g : Bool} {ns : List Nd} {aft bef : Nat → Value}
theorem GQ.below (h : GQ w0 F B R m q v g ns aft bef W) (hb : Below W.heap.size W W') : GQ w0 F B R m q v g ns aft bef W' :=
  ⟨h.r.below hb, h.qs.keep (fun n hn k hk => hb.block k ((h.qs.q n hn).lt k hk).2), h.c.then hb, h.f⟩
theorem GQ.drew (h : GQ w0 F B R m q v g ns aft bef W) : GQ w0 F B R m q v g ns aft bef W.drew := h.below (Below.refl _ _).drew
/-- what a store to the ring's own blocks leaves -/
theorem GQ.own {v' : Value} {g' : Bool} {aft' bef' : Nat → Value} (h : GQ w0 F B R m q v g ns aft bef W) (hr : RAt W' R m q v' g' ns aft' bef') (hc : Chg (footR R m ns) W W') : GQ w0 F B R m q v' g' ns aft' bef' W' :=
  ⟨hr, h.qs.keep (fun n hn k hk => hc.block k ((h.qs.q n hn).lt k hk).2 (h.qs.own n hn k hk)), h.c.trans hc h.f, h.f⟩
theorem GQ.join {aft' bef' : Nat → Value} {e : Ending} (h : GQ w0 F B R m q v g ns aft bef W) (hr : RetJn R m q v g ns aft' bef' W e W') : GQ w0 F B R m q v g ns aft' bef' W' :=
  h.own hr.s (hr.c.mono (fun k hk => Or.inl (Or.inr (Or.inr hk))))
theorem GQ.vis (h : GQ w0 F B R m q v g ns aft bef W) (v' : Value) : GQ w0 F B R m q v' g ns aft bef (W.setCell ⟨R, 2, none⟩ v') :=
  h.own (h.r.vis v') ((Chg.refl (footR R m ns) W).setCell (p := ⟨R, 2, none⟩) (Or.inl (Or.inl rfl)) _)
theorem GQ.setB (h : GQ w0 F B R m q v g ns aft bef W) {n : Nd} (hn : n ∈ ns) (y : Value) : GQ w0 F B R m q v g ns aft (updV bef n.b y) (W.setCell ⟨n.b, 4, none⟩ y) :=
  h.own (h.r.setB hn y) ((Chg.refl (footR R m ns) W).setCell (p := ⟨n.b, 4, none⟩) (Or.inl (Or.inr (Or.inr (List.mem_map.2 ⟨n, hn, rfl⟩)))) _)
theorem RIn.gq {x y : Nat → Nat} (h : RIn W B R m q g ns x y) : GQ W (footG R m ns) B R m q (visOf ns) g ns (fun k => pB (x k)) (fun k => pB (y k)) W := ⟨h.r, h.qs, Chg.refl _ _, fun k hk => Or.inl (Or.inl hk)⟩
end
theorem gq_join {w0 : World} {F : Nat → Prop} {B R m : Nat} {q : Int} {v : Value} {g : Bool} {ns : List Nd} {aft bef : Nat → Value} (a b : Nat) (W : World) (h : GQ w0 F B R m q v g ns aft bef W) (ha : a ∈ ns.map (·.b)) (hb : b ∈ ns.map (·.b)) :
    Calls Try.prog 57 #[.pointer (some ⟨a, 0, none⟩), .pointer (some ⟨b, 0, none⟩)] W fun e W' => e = .returned (.tuple #[]) ∧ Hid (GQ w0 F B R m q v g ns (updV aft a (.pointer (some ⟨b, 0, none⟩))) (updV bef b (.pointer (some ⟨a, 0, none⟩))) W') := by
  obtain ⟨x, hx, rfl⟩ := List.mem_map.1 ha
  obtain ⟨y, hy, rfl⟩ := List.mem_map.1 hb
  exact (joinRC R m q v g ns aft bef x y W h.r hx hy).mono fun e W' hr => ⟨hr.e, Lib.hid (h.join hr)⟩
/-- a link made: its row's blocks apart from all -/
theorem GQ.made {w : World} {B R m : Nat} {q : Int} {g : Bool} {ns : List Nd} {x y : Nat → Nat} {W1 W3 : World} {n : Nd} (h : RIn w B R m q g ns x y) (hb1 : Below w.heap.size w W1) (hnb : n.b = w.heap.size + 1) (hz : w.heap.size + 2 ≤ W1.heap.size) (hnew : W1.heap[n.b]? = some (linkO n (.pointer none) (.pointer none)))
    (ht : n.t = 69) (hq : QIs w B n.q n.r.its n.F) (hap : ∀ k, n.F k → ¬ footG R m ns k) (hf : (Lit.int .i64 n.r.f).wf = true) (hno : ∀ n' ∈ ns, n'.r.f ≠ n.r.f)
    (hM : MapL W3 m (n.key :: ns.map Nd.key)) (hc : Chg (fun k => k = m) W1 W3) :
    GQ w (footG R m ns) B R m q (visOf ns) g (n :: ns) (updV (fun k => pB (x k)) n.b (.pointer none)) (updV (fun k => pB (y k)) n.b (.pointer none)) W3 := by
  have hr1 := h.r.below hb1
  obtain ⟨k1, k2⟩ := hr1.kinds
  have hlt := h.r.lt
  have hml := hlt m (Or.inr (Or.inl rfl))
  have hbn : ∀ n' ∈ ns, n'.b ≠ n.b := fun n' hn' e => by have := hlt n'.b (Or.inr (Or.inr (List.mem_map.2 ⟨n', hn', rfl⟩))); omega
  have hold : ∀ k, k < w.heap.size → k ≠ m → W3.heap[k]? = w.heap[k]? := fun k hk hm => (hc.block k (by omega) hm).trans (hb1.block k hk)
  refine ⟨⟨hc.keep hr1.tab k1, hM, fun z hz' => ?_, ?_, ?_, fun z hz' => ?_⟩, ⟨fun z hz' => ?_, fun z hz' => ?_, fun z hz' k hk => ?_, fun z hz1 z' hz2 hne k hk => ?_⟩, ?_, fun k hk => ?_⟩
  · rcases List.mem_cons.1 hz' with e | hz'
    · subst e
      rw [updV_same, updV_same]
      exact hc.keep hnew (by omega)
    · rw [updV_other _ _ (hbn z hz'), updV_other _ _ (hbn z hz')]
      exact hc.keep (hr1.node z hz') (k2 _ (List.mem_map.2 ⟨z, hz', rfl⟩)).2
  · rw [List.map_cons, List.nodup_cons]
    refine ⟨fun hm => ?_, h.r.ndb⟩
    obtain ⟨n', hn', e⟩ := List.mem_map.1 hm
    exact hbn n' hn' e
  · rw [List.map_cons, List.nodup_cons]
    refine ⟨fun hm => ?_, h.r.ndi⟩
    obtain ⟨n', hn', e⟩ := List.mem_map.1 hm
    exact hno n' hn' e
  · rcases List.mem_cons.1 hz' with e | hz'
    · subst e; exact hf
    · exact h.r.small z hz'
  · rcases List.mem_cons.1 hz' with e | hz'
    · subst e; exact ht
    · exact h.qs.src z hz'
  · rcases List.mem_cons.1 hz' with e | hz'
    · subst e
      exact hq.keep (fun k hk => hold k (hq.lt k hk).2 (fun e => hap k hk (Or.inl (Or.inr (Or.inl e)))))
    · have := h.qs.q z hz'
      exact this.keep (fun k hk => hold k (this.lt k hk).2 (fun e => h.qs.own z hz' k hk (Or.inr (Or.inl e))))
  · have hkl : k < w.heap.size := by
      rcases List.mem_cons.1 hz' with e | hz'
      · subst e; exact (hq.lt k hk).2
      · exact ((h.qs.q z hz').lt k hk).2
    have hR : ¬ footR R m ns k := by
      rcases List.mem_cons.1 hz' with e | hz'
      · subst e; exact fun hh => hap k hk (Or.inl hh)
      · exact h.qs.own z hz' k hk
    rintro (e | e | e)
    · exact hR (Or.inl e)
    · exact hR (Or.inr (Or.inl e))
    · rw [List.map_cons] at e
      rcases List.mem_cons.1 e with e | e
      · omega
      · exact hR (Or.inr (Or.inr e))
  · rcases List.mem_cons.1 hz1 with e | i1 <;> rcases List.mem_cons.1 hz2 with e' | i2
    · subst e e'; exact absurd rfl hne
    · subst e; exact fun hk' => hap k hk (Or.inr ⟨z', i2, hk'⟩)
    · subst e'; exact fun hk' => hap k hk' (Or.inr ⟨z, i1, hk⟩)
    · exact h.qs.apart z i1 z' i2 hne k hk
  · exact (Chg.of_below hb1).trans hc (fun k hk => Or.inl (Or.inl (Or.inr (Or.inl hk))))
  · rcases hk with e | e | e
    · exact Or.inl (Or.inl (Or.inl e))
    · exact Or.inl (Or.inl (Or.inr (Or.inl e)))
    · rw [List.map_cons] at e
      rcases List.mem_cons.1 e with e | e
      · right; omega
      · exact Or.inl (Or.inl (Or.inr (Or.inr e)))
/-- the ring behind it -/
theorem GQ.appended {w W : World} {B R m : Nat} {q : Int} {g : Bool} {ns : List Nd} {x y : Nat → Nat} {n : Nd} {v : Value} {aft bef : Nat → Value} {x' y' : Nat → Nat} (hBw : B ≤ w.heap.size) (h : RIn w B R m q g ns x y) (hq : QIs w B n.q n.r.its n.F) (h2 : GQ w (footG R m ns) B R m q v g (n :: ns) aft bef W)
    (hv : v = visOf (ns ++ [n])) (hx : ∀ z ∈ n :: ns, pB (x' z.b) = aft z.b) (hy : ∀ z ∈ n :: ns, pB (y' z.b) = bef z.b) (hr : Rb.IsRing x' y' (ns.map (·.b) ++ [n.b])) :
    RIn W B R m q g (ns ++ [n]) x' y' ∧ Chg (footG R m ns) w W ∧ ∀ k, footG R m (ns ++ [n]) k → footG R m ns k ∨ n.F k ∨ w.heap.size ≤ k := by
  have hp : (n :: ns).Perm (ns ++ [n]) := (List.perm_append_singleton n ns).symm
  have hf : ∀ k, footG R m (ns ++ [n]) k → footG R m ns k ∨ n.F k ∨ w.heap.size ≤ k := fun k hk => by
    rcases (footG_perm hp k).2 hk with hk1 | ⟨z, hz, hk1⟩
    · rcases h2.f k hk1 with e | e
      · exact Or.inl e
      · exact Or.inr (Or.inr e)
    · rcases List.mem_cons.1 hz with e | hz
      · subst e; exact Or.inr (Or.inl hk1)
      · exact Or.inl (Or.inr ⟨z, hz, hk1⟩)
  refine ⟨⟨?_, h2.qs.perm hp, by rw [List.map_append]; exact hr, fun k hk => ?_⟩, h2.c, hf⟩
  · rw [← hv]
    exact (h2.r.perm hp).congr (fun z hz => hx z (hp.mem_iff.2 hz)) (fun z hz => hy z (hp.mem_iff.2 hz))
  · rcases hf k hk with e | e | e
    · exact h.lo k e
    · exact (hq.lt k e).1
    · omega
end Go.Proofs.Ytgeoebodlcbebaa

namespace Go.Proofs.Ytgeoebodlcbebaa
open Go.RowKit
open Rb (Nd)
set_option linter.unusedVariables false

/-- a ring's links behind Append -/
structure RetA (B R m : Nat) (q : Int) (g : Bool) (ns : List Nd) (n : Nd) (w : World) (e : Ending) (w' : World) : Prop where
  e : e = .returned (.tuple #[])
  s : ∃ b x y, RIn w' B R m q g (ns ++ [{ n with b := b }]) x y ∧ ∀ k, footG R m (ns ++ [{ n with b := b }]) k → footG R m ns k ∨ n.F k ∨ w.heap.size ≤ k
  c : Chg (footG R m ns) w w'
abbrev preA (n : Nd) (w : World) : World := ((w.alloc (flO n)).alloc (linkO n (.pointer none) (.pointer none)))
theorem append_prep {B R m : Nat} {q : Int} {g : Bool} {ns : List Nd} {x y : Nat → Nat} {n : Nd} {w W : World} (h : RIn w B R m q g ns x y) (hW : W = preA n w ∨ W = (preA n w).drew) (hl : ns.length ≤ 1000000)
    (ht : n.t = 69) (hq : QIs w B n.q n.r.its n.F) (hap : ∀ k, n.F k → ¬ footG R m ns k) (hf : (Lit.int .i64 n.r.f).wf = true) (hno : ∀ n' ∈ ns, n'.r.f ≠ n.r.f) :
    Below w.heap.size w W ∧ W.heap[w.heap.size]? = some (flO n) ∧ W.heap[w.heap.size + 1]? = some (linkO n (.pointer none) (.pointer none)) ∧ ∃ w3, (Instr.mapUpdate 95 (.map (some m)) (.int .i64 n.r.f) (.pointer (some ⟨w.heap.size + 1, 0, none⟩))).run Try.prog W = .ok () w3 ∧
      GQ w (footG R m ns) B R m q (visOf ns) g ({ n with b := w.heap.size + 1 } :: ns) (updV (fun k => pB (x k)) (w.heap.size + 1) (.pointer none)) (updV (fun k => pB (y k)) (w.heap.size + 1) (.pointer none)) w3 := by
  have hz0 : (w.alloc (flO n)).heap.size = w.heap.size + 1 := by simp
  have hz1 : W.heap.size = w.heap.size + 2 := by rcases hW with e | e <;> rw [e] <;> simp [preA]
  have hb1 : Below w.heap.size w W := by
    have := ((Below.refl w.heap.size w).alloc (Nat.le_refl _) (flO n)).alloc (by simp) (linkO n (.pointer none) (.pointer none))
    rcases hW with e | e <;> rw [e]
    · exact this
    · exact this.drew
  have hnew : W.heap[w.heap.size + 1]? = some (linkO n (.pointer none) (.pointer none)) := by
    have := heap_alloc_new (w.alloc (flO n)) (linkO n (.pointer none) (.pointer none))
    rw [hz0] at this
    rcases hW with e | e <;> rw [e] <;> exact this
  have hbox : W.heap[w.heap.size]? = some (flO n) := by
    have : (preA n w).heap[w.heap.size]? = some (flO n) := (Lib.alloc_old _ _ _ (by simp)).trans (heap_alloc_new _ _)
    rcases hW with e | e <;> rw [e] <;> exact this
  have hr1 := h.r.below hb1
  obtain ⟨w3, hrun, hM, hC, hz3⟩ := run_putR hr1.map ⟨w.heap.size + 1, n.r.f, 0⟩ hf (by simp; omega) (fun k hk => by
    obtain ⟨z, hz, rfl⟩ := List.mem_map.1 hk
    exact hno z hz)
  exact ⟨hb1, hbox, hnew, w3, hrun, GQ.made (n := { n with b := w.heap.size + 1 }) h hb1 rfl (by omega) hnew ht hq hap hf hno hM hC⟩
set_option maxRecDepth 100000 in
set_option maxHeartbeats 4000000 in
theorem appendNil (B R m : Nat) (q : Int) (g : Bool) (x y : Nat → Nat) (n : Nd) (w : World) (h : RIn w B R m q g [] x y) (hB : B ≤ w.heap.size)
    (ht : n.t = 69) (hq : QIs w B n.q n.r.its n.F) (hap : ∀ k, n.F k → ¬ footG R m [] k) (hf : (Lit.int .i64 n.r.f).wf = true) :
    Calls Try.prog 38 #[.pointer (some ⟨R, 0, none⟩), flV n] w (RetA B R m q g [] n w) := by
  obtain ⟨hb1, hbox, hnew, w3, hrun, hG⟩ := append_prep h (Or.inr rfl) (by simp) ht hq hap hf (by simp)
  have hbN : Below w.heap.size w (preA n w) := ((Below.refl w.heap.size w).alloc (Nat.le_refl _) (flO n)).alloc (by simp) (linkO n (.pointer none) (.pointer none))
  obtain ⟨_, c1, _, _⟩ := (h.r.below hbN).cs
  have d0 : (preA n w).cell? ⟨w.heap.size, 1, none⟩ = some (.int .i64 n.r.f) := by rw [cell_of_row _ _ _ _ _ _ (show (preA n w).heap[w.heap.size]? = some (flO n) from (Lib.alloc_old _ _ _ (by simp)).trans (heap_alloc_new _ _))]; rfl
  obtain ⟨T, hT⟩ : ∃ T, T = w.heap.size + 1 := ⟨_, rfl⟩
  rw [← hT] at hG hrun
  obtain ⟨_, _, x2, _⟩ := hG.r.cs
  replace x2 : w3.cell? ⟨R, 2, none⟩ = some (.pointer none) := x2
  have f2 := hG.r.fr 2
  have hn1 : ({ n with b := T } : Nd) ∈ [({ n with b := T } : Nd)] := by simp
  have g1 := hG.vis (.pointer (some ⟨T, 0, none⟩))
  obtain ⟨_, _, _, _, x4, _⟩ := g1.r.nd6 hn1
  have f4 := g1.r.nf hn1 4
  have g2 := g1.setB hn1 (.pointer (some ⟨T, 0, none⟩))
  obtain ⟨_, _, y2, _⟩ := g2.r.cs
  obtain ⟨_, _, _, _, y4, _⟩ := g2.r.nd6 hn1
  simp only [updV_same] at y4
  have J1 := Lib.hid (gq_join T T _ g2 (by simp) (by simp))
  have J2 := Lib.hid (fun W hW => gq_join (w0 := w) (F := footG R m []) (B := B) (R := R) (m := m) (q := q) (v := .pointer (some ⟨T, 0, none⟩)) (g := g) (ns := [{ n with b := T }]) (aft := updV (updV (fun k => pB (x k)) T (.pointer none)) T (.pointer (some ⟨T, 0, none⟩))) (bef := updV (updV (updV (fun k => pB (y k)) T (.pointer none)) T (.pointer (some ⟨T, 0, none⟩))) T (.pointer (some ⟨T, 0, none⟩))) T T W hW (by simp) (by simp))
  have HV := Lib.hid (fun W (hW : GQ w (footG R m []) B R m q (.pointer (some ⟨T, 0, none⟩)) g [{ n with b := T }] (updV (updV (fun k => pB (x k)) T (.pointer none)) T (.pointer (some ⟨T, 0, none⟩))) (updV (updV (updV (fun k => pB (y k)) T (.pointer none)) T (.pointer (some ⟨T, 0, none⟩))) T (.pointer (some ⟨T, 0, none⟩))) W) => hW.r.cs.2.2.1)
  have hfin : ∀ W, GQ w (footG R m []) B R m q (.pointer (some ⟨T, 0, none⟩)) g [{ n with b := T }] (updV (updV (updV (fun k => pB (x k)) T (.pointer none)) T (.pointer (some ⟨T, 0, none⟩))) T (.pointer (some ⟨T, 0, none⟩))) (updV (updV (updV (updV (fun k => pB (y k)) T (.pointer none)) T (.pointer (some ⟨T, 0, none⟩))) T (.pointer (some ⟨T, 0, none⟩))) T (.pointer (some ⟨T, 0, none⟩))) W → RetA B R m q g [] n w (.returned (.tuple #[])) W := fun W hW => by
    obtain ⟨r1, r2, r3⟩ := GQ.appended (n := { n with b := T }) (x' := fun _ => T) (y' := fun _ => T) hB h hq hW rfl (fun z hz => by simp at hz; subst hz; simp [updV]) (fun z hz => by simp at hz; subst hz; simp [updV]) (Rb.IsRing.one rfl rfl)
    exact ⟨rfl, ⟨T, _, _, r1, r3⟩, r2⟩
  have HF := Lib.hid hfin
  have HT := Lib.hid hT
  unfold preA at *
  clear hb1 hbox hnew h hq hap hf hG g1 g2 hn1 hfin hbN hB
  clear hT
  go_enter Try.func38, Try.ntmps38
  go_wp2
  rw [← HT.out]
  go_region
  go_wp2_with (first | (go_at_call 57; (with_reducible refine J1.out.mono ?_); rintro e wA ⟨rfl, hA⟩; have z2 := HV.out _ hA.out) | (go_at_call 57; (with_reducible refine (J2.out _ hA.out).mono ?_); rintro e wB ⟨rfl, hB⟩))
  go_end0
  exact HF.out _ hB.out
set_option maxRecDepth 100000 in
set_option maxHeartbeats 4000000 in
theorem appendMore (B R m : Nat) (q : Int) (g : Bool) (r : Nd) (t : List Nd) (x y : Nat → Nat) (n : Nd) (w : World) (h : RIn w B R m q g (r :: t) x y) (hB : B ≤ w.heap.size) (hl : t.length ≤ 100000)
    (ht : n.t = 69) (hq : QIs w B n.q n.r.its n.F) (hap : ∀ k, n.F k → ¬ footG R m (r :: t) k) (hf : (Lit.int .i64 n.r.f).wf = true) (hno : ∀ n' ∈ r :: t, n'.r.f ≠ n.r.f) :
    Calls Try.prog 38 #[.pointer (some ⟨R, 0, none⟩), flV n] w (RetA B R m q g (r :: t) n w) := by
  obtain ⟨hb1, hbox, hnew, w3, hrun, hG⟩ := append_prep h (Or.inr rfl) (by simp; omega) ht hq hap hf hno
  have hbN : Below w.heap.size w (preA n w) := ((Below.refl w.heap.size w).alloc (Nat.le_refl _) (flO n)).alloc (by simp) (linkO n (.pointer none) (.pointer none))
  obtain ⟨_, c1, _, _⟩ := (h.r.below hbN).cs
  have d0 : (preA n w).cell? ⟨w.heap.size, 1, none⟩ = some (.int .i64 n.r.f) := by rw [cell_of_row _ _ _ _ _ _ (show (preA n w).heap[w.heap.size]? = some (flO n) from (Lib.alloc_old _ _ _ (by simp)).trans (heap_alloc_new _ _))]; rfl
  obtain ⟨T, hT⟩ : ∃ T, T = w.heap.size + 1 := ⟨_, rfl⟩
  have hlt : ∀ n' ∈ r :: t, n'.b ≠ T := fun n' hn' e => by have := h.r.lt n'.b (Or.inr (Or.inr (List.mem_map.2 ⟨n', hn', rfl⟩))); omega
  rw [← hT] at hG hrun
  have hrT : r.b ≠ T := hlt r (by simp)
  have hin := (h.ring.in_of (x := r.b) (by simp)).2
  have hyT : y r.b ≠ T := fun e => by
    rw [e] at hin
    obtain ⟨n', hn', e2⟩ := List.mem_map.1 hin
    exact hlt n' hn' e2
  have hpush := Rb.IsRing.push (x := T) (xs := t.map (·.b)) h.ring (fun hm => by
    obtain ⟨n', hn', e2⟩ := List.mem_map.1 (show T ∈ (r :: t).map (·.b) from hm)
    exact hlt n' hn' e2)
  have hrm : r ∈ ({ n with b := T } : Nd) :: (r :: t) := by simp
  obtain ⟨_, _, x2, _⟩ := hG.r.cs
  replace x2 : w3.cell? ⟨R, 2, none⟩ = some (.pointer (some ⟨r.b, 0, none⟩)) := x2
  obtain ⟨_, _, _, _, x4, _⟩ := hG.r.nd6 hrm
  rw [updV_other _ _ hrT] at x4
  have J1 := Lib.hid (gq_join (y r.b) T _ hG (by rw [List.map_cons]; exact List.mem_cons_of_mem _ hin) (by simp))
  have J2 := Lib.hid (fun W hW => gq_join (w0 := w) (F := footG R m (r :: t)) (B := B) (R := R) (m := m) (q := q) (v := visOf (r :: t)) (g := g) (ns := { n with b := T } :: (r :: t)) (aft := updV (updV (fun k => pB (x k)) T (.pointer none)) (y r.b) (.pointer (some ⟨T, 0, none⟩))) (bef := updV (updV (fun k => pB (y k)) T (.pointer none)) T (.pointer (some ⟨y r.b, 0, none⟩))) T r.b W hW (by simp) (by simp))
  have HV := Lib.hid (fun W (hW : GQ w (footG R m (r :: t)) B R m q (visOf (r :: t)) g ({ n with b := T } :: (r :: t)) (updV (updV (fun k => pB (x k)) T (.pointer none)) (y r.b) (.pointer (some ⟨T, 0, none⟩))) (updV (updV (fun k => pB (y k)) T (.pointer none)) T (.pointer (some ⟨y r.b, 0, none⟩))) W) => (show W.cell? ⟨R, 2, none⟩ = some (.pointer (some ⟨r.b, 0, none⟩)) from hW.r.cs.2.2.1))
  have hfin : ∀ W, GQ w (footG R m (r :: t)) B R m q (visOf (r :: t)) g ({ n with b := T } :: (r :: t)) (updV (updV (updV (fun k => pB (x k)) T (.pointer none)) (y r.b) (.pointer (some ⟨T, 0, none⟩))) T (.pointer (some ⟨r.b, 0, none⟩))) (updV (updV (updV (fun k => pB (y k)) T (.pointer none)) T (.pointer (some ⟨y r.b, 0, none⟩))) r.b (.pointer (some ⟨T, 0, none⟩))) W → RetA B R m q g (r :: t) n w (.returned (.tuple #[])) W := fun W hW => by
    obtain ⟨r1, r2, r3⟩ := GQ.appended (n := { n with b := T }) (x' := Rb.upd (Rb.upd x (y r.b) T) T r.b) (y' := Rb.upd (Rb.upd y T (y r.b)) r.b T) hB h hq hW rfl (fun z hz => by
        rcases List.mem_cons.1 hz with e | hz
        · subst e
          simp [updV, Rb.upd]
        · have e1 := hlt z hz
          by_cases e2 : z.b = y r.b
          · simp [updV, Rb.upd, e2, hyT]
          · simp [updV, Rb.upd, e2, e1]) (fun z hz => by
        rcases List.mem_cons.1 hz with e | hz
        · subst e
          simp [updV, Rb.upd, Ne.symm hrT]
        · have e1 := hlt z hz
          by_cases e2 : z.b = r.b
          · simp [updV, Rb.upd, e2]
          · simp [updV, Rb.upd, e2, e1]) hpush
    exact ⟨rfl, ⟨T, _, _, r1, r3⟩, r2⟩
  have HF := Lib.hid hfin
  have HT := Lib.hid hT
  unfold preA at *
  generalize y r.b = Y at *
  clear hb1 hbox hnew h hq hap hf hG hrm hfin hbN hB hno hin hpush hlt hyT hrT
  clear hT
  go_enter Try.func38, Try.ntmps38
  go_wp2
  rw [← HT.out]
  go_region
  go_wp2_with (first | (go_at_call 57; (with_reducible refine J1.out.mono ?_); rintro e wA ⟨rfl, hA⟩; have z2 := HV.out _ hA.out) | (go_at_call 57; (with_reducible refine (J2.out _ hA.out).mono ?_); rintro e wB ⟨rfl, hB⟩))
  go_end0
  exact HF.out _ hB.out
end Go.Proofs.Ytgeoebodlcbebaa

namespace Go.Proofs.Ytgeoebodlcbebaa
open Go.RowKit
open Rb (Nd)
set_option linter.unusedVariables false

theorem vis_dfc (a b : List Nd) (n : Nd) (d : Int) : visOf (a ++ n.dfc d :: b) = visOf (a ++ n :: b) := by cases a <;> rfl
theorem map_dfc (a b : List Nd) (n : Nd) (d : Int) : (a ++ n.dfc d :: b).map (·.b) = (a ++ n :: b).map (·.b) := by simp [Rb.Nd.dfc]
theorem mem_dfc {a b : List Nd} {n : Nd} {d : Int} {z : Nd} (h : z ∈ a ++ n.dfc d :: b) : ∃ z' ∈ a ++ n :: b, z.b = z'.b ∧ z.q = z'.q ∧ z.t = z'.t ∧ z.F = z'.F ∧ z.r.its = z'.r.its := by
  rcases List.mem_append.1 h with h | h
  · exact ⟨z, by simp [h], rfl, rfl, rfl, rfl, rfl⟩
  · rcases List.mem_cons.1 h with h | h
    · subst h; exact ⟨n, by simp, rfl, rfl, rfl, rfl, rfl⟩
    · exact ⟨z, by simp [h], rfl, rfl, rfl, rfl, rfl⟩
theorem mem_dfc' {a b : List Nd} {n : Nd} {d : Int} {z : Nd} (h : z ∈ a ++ n :: b) : ∃ z' ∈ a ++ n.dfc d :: b, z.b = z'.b ∧ z.F = z'.F := by
  rcases List.mem_append.1 h with h | h
  · exact ⟨z, by simp [h], rfl, rfl⟩
  · rcases List.mem_cons.1 h with h | h
    · subst h; exact ⟨z.dfc d, by simp, rfl, rfl⟩
    · exact ⟨z, by simp [h], rfl, rfl⟩
theorem footR_dfc {R m : Nat} (a b : List Nd) (n : Nd) (d : Int) (k : Nat) : footR R m (a ++ n.dfc d :: b) k ↔ footR R m (a ++ n :: b) k := by unfold footR; rw [map_dfc]
theorem footG_dfc {R m : Nat} (a b : List Nd) (n : Nd) (d : Int) (k : Nat) : footG R m (a ++ n.dfc d :: b) k ↔ footG R m (a ++ n :: b) k := by
  unfold footG
  rw [footR_dfc]
  constructor
  · rintro (h | ⟨z, hz, h⟩)
    · exact Or.inl h
    · obtain ⟨z', hz', _, _, _, e, _⟩ := mem_dfc hz
      exact Or.inr ⟨z', hz', by rw [← e]; exact h⟩
  · rintro (h | ⟨z, hz, h⟩)
    · exact Or.inl h
    · obtain ⟨z', hz', _, e⟩ := mem_dfc' (d := d) hz
      exact Or.inr ⟨z', hz', by rw [← e]; exact h⟩
theorem QsAt.dfc {w : World} {B : Nat} {X X' : Nat → Prop} {a b : List Nd} {n : Nd} (h : QsAt w B X (a ++ n :: b)) (d : Int) (hX : ∀ k, X' k → X k) : QsAt w B X' (a ++ n.dfc d :: b) := by
  refine ⟨fun z hz => ?_, fun z hz => ?_, fun z hz k hk hx => ?_, fun z hz z2 hz2 hne k hk hk2 => ?_⟩
  · obtain ⟨z', hz', e1, e2, e3, e4, e5⟩ := mem_dfc hz
    rw [e3]; exact h.src z' hz'
  · obtain ⟨z', hz', e1, e2, e3, e4, e5⟩ := mem_dfc hz
    rw [e2, e4, e5]; exact h.q z' hz'
  · obtain ⟨z', hz', e1, e2, e3, e4, e5⟩ := mem_dfc hz
    rw [e4] at hk; exact h.own z' hz' k hk (hX k hx)
  · obtain ⟨z', hz', e1, e2, e3, e4, e5⟩ := mem_dfc hz
    obtain ⟨z2', hz2', f1, f2, f3, f4, f5⟩ := mem_dfc hz2
    rw [e4] at hk
    rw [f4] at hk2
    exact h.apart z' hz' z2' hz2' (fun e => hne (by rw [e1, f1, e])) k hk hk2
theorem RIn.dfc {w : World} {B R m : Nat} {q : Int} {g : Bool} {a b : List Nd} {n : Nd} {x y : Nat → Nat} (h : RIn w B R m q g (a ++ n :: b) x y) (d : Int) : RIn (w.setCell ⟨n.b, 3, none⟩ (.int .i64 d)) B R m q g (a ++ n.dfc d :: b) x y := by
  have hn : n ∈ a ++ n :: b := by simp
  refine ⟨by rw [vis_dfc]; exact h.r.dfc d, (h.qs.keep (fun z hz k hk => Below.heap_setCell _ _ _ _ (fun e => h.qs.own z hz k hk (Or.inr (Or.inr (by rw [e]; exact List.mem_map.2 ⟨n, hn, rfl⟩)))))).dfc d (fun k hk => (footR_dfc a b n d k).1 hk), by rw [map_dfc]; exact h.ring, fun k hk => h.lo k ((footG_dfc a b n d k).1 hk)⟩
theorem RIn.giv {w : World} {B R m : Nat} {q : Int} {g : Bool} {ns : List Nd} {x y : Nat → Nat} (h : RIn w B R m q g ns x y) (g' : Bool) : RIn (w.setCell ⟨R, 3, none⟩ (.bool g')) B R m q g' ns x y :=
  ⟨h.r.giv g', h.qs.keep (fun z hz k hk => Below.heap_setCell _ _ _ _ (fun e => h.qs.own z hz k hk (Or.inl e))), h.ring, h.lo⟩
/-- a ring in the course of Pick -/
structure PkQ (w0 : World) (F : Nat → Prop) (B R m : Nat) (s s' : Fl.St) (ns : List Nd) (x y : Nat → Nat) (W : World) : Prop where
  r : RIn W B R m s'.q s'.g ns x y
  l : ns.map (·.r) = s'.l
  f : ∀ k, footG R m ns k ↔ F k
  c : Chg F w0 W
  good : Fl.Good s'
  lim : Fl.Lim 64 s'
  p : s'.pick = s.pick
section
variable {w0 W W' : World} {F : Nat → Prop} {B R m : Nat} {s s' : Fl.St} {ns : List Nd} {x y : Nat → Nat}
theorem PkQ.below (h : PkQ w0 F B R m s s' ns x y W) (hb : Below W.heap.size W W') : PkQ w0 F B R m s s' ns x y W' := ⟨h.r.below hb, h.l, h.f, h.c.then hb, h.good, h.lim, h.p⟩
theorem PkQ.turn {n : Nd} {t : List Nd} {e : Ending} (h : PkQ w0 F B R m s s' (n :: t) x y W) (hg : s'.g = true) (hr : s'.ready = false) (hv : RetV B R m s'.q false (t ++ [n]) x y W e W') : PkQ w0 F B R m s s'.turn (t ++ [n]) x y W' := by
  have hl : s'.l = n.r :: t.map (·.r) := by rw [← h.l]; rfl
  have hgv : s'.give = s' := Fl.give_yes hg
  have hp := Fl.pick_step h.good h.lim (by rw [hgv]; exact hr)
  rw [hgv] at hp
  have hperm : (n :: t).Perm (t ++ [n]) := (List.perm_append_singleton n t).symm
  have hR : F R := (h.f R).1 (Or.inl (Or.inl rfl))
  refine ⟨?_, ?_, fun k => (footG_perm hperm k).symm.trans (h.f k), h.c.trans hv.c (fun k hk => Or.inl (by rw [show k = R from hk]; exact hR)), h.good.turn, h.lim.turn (fun r hr' => (h.good.ok r hr').ne) hr hg, hp.symm.trans h.p⟩
  · rw [Fl.turn_eq hl]; exact hv.s
  · rw [Fl.turn_eq hl]; simp
theorem PkQ.give {n : Nd} {t : List Nd} (h : PkQ w0 F B R m s s' (n :: t) x y W) (hg : s'.g = false) : PkQ w0 F B R m s s'.give (n.dfc (n.r.d + s'.q * n.r.w) :: t) x y ((W.setCell ⟨n.b, 3, none⟩ (.int .i64 (n.r.d + s'.q * n.r.w))).drew.setCell ⟨R, 3, none⟩ (.bool true)) := by
  have hl : s'.l = n.r :: t.map (·.r) := by rw [← h.l]; rfl
  have hgv := Fl.give_no hl hg
  have h1 := RIn.dfc (a := []) (b := t) h.r (n.r.d + s'.q * n.r.w)
  have h2 := (h1.below (Below.refl _ _).drew).giv true
  have hb : F n.b := (h.f n.b).1 (Or.inl (Or.inr (Or.inr (by simp))))
  have hR : F R := (h.f R).1 (Or.inl (Or.inl rfl))
  refine ⟨by rw [hgv]; exact h2, by rw [hgv]; simp [Rb.Nd.dfc], fun k => (footG_dfc [] t n _ k).trans (h.f k), ?_, h.good.give, h.lim.give, ?_⟩
  · exact ((h.c.setCell (p := ⟨n.b, 3, none⟩) (Or.inl hb) _).drew).setCell (p := ⟨R, 3, none⟩) (Or.inl hR) _
  · rw [← h.p]
    have hgg : s'.give.give = s'.give := Fl.give_yes (Fl.give_g (by rw [hl]; simp))
    cases hr : s'.give.ready with
    | true => rw [Fl.pick_done hr, Fl.pick_done (by rw [hgg]; exact hr), hgg]
    | false => rw [Fl.pick_step h.good h.lim hr, Fl.pick_step h.good.give h.lim.give (by rw [hgg]; exact hr), hgg]
end
end Go.Proofs.Ytgeoebodlcbebaa
