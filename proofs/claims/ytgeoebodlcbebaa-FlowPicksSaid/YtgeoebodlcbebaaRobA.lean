/-
  A ring of flows in memory: its links in a map; two links joined.
-/
import Derived.Test.YtgeoebodlcbebaaFifoG
import Derived.Test.YtgeoebodlcbebaaRobMath
namespace Rb
/-- a link: its block, its source (its type, its block, its blocks), its row -/
structure Nd where
  b : Nat
  q : Nat
  t : Go.TypeId
  F : Nat → Prop
  r : Fl.Rw
abbrev Nd.src (n : Nd) : Go.Value := .iface n.t (.pointer (some ⟨n.q, 0, none⟩))
def Nd.key (n : Nd) : Ff.Nd := ⟨n.b, n.r.f, 0⟩
def Nd.dfc (n : Nd) (d : Int) : Nd := { n with r := { n.r with d := d } }
theorem keys_id (ns : List Nd) : (ns.map Nd.key).map (·.id) = ns.map (·.r.f) := by rw [List.map_map]; rfl
end Rb
namespace Go.Proofs.Ytgeoebodlcbebaa
open Go.RowKit
open Rb (Nd)
set_option linter.unusedVariables false

abbrev pB (b : Nat) : Value := .pointer (some ⟨b, 0, none⟩)
abbrev flV (n : Nd) : Value := .agg #[n.src, .int .i64 n.r.f, .int .i64 n.r.w, .int .i64 n.r.d]
abbrev flZ : Value := .agg #[.nilIface, .int .i64 0, .int .i64 0, .int .i64 0]
abbrev linkO (n : Nd) (p x : Value) : Obj := .cells #[n.src, .int .i64 n.r.f, .int .i64 n.r.w, .int .i64 n.r.d, p, x] 110
abbrev robO (q : Int) (m : Nat) (v : Value) (g : Bool) : Obj := .cells #[.int .i64 q, .map (some m), v, .bool g] 98
def updV (f : Nat → Value) (x : Nat) (u : Value) : Nat → Value := fun z => if z = x then u else f z
theorem updV_same (f : Nat → Value) (x : Nat) (u : Value) : updV f x u x = u := by simp [updV]
theorem updV_other (f : Nat → Value) {x z : Nat} (u : Value) (h : z ≠ x) : updV f x u z = f z := by simp [updV, h]
/-- '_, there := m[k]' as a run -/
theorem run_lookR {w : World} {b : Nat} {l : List Ff.Nd} (hgd : (l.map (·.id)).Nodup) (hM : MapL w b l) (k : Int) (hk : (Lit.int .i64 k).wf = true) :
    (Instr.lookup 95 (.map (some b)) (.int .i64 k) true).run Try.prog w = .ok (.tuple #[ptrV (Ff.at_ l k), .bool (Ff.at_ l k).isSome]) w := by
  obtain ⟨D, hD, hH⟩ := hM
  obtain ⟨v, ps, hrun, hv⟩ := hD.look_ok intKeyed Try.underlying95 (Try.zeroValue96 w) (ptrR_mk none) (keyL_mk k hk)
  rw [hH.has_eq] at hrun
  rw [hH.at_eq hgd] at hv
  obtain ⟨p, rfl, hp⟩ := ptrR_inv hv
  rw [← ptrD_inj hp] at hrun
  exact hrun
/-- 'm[k] = p' as a run, k not there -/
theorem run_putR {w : World} {b : Nat} {l : List Ff.Nd} (hM : MapL w b l) (n : Ff.Nd) (hk : (Lit.int .i64 n.id).wf = true) (hl : l.length ≤ 1000001) (hn : ∀ m ∈ l, m.id ≠ n.id) :
    ∃ w', (Instr.mapUpdate 95 (.map (some b)) (.int .i64 n.id) (.pointer (some ⟨n.b, 0, none⟩))).run Try.prog w = .ok () w' ∧ MapL w' b (n :: l) ∧ Chg (fun k => k = b) w w' ∧ w'.heap.size = w.heap.size := by
  obtain ⟨D, hD, hH⟩ := hM
  obtain ⟨w', hrun, h1, h2⟩ := hD.store intKeyed Try.underlying95 (show l.length < maxLen by unfold maxLen; omega) (keyL_mk n.id hk) (ptrR_mk (some n.b))
  have hg2 := h2.grown
  have hsz : w'.heap.size = w.heap.size := by obtain ⟨es, clock, es', clock', hb, rfl⟩ := h2; simp [ChangeMaps.setBlock]
  exact ⟨w', hrun, ⟨_, by simpa using h1, hH.put n hn⟩, ⟨hg2.os, hg2.tape, hg2.output, hg2.size, fun k hk hne => hg2.block k hk (fun e => hne (by cases e; rfl))⟩, hsz⟩
section
variable (w : World) {ops : Array Oper} {rest : List Oper} {o : Oper} {a : Act} {Q : Exit → Act → World → Prop}
/-- 'delete(m, k)', k there -/
theorem wpDelR (hg : o.guard = none) (m x : Operand) (hop : o.op = Op.call { callee := Callee.builtin Builtin.delete, args := #[m, x], argTypes := #[95, 3] })
    (b : Nat) (l1 l2 : List Ff.Nd) (n : Ff.Nd) (hm : a.eval m = .map (some b)) (hM : MapL w b (l1 ++ n :: l2)) (hx : a.eval x = .int .i64 n.id) (hk : (Lit.int .i64 n.id).wf = true) (hgd : ((l1 ++ n :: l2).map (·.id)).Nodup)
    (hK : ∀ w', MapL w' b (l1 ++ l2) → Chg (fun k => k = b) w w' → w'.heap.size = w.heap.size → wpList Try.prog ops Q rest (a.put o.dst (.tuple #[])) w') :
    wpList Try.prog ops Q (o :: rest) a w := by
  obtain ⟨D, hD, hH⟩ := hM
  refine wpList_delete_own _ hg m x _ _ hop 96 intKeyed Try.underlying95 ptrR b _ _ hm hD _ _ hx (keyL_mk n.id hk) ?_
  intro w' h1 h2
  have hg2 := h2.grown
  obtain ⟨es, clock, es', clock', hb, rfl⟩ := h2
  have hH2 := hH.del hgd
  refine hK _ ⟨_, hH2.size ▸ tightL h1, hH2⟩ ⟨hg2.os, hg2.tape, hg2.output, hg2.size, fun k hk hne => hg2.block k hk (fun e => hne (by cases e; rfl))⟩ (by simp [ChangeMaps.setBlock])
/-- 'len(m)' -/
theorem wpLenR (hg : o.guard = none) (m : Operand) (hop : o.op = Op.call { callee := Callee.builtin Builtin.len, args := #[m], argTypes := #[95] })
    (b : Nat) (l : List Ff.Nd) (hm : a.eval m = .map (some b)) (hM : MapL w b l)
    (hK : wpList Try.prog ops Q rest (a.put o.dst (.int .i64 (l.length : Int))) w) :
    wpList Try.prog ops Q (o :: rest) a w := by
  obtain ⟨D, hD, hH⟩ := hM
  refine wpList_len_own _ hg m _ hop 3 96 Try.underlying95 ptrR b _ _ hm hD ?_
  rw [hH.size]
  exact hK
end
/-- block R is a ring: quantum, map in block m, the visited link, given; its links, what stands after and before each -/
structure RAt (w : World) (R m : Nat) (q : Int) (v : Value) (g : Bool) (ns : List Nd) (aft bef : Nat → Value) : Prop where
  tab : w.heap[R]? = some (robO q m v g)
  map : MapL w m (ns.map Nd.key)
  node : ∀ n ∈ ns, w.heap[n.b]? = some (linkO n (bef n.b) (aft n.b))
  ndb : (ns.map (·.b)).Nodup
  ndi : (ns.map (·.r.f)).Nodup
  small : ∀ n ∈ ns, (Lit.int .i64 n.r.f).wf = true
def footR (R m : Nat) (ns : List Nd) (k : Nat) : Prop := k = R ∨ k = m ∨ k ∈ ns.map (·.b)
section
variable {w w' : World} {R m : Nat} {q : Int} {v : Value} {g : Bool} {ns : List Nd} {aft bef : Nat → Value}
theorem RAt.lt (h : RAt w R m q v g ns aft bef) : ∀ k, footR R m ns k → k < w.heap.size := by
  rintro k (rfl | rfl | hk)
  · exact lt_block h.tab
  · exact h.map.lt
  · obtain ⟨n, hn, rfl⟩ := List.mem_map.1 hk
    exact lt_block (h.node n hn)
theorem RAt.keep (h : RAt w R m q v g ns aft bef) (hk : ∀ k, footR R m ns k → w'.heap[k]? = w.heap[k]?) : RAt w' R m q v g ns aft bef :=
  ⟨(hk R (Or.inl rfl)).trans h.tab, h.map.keep (hk m (Or.inr (Or.inl rfl))), fun n hn => (hk n.b (Or.inr (Or.inr (List.mem_map.2 ⟨n, hn, rfl⟩)))).trans (h.node n hn), h.ndb, h.ndi, h.small⟩
theorem RAt.below (h : RAt w R m q v g ns aft bef) (hb : Below w.heap.size w w') : RAt w' R m q v g ns aft bef := h.keep (fun k hk => hb.block k (h.lt k hk))
theorem RAt.cs (h : RAt w R m q v g ns aft bef) : w.cell? ⟨R, 0, none⟩ = some (.int .i64 q) ∧ w.cell? ⟨R, 1, none⟩ = some (.map (some m)) ∧ w.cell? ⟨R, 2, none⟩ = some v ∧ w.cell? ⟨R, 3, none⟩ = some (.bool g) := by
  have := h.tab
  exact ⟨by rw [cell_of_row w _ _ _ _ _ this]; rfl, by rw [cell_of_row w _ _ _ _ _ this]; rfl, by rw [cell_of_row w _ _ _ _ _ this]; rfl, by rw [cell_of_row w _ _ _ _ _ this]; rfl⟩
theorem RAt.fr (h : RAt w R m q v g ns aft bef) (i : Nat) : w.frozen? ⟨R, i, none⟩ = false := frozen_of w R i _ _ h.tab
theorem RAt.nd6 (h : RAt w R m q v g ns aft bef) {n : Nd} (hn : n ∈ ns) : w.cell? ⟨n.b, 0, none⟩ = some n.src ∧ w.cell? ⟨n.b, 1, none⟩ = some (.int .i64 n.r.f) ∧ w.cell? ⟨n.b, 2, none⟩ = some (.int .i64 n.r.w) ∧ w.cell? ⟨n.b, 3, none⟩ = some (.int .i64 n.r.d) ∧ w.cell? ⟨n.b, 4, none⟩ = some (bef n.b) ∧ w.cell? ⟨n.b, 5, none⟩ = some (aft n.b) := by
  have := h.node n hn
  exact ⟨by rw [cell_of_row w _ _ _ _ _ this]; rfl, by rw [cell_of_row w _ _ _ _ _ this]; rfl, by rw [cell_of_row w _ _ _ _ _ this]; rfl, by rw [cell_of_row w _ _ _ _ _ this]; rfl, by rw [cell_of_row w _ _ _ _ _ this]; rfl, by rw [cell_of_row w _ _ _ _ _ this]; rfl⟩
theorem RAt.nf (h : RAt w R m q v g ns aft bef) {n : Nd} (hn : n ∈ ns) (i : Nat) : w.frozen? ⟨n.b, i, none⟩ = false := frozen_of w _ i _ _ (h.node n hn)
theorem RAt.same_b (h : RAt w R m q v g ns aft bef) {n n' : Nd} (hn : n ∈ ns) (hn' : n' ∈ ns) (e : n.b = n'.b) : n = n' := Ff.inj_of_nd h.ndb hn hn' e
theorem RAt.same_f (h : RAt w R m q v g ns aft bef) {n n' : Nd} (hn : n ∈ ns) (hn' : n' ∈ ns) (e : n.r.f = n'.r.f) : n = n' := Ff.inj_of_nd h.ndi hn hn' e
/-- 'm[k]', there -/
theorem RAt.look (h : RAt w R m q v g ns aft bef) {n : Nd} (hn : n ∈ ns) : (Instr.lookup 95 (.map (some m)) (.int .i64 n.r.f) true).run Try.prog w = .ok (.tuple #[.pointer (some ⟨n.b, 0, none⟩), .bool true]) w := by
  have hgd : ((ns.map Nd.key).map (·.id)).Nodup := by rw [Rb.keys_id]; exact h.ndi
  have := run_lookR hgd h.map n.r.f (h.small n hn)
  have e : Ff.at_ (ns.map Nd.key) n.r.f = some n.b := Ff.at_mem (n := n.key) hgd (List.mem_map.2 ⟨n, hn, rfl⟩)
  rw [e] at this
  exact this
/-- 'm[k]', not there -/
theorem RAt.lookNo (h : RAt w R m q v g ns aft bef) {f : Int} (hf : (Lit.int .i64 f).wf = true) (hn : ∀ n ∈ ns, n.r.f ≠ f) : (Instr.lookup 95 (.map (some m)) (.int .i64 f) true).run Try.prog w = .ok (.tuple #[.pointer none, .bool false]) w := by
  have hgd : ((ns.map Nd.key).map (·.id)).Nodup := by rw [Rb.keys_id]; exact h.ndi
  have := run_lookR hgd h.map f hf
  have e : Ff.at_ (ns.map Nd.key) f = none := Ff.at_none.2 (fun x hx => by
    obtain ⟨n, hn', rfl⟩ := List.mem_map.1 hx
    exact hn n hn')
  rw [e] at this
  exact this
/-- the three kinds of blocks are apart -/
theorem RAt.kinds (h : RAt w R m q v g ns aft bef) : R ≠ m ∧ ∀ k ∈ ns.map (·.b), k ≠ R ∧ k ≠ m := by
  obtain ⟨es, clock, hm⟩ := h.map.cell
  refine ⟨fun e => ?_, fun k hk => ⟨fun e => ?_, fun e => ?_⟩⟩
  · have h9 := h.tab; rw [e, hm] at h9; cases h9
  · obtain ⟨n, hn, rfl⟩ := List.mem_map.1 hk
    have h9 := h.node n hn
    rw [e, h.tab] at h9; exact absurd h9 (by simp)
  · obtain ⟨n, hn, rfl⟩ := List.mem_map.1 hk
    have h9 := h.node n hn
    rw [e, hm] at h9; cases h9
/-- what stands after n is stored -/
theorem RAt.setA (h : RAt w R m q v g ns aft bef) {n : Nd} (hn : n ∈ ns) (y : Value) : RAt (w.setCell ⟨n.b, 5, none⟩ y) R m q v g ns (updV aft n.b y) bef := by
  have hb : n.b ∈ ns.map (·.b) := List.mem_map.2 ⟨n, hn, rfl⟩
  obtain ⟨k1, k2⟩ := h.kinds
  have hoth : ∀ k, k ≠ n.b → (w.setCell ⟨n.b, 5, none⟩ y).heap[k]? = w.heap[k]? := fun k hk => Below.heap_setCell _ _ _ _ hk
  refine ⟨(hoth R (fun e => (k2 _ hb).1 e.symm)).trans h.tab, h.map.keep (hoth m (fun e => (k2 _ hb).2 e.symm)), fun x hx => ?_, h.ndb, h.ndi, h.small⟩
  by_cases e : x.b = n.b
  · obtain rfl := h.same_b hx hn e
    rw [updV_same]
    exact setCell_block w x.b 5 _ _ _ (h.node x hx)
  · rw [updV_other _ _ e]
    exact (hoth x.b e).trans (h.node x hx)
theorem RAt.setB (h : RAt w R m q v g ns aft bef) {n : Nd} (hn : n ∈ ns) (y : Value) : RAt (w.setCell ⟨n.b, 4, none⟩ y) R m q v g ns aft (updV bef n.b y) := by
  have hb : n.b ∈ ns.map (·.b) := List.mem_map.2 ⟨n, hn, rfl⟩
  obtain ⟨k1, k2⟩ := h.kinds
  have hoth : ∀ k, k ≠ n.b → (w.setCell ⟨n.b, 4, none⟩ y).heap[k]? = w.heap[k]? := fun k hk => Below.heap_setCell _ _ _ _ hk
  refine ⟨(hoth R (fun e => (k2 _ hb).1 e.symm)).trans h.tab, h.map.keep (hoth m (fun e => (k2 _ hb).2 e.symm)), fun x hx => ?_, h.ndb, h.ndi, h.small⟩
  by_cases e : x.b = n.b
  · obtain rfl := h.same_b hx hn e
    rw [updV_same]
    exact setCell_block w x.b 4 _ _ _ (h.node x hx)
  · rw [updV_other _ _ e]
    exact (hoth x.b e).trans (h.node x hx)
/-- the visited link, given -/
theorem RAt.vis (h : RAt w R m q v g ns aft bef) (v' : Value) : RAt (w.setCell ⟨R, 2, none⟩ v') R m q v' g ns aft bef := by
  obtain ⟨k1, k2⟩ := h.kinds
  have hoth : ∀ k, k ≠ R → (w.setCell ⟨R, 2, none⟩ v').heap[k]? = w.heap[k]? := fun k hk => Below.heap_setCell _ _ _ _ hk
  exact ⟨setCell_block w R 2 _ _ _ h.tab, h.map.keep (hoth m (fun e => k1 e.symm)), fun x hx => (hoth x.b (k2 _ (List.mem_map.2 ⟨x, hx, rfl⟩)).1).trans (h.node x hx), h.ndb, h.ndi, h.small⟩
theorem RAt.giv (h : RAt w R m q v g ns aft bef) (g' : Bool) : RAt (w.setCell ⟨R, 3, none⟩ (.bool g')) R m q v g' ns aft bef := by
  obtain ⟨k1, k2⟩ := h.kinds
  have hoth : ∀ k, k ≠ R → (w.setCell ⟨R, 3, none⟩ (.bool g')).heap[k]? = w.heap[k]? := fun k hk => Below.heap_setCell _ _ _ _ hk
  exact ⟨setCell_block w R 3 _ _ _ h.tab, h.map.keep (hoth m (fun e => k1 e.symm)), fun x hx => (hoth x.b (k2 _ (List.mem_map.2 ⟨x, hx, rfl⟩)).1).trans (h.node x hx), h.ndb, h.ndi, h.small⟩
theorem RAt.perm {ms : List Nd} (h : RAt w R m q v g ns aft bef) (hp : ns.Perm ms) : RAt w R m q v g ms aft bef :=
  ⟨h.tab, h.map.perm (hp.map _), fun n hn => h.node n (hp.mem_iff.2 hn), (hp.map _).nodup_iff.1 h.ndb, (hp.map _).nodup_iff.1 h.ndi, fun n hn => h.small n (hp.mem_iff.2 hn)⟩
theorem RAt.congr {aft' bef' : Nat → Value} (h : RAt w R m q v g ns aft bef) (h1 : ∀ n ∈ ns, aft' n.b = aft n.b) (h2 : ∀ n ∈ ns, bef' n.b = bef n.b) : RAt w R m q v g ns aft' bef' :=
  ⟨h.tab, h.map, fun n hn => by rw [h1 n hn, h2 n hn]; exact h.node n hn, h.ndb, h.ndi, h.small⟩
end
/-- another node of the same link -/
theorem RAt.swap {w : World} {R m : Nat} {q : Int} {v : Value} {g : Bool} {a b : List Nd} {n n' : Nd} {aft bef : Nat → Value} (h : RAt w R m q v g (a ++ n :: b) aft bef) (h1 : n'.b = n.b) (h2 : n'.t = n.t) (h6 : n'.q = n.q) (h3 : n'.r.f = n.r.f) (h4 : n'.r.w = n.r.w) (h5 : n'.r.d = n.r.d) : RAt w R m q v g (a ++ n' :: b) aft bef := by
  have ek : (a ++ n' :: b).map Nd.key = (a ++ n :: b).map Nd.key := by simp [Nd.key, h1, h3]
  have eb : (a ++ n' :: b).map (·.b) = (a ++ n :: b).map (·.b) := by simp [h1]
  have ef : (a ++ n' :: b).map (·.r.f) = (a ++ n :: b).map (·.r.f) := by simp [h3]
  have hm : ∀ x ∈ a ++ n' :: b, x = n' ∨ x ∈ a ++ n :: b := fun x hx => by
    simp at hx ⊢
    rcases hx with h | h | h <;> simp [h]
  refine ⟨h.tab, by rw [ek]; exact h.map, fun x hx => ?_, by rw [eb]; exact h.ndb, by rw [ef]; exact h.ndi, fun x hx => ?_⟩
  · rcases hm x hx with e | hx
    · subst e
      have := h.node n (by simp)
      have e : linkO x (bef n.b) (aft n.b) = linkO n (bef n.b) (aft n.b) := by unfold linkO Nd.src; rw [h2, h3, h4, h5, h6]
      rw [h1, e]
      exact this
    · exact h.node x hx
  · rcases hm x hx with e | hx
    · subst e; rw [h3]; exact h.small n (by simp)
    · exact h.small x hx
/-- a link with another deficit -/
theorem RAt.dfc {w : World} {R m : Nat} {q : Int} {v : Value} {g : Bool} {a b : List Nd} {n : Nd} {aft bef : Nat → Value} (h : RAt w R m q v g (a ++ n :: b) aft bef) (d : Int) : RAt (w.setCell ⟨n.b, 3, none⟩ (.int .i64 d)) R m q v g (a ++ n.dfc d :: b) aft bef := by
  have hn : n ∈ a ++ n :: b := by simp
  have hb : n.b ∈ (a ++ n :: b).map (·.b) := List.mem_map.2 ⟨n, hn, rfl⟩
  obtain ⟨k1, k2⟩ := h.kinds
  have hoth : ∀ k, k ≠ n.b → (w.setCell ⟨n.b, 3, none⟩ (.int .i64 d)).heap[k]? = w.heap[k]? := fun k hk => Below.heap_setCell _ _ _ _ hk
  have ek : (a ++ n.dfc d :: b).map Nd.key = (a ++ n :: b).map Nd.key := by simp [Nd.key, Rb.Nd.dfc]
  have eb : (a ++ n.dfc d :: b).map (·.b) = (a ++ n :: b).map (·.b) := by simp [Rb.Nd.dfc]
  have ef : (a ++ n.dfc d :: b).map (·.r.f) = (a ++ n :: b).map (·.r.f) := by simp [Rb.Nd.dfc]
  have hnd := h.ndb
  have hne : ∀ x ∈ a ++ b, x ∈ a ++ n :: b ∧ x.b ≠ n.b := fun x hx => by
    rw [List.map_append, List.map_cons, List.nodup_append] at hnd
    obtain ⟨_, h2, h3⟩ := hnd
    rw [List.nodup_cons] at h2
    rcases List.mem_append.1 hx with h4 | h4
    · exact ⟨by simp [h4], h3 x.b (List.mem_map.2 ⟨x, h4, rfl⟩) n.b (by simp)⟩
    · exact ⟨by simp [h4], fun e => h2.1 (by rw [← e]; exact List.mem_map.2 ⟨x, h4, rfl⟩)⟩
  have hm : ∀ x ∈ a ++ n.dfc d :: b, x = n.dfc d ∨ x ∈ a ++ b := fun x hx => by
    simp at hx ⊢
    rcases hx with h | h | h <;> simp [h]
  refine ⟨(hoth R (fun e => (k2 _ hb).1 e.symm)).trans h.tab, by rw [ek]; exact h.map.keep (hoth m (fun e => (k2 _ hb).2 e.symm)), fun x hx => ?_, by rw [eb]; exact h.ndb, by rw [ef]; exact h.ndi, fun x hx => ?_⟩
  · rcases hm x hx with e | hx
    · subst e
      exact setCell_block w n.b 3 _ _ _ (h.node n hn)
    · obtain ⟨e1, e2⟩ := hne x hx
      exact (hoth x.b e2).trans (h.node x e1)
  · rcases hm x hx with e | hx
    · subst e; exact h.small n hn
    · exact h.small x (hne x hx).1
/-- two links joined -/
structure RetJn (R m : Nat) (q : Int) (v : Value) (g : Bool) (ns : List Nd) (aft bef : Nat → Value) (w : World) (e : Ending) (w' : World) : Prop where
  e : e = .returned (.tuple #[])
  s : RAt w' R m q v g ns aft bef
  c : Chg (fun k => k ∈ ns.map (·.b)) w w'
set_option maxRecDepth 100000 in
set_option maxHeartbeats 4000000 in
theorem joinRC (R m : Nat) (q : Int) (v : Value) (g : Bool) (ns : List Nd) (aft bef : Nat → Value) (x y : Nd) (w : World) (h : RAt w R m q v g ns aft bef) (hx : x ∈ ns) (hy : y ∈ ns) :
    Calls Try.prog 57 #[.pointer (some ⟨x.b, 0, none⟩), .pointer (some ⟨y.b, 0, none⟩)] w (RetJn R m q v g ns (updV aft x.b (.pointer (some ⟨y.b, 0, none⟩))) (updV bef y.b (.pointer (some ⟨x.b, 0, none⟩))) w) := by
  obtain ⟨_, _, _, _, _, d0⟩ := h.nd6 hx
  have f0 := h.nf hx 5
  have h1 := h.setA hx (.pointer (some ⟨y.b, 0, none⟩))
  obtain ⟨_, _, _, _, d1, _⟩ := h1.nd6 hy
  have f1 := h1.nf hy 4
  have h2 := h1.setB hy (.pointer (some ⟨x.b, 0, none⟩))
  have H := Lib.hid h2
  have hxb : x.b ∈ ns.map (·.b) := List.mem_map.2 ⟨x, hx, rfl⟩
  have hyb : y.b ∈ ns.map (·.b) := List.mem_map.2 ⟨y, hy, rfl⟩
  have HC : Hid (Chg (fun k => k ∈ ns.map (·.b)) w ((w.setCell ⟨x.b, 5, none⟩ (.pointer (some ⟨y.b, 0, none⟩))).setCell ⟨y.b, 4, none⟩ (.pointer (some ⟨x.b, 0, none⟩)))) := Lib.hid (((Chg.refl _ w).setCell (p := ⟨x.b, 5, none⟩) (Or.inl hxb) _).setCell (p := ⟨y.b, 4, none⟩) (Or.inl hyb) _)
  clear h h1 h2 hx hy hxb hyb
  go_enter Try.func57, Try.ntmps57
  go_wp2
  go_end0
  exact ⟨rfl, H.out, HC.out⟩
end Go.Proofs.Ytgeoebodlcbebaa
