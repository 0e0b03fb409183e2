/-
  A map of numbers to pointers as a list of nodes, in no order; its operations.
  A queue in memory: its links in a map; two links joined.
  A queue: New, Has, Len, Cost, Head.
  A queue: New, All.
  A queue: Push.
  A queue: Push walks.
  A queue: Drop, Pop.
  A nil queue.
-/
import Derived.Test.YtgeoebodlcbebaaFifoMath
import Derived.Test.YtgeoebodlcbebaaFoot
import Derived.Maps.OwnSet
import Derived.Maps.OwnOps
import Derived.Maps.Views
import Derived.Maps.Ext
import Derived.RegionTactic
import Derived.ChangeAlike
import Derived.BigRegion
import Derived.Laws.ResultCell
import Derived.Test.YtgeoebodlcbebaaRowsG
import Derived.BigQuiet
import Derived.Deep.Cut
import Derived.OrdersHeld
import Derived.Deep.QuietTactic
namespace Ff
/-- a link's block, its item -/
structure Nd where
  b : Nat
  id : Int
  c : Int
def Nd.kv (n : Nd) : E := (n.id, n.c)
/-- the link of a number -/
def at_ : List Nd → Int → Option Nat
  | [], _ => none
  | n :: r, k => if n.id = k then some n.b else at_ r k
theorem at_none {ns : List Nd} {k : Int} : at_ ns k = none ↔ ∀ n ∈ ns, n.id ≠ k := by
  induction ns with
  | nil => simp [at_]
  | cons n r ih =>
    unfold at_
    by_cases h : n.id = k
    · simp [h]
    · simp [h, ih]
theorem at_mem {ns : List Nd} (hg : (ns.map (·.id)).Nodup) {n : Nd} (hn : n ∈ ns) : at_ ns n.id = some n.b := by
  induction ns with
  | nil => cases hn
  | cons m r ih =>
    rw [List.map_cons, List.nodup_cons] at hg
    unfold at_
    rcases List.mem_cons.1 hn with h | h
    · subst h; simp
    · rw [if_neg (fun e => hg.1 (by rw [e]; exact List.mem_map.2 ⟨n, h, rfl⟩))]
      exact ih hg.2 h
theorem at_of {ns : List Nd} {k : Int} {p : Nat} (h : at_ ns k = some p) : ∃ n ∈ ns, n.id = k ∧ n.b = p := by
  induction ns with
  | nil => cases h
  | cons m r ih =>
    unfold at_ at h
    by_cases h1 : m.id = k
    · rw [if_pos h1] at h
      cases h
      exact ⟨m, by simp, h1, rfl⟩
    · rw [if_neg h1] at h
      obtain ⟨n, h2, h3⟩ := ih h
      exact ⟨n, by simp [h2], h3⟩
end Ff
namespace Go.Proofs.Ytgeoebodlcbebaa
open Go.RowKit
open Ff (Nd)
set_option linter.unusedVariables false

theorem intKeyed : Maps.Keyed Try.prog 3 := Maps.int_keyed Try.underlying3
abbrev keyL (id : Int) : Lit := .int .i64 id
theorem keyL_inj {a b : Int} (h : keyL a = keyL b) : a = b := by cases h; rfl
theorem keyL_mk (id : Int) (h : (Lit.int .i64 id).wf = true) : keyOf Try.prog 3 (.int .i64 id) = some (keyL id) := Maps.keyOf_int_mk Try.underlying3 h
/-- what a pointer reads as -/
def ptrD : Option Nat → DataW Unit
  | none => .nil
  | some b => .lit (.int .i64 (b : Int))
def ptrV : Option Nat → Value
  | none => .pointer none
  | some b => .pointer (some ⟨b, 0, none⟩)
def ptrR (v : Value) : Option (DataW Unit × List MemPlace) :=
  match v with
  | .pointer none => some (.nil, [])
  | .pointer (some ⟨b, 0, none⟩) => some (.lit (.int .i64 (b : Int)), [])
  | _ => none
theorem ptrR_mk (p : Option Nat) : ptrR (ptrV p) = some (ptrD p, []) := by cases p <;> rfl
theorem ptrR_inv {v : Value} {d : DataW Unit} {ps : List MemPlace} (h : ptrR v = some (d, ps)) : ∃ p, v = ptrV p ∧ d = ptrD p := by
  unfold ptrR at h
  split at h
  · cases h; exact ⟨none, rfl, rfl⟩
  · cases h; exact ⟨some _, rfl, rfl⟩
  · cases h
theorem ptrD_inj {p q : Option Nat} (h : ptrD p = ptrD q) : p = q := by
  cases p <;> cases q <;> simp [ptrD] at h ⊢
  exact Int.ofNat.inj h
/-- a datum holds just these links -/
structure HoldsL (D : DataW Unit) (l : List Nd) : Prop where
  tidy : Maps.Tidy D
  size : Maps.size D = l.length
  back : ∀ kl, Maps.has D kl = true → ∃ n ∈ l, kl = keyL n.id
  has : ∀ n ∈ l, Maps.has D (keyL n.id) = true
  at_ : ∀ n ∈ l, ∀ z, D.atKey (keyL n.id) z = ptrD (some n.b)
theorem isKeyL (k : Int) : WideAt.IsKeyLit (keyL k) := trivial
theorem HoldsL.nil : HoldsL (.map []) [] := ⟨Maps.tidy_empty, rfl, fun _ h => (by cases h), fun _ h => (by cases h), fun _ h => (by cases h)⟩
theorem HoldsL.perm {D : DataW Unit} {l m : List Nd} (h : HoldsL D l) (hp : l.Perm m) : HoldsL D m :=
  ⟨h.tidy, h.size.trans hp.length_eq, fun kl hk => by obtain ⟨e, he, r⟩ := h.back kl hk; exact ⟨e, hp.mem_iff.1 he, r⟩, fun e he => h.has e (hp.mem_iff.2 he), fun e he => h.at_ e (hp.mem_iff.2 he)⟩
theorem HoldsL.at_eq {D : DataW Unit} {l : List Nd} (h : HoldsL D l) (hg : (l.map (·.id)).Nodup) (k : Int) : D.atKey (keyL k) (ptrD none) = ptrD (Ff.at_ l k) := by
  cases hf : Ff.at_ l k with
  | none =>
    have hh : Maps.has D (keyL k) = false := by
      cases hc : Maps.has D (keyL k) with
      | false => rfl
      | true =>
        obtain ⟨n, hn, e⟩ := h.back _ hc
        exact absurd (keyL_inj e).symm (Ff.at_none.1 hf n hn)
    exact Maps.atKey_of_not_has hh _
  | some p =>
    obtain ⟨n, hn, rfl, rfl⟩ := Ff.at_of hf
    exact h.at_ n hn _
theorem HoldsL.has_eq {D : DataW Unit} {l : List Nd} (h : HoldsL D l) (k : Int) : Maps.has D (keyL k) = (Ff.at_ l k).isSome := by
  cases hf : Ff.at_ l k with
  | none =>
    cases hc : Maps.has D (keyL k) with
    | false => rfl
    | true =>
      obtain ⟨n, hn, e⟩ := h.back _ hc
      exact absurd (keyL_inj e).symm (Ff.at_none.1 hf n hn)
  | some p =>
    obtain ⟨n, hn, rfl, rfl⟩ := Ff.at_of hf
    exact h.has n hn
theorem HoldsL.put {D : DataW Unit} {l : List Nd} (h : HoldsL D l) (n : Nd) (hn : ∀ m ∈ l, m.id ≠ n.id) : HoldsL (D.put (keyL n.id) (ptrD (some n.b))) (n :: l) := by
  have ho : ∀ m ∈ l, keyL m.id ≠ keyL n.id := fun m hm hk => hn m hm (keyL_inj hk)
  have hh : Maps.has D (keyL n.id) = false := by
    cases hc : Maps.has D (keyL n.id) with
    | false => rfl
    | true =>
      obtain ⟨m, hm, e⟩ := h.back _ hc
      exact absurd e.symm (ho m hm)
  refine ⟨h.tidy.put (isKeyL n.id) _, ?_, fun kl hk => ?_, fun m hm => ?_, fun m hm z => ?_⟩
  · rw [Maps.size_put h.tidy, hh, h.size]; simp
  · by_cases e : kl = keyL n.id
    · exact ⟨n, by simp, e⟩
    · rw [Maps.has_put_other e] at hk
      obtain ⟨x, hx, r⟩ := h.back kl hk
      exact ⟨x, by simp [hx], r⟩
  · rcases List.mem_cons.1 hm with rfl | hm
    · exact Maps.has_put_same h.tidy.isMap (isKeyL _) _
    · rw [Maps.has_put_other (ho m hm)]; exact h.has m hm
  · rcases List.mem_cons.1 hm with rfl | hm
    · exact Maps.atKey_put_same h.tidy.isMap (isKeyL _) _ _
    · rw [Maps.atKey_put_other (ho m hm)]; exact h.at_ m hm z
theorem HoldsL.del {D : DataW Unit} {a b : List Nd} {n : Nd} (h : HoldsL D (a ++ n :: b)) (hg : ((a ++ n :: b).map (·.id)).Nodup) : HoldsL (D.del (keyL n.id)) (a ++ b) := by
  have hsp : (∀ m ∈ a, m.id ≠ n.id) ∧ ∀ m ∈ b, m.id ≠ n.id := by
    rw [List.map_append, List.map_cons, List.nodup_append] at hg
    obtain ⟨_, h2, h3⟩ := hg
    rw [List.nodup_cons] at h2
    exact ⟨fun x hx he => h3 x.id (List.mem_map.2 ⟨x, hx, rfl⟩) n.id List.mem_cons_self he, fun x hx he => h2.1 (List.mem_map.2 ⟨x, hx, he⟩)⟩
  have ho : ∀ m ∈ a ++ b, keyL m.id ≠ keyL n.id := fun m hm hk => by
    rcases List.mem_append.1 hm with h1 | h1
    · exact hsp.1 m h1 (keyL_inj hk)
    · exact hsp.2 m h1 (keyL_inj hk)
  have hin : ∀ m ∈ a ++ b, m ∈ a ++ n :: b := fun m hm => by
    rcases List.mem_append.1 hm with h1 | h1 <;> simp [h1]
  refine ⟨h.tidy.del _, ?_, fun kl hk => ?_, fun m hm => ?_, fun m hm z => ?_⟩
  · have h1 := Maps.size_del h.tidy (k := keyL n.id)
    rw [h.has n (by simp), h.size] at h1
    simp at h1 ⊢
    omega
  · by_cases e : kl = keyL n.id
    · rw [e, Maps.has_del_same] at hk; cases hk
    · rw [Maps.has_del_other e] at hk
      obtain ⟨x, hx, r⟩ := h.back kl hk
      refine ⟨x, ?_, r⟩
      rcases List.mem_append.1 hx with h1 | h1
      · simp [h1]
      · rcases List.mem_cons.1 h1 with rfl | h1
        · exact absurd r e
        · simp [h1]
  · rw [Maps.has_del_other (ho m hm)]; exact h.has m (hin m hm)
  · rw [Maps.atKey_del_other (ho m hm)]; exact h.at_ m (hin m hm) z

/-- block b is the map of these links -/
def MapL (w : World) (b : Nat) (l : List Nd) : Prop := ∃ D, w.ownsMap Try.prog 3 ptrR b l.length D ∧ HoldsL D l
theorem MapL.lt {w : World} {b : Nat} {l : List Nd} (h : MapL w b l) : b < w.heap.size := by obtain ⟨D, h, _⟩ := h; exact h.lt
theorem MapL.keep {w w' : World} {b : Nat} {l : List Nd} (h : MapL w b l) (hk : w'.heap[b]? = w.heap[b]?) : MapL w' b l := by
  obtain ⟨D, ⟨es, clock, hm, r⟩, hD⟩ := h
  exact ⟨D, ⟨es, clock, hk.trans hm, r⟩, hD⟩
theorem MapL.perm {w : World} {b : Nat} {l m : List Nd} (h : MapL w b l) (hp : l.Perm m) : MapL w b m := by
  obtain ⟨D, h1, hD⟩ := h
  exact ⟨D, hp.length_eq ▸ h1, hD.perm hp⟩
theorem MapL.made (w : World) : MapL (w.alloc (.map #[] 0)) w.heap.size [] := ⟨_, World.ownsMap_made w _ _ _, HoldsL.nil⟩
theorem MapL.cell {w : World} {b : Nat} {l : List Nd} (h : MapL w b l) : ∃ es clock, w.heap[b]? = some (.map es clock) := by obtain ⟨D, ⟨es, clock, hb, _⟩, _⟩ := h; exact ⟨es, clock, hb⟩
theorem tightL {w : World} {b n : Nat} {D : DataW Unit} (h : w.ownsMap Try.prog 3 ptrR b n D) : w.ownsMap Try.prog 3 ptrR b (Maps.size D) D := by
  obtain ⟨es, clock, hb, F, hs, rfl⟩ := h
  exact ⟨es, clock, hb, F, by simp [Maps.size, length_sorted], rfl⟩

section
variable (w : World) {ops : Array Oper} {rest : List Oper} {o : Oper} {a : Act} {Q : Exit → Act → World → Prop}
/-- 'm[k]' -/
theorem wpLookL (hg : o.guard = none) (m x : Operand) (hop : o.op = Op.lookup 105 m x false)
    (b : Nat) (l : List Nd) (hgd : (l.map (·.id)).Nodup) (hm : a.eval m = .map (some b)) (hM : MapL w b l) (k : Int) (hx : a.eval x = .int .i64 k) (hk : (Lit.int .i64 k).wf = true)
    (hK : wpList Try.prog ops Q rest (a.put o.dst (ptrV (Ff.at_ l k))) w) :
    wpList Try.prog ops Q (o :: rest) a w := by
  obtain ⟨D, hD, hH⟩ := hM
  refine wpList_plain hg fun K' hK' => ?_
  obtain ⟨v, ps, hrun, hv⟩ := hD.lookup intKeyed Try.underlying105 (Try.zeroValue112 w) (ptrR_mk none) (keyL_mk k hk)
  rw [hH.at_eq hgd] at hv
  obtain ⟨p, rfl, hp⟩ := ptrR_inv hv
  rw [← ptrD_inj hp] at hrun
  unfold Oper.wp
  simp [execOp, hop, hm, hx, hrun, Result.andThen]
  exact hK' _ _ hK
/-- 'm[k] = p', k not there -/
theorem wpPutL (hg : o.guard = none) (m x v : Operand) (hop : o.op = Op.mapUpdate 105 m x v)
    (b : Nat) (l : List Nd) (hm : a.eval m = .map (some b)) (hM : MapL w b l) (n : Nd) (hx : a.eval x = .int .i64 n.id) (hv : a.eval v = .pointer (some ⟨n.b, 0, none⟩)) (hk : (Lit.int .i64 n.id).wf = true)
    (hl : l.length ≤ 1000000) (hn : ∀ m ∈ l, m.id ≠ n.id)
    (hK : ∀ w', MapL w' b (n :: l) → Chg (fun k => k = b) w w' → w'.heap.size = w.heap.size → wpList Try.prog ops Q rest (a.put o.dst undef) w') :
    wpList Try.prog ops Q (o :: rest) a w := by
  obtain ⟨D, hD, hH⟩ := hM
  refine wpList_mapUpdate_in _ hg m x v _ hop 3 112 intKeyed Try.underlying105 ptrR b _ _ hm hD (by unfold maxLen; omega) _ _ _ hx hv (keyL_mk n.id hk) (ptrD (some n.b)) [] (ptrR_mk (some n.b)) ?_
  intro w' h1 h2
  have hg2 := h2.grown
  obtain ⟨es, clock, es', clock', hb, rfl⟩ := h2
  refine hK _ ⟨_, by simpa using h1, hH.put n hn⟩ ⟨hg2.os, hg2.tape, hg2.output, hg2.size, fun k hk hne => hg2.block k hk (fun e => hne (by cases e; rfl))⟩ (by simp [ChangeMaps.setBlock])
/-- 'delete(m, k)', k there -/
theorem wpDelL (hg : o.guard = none) (m x : Operand) (hop : o.op = Op.call { callee := Callee.builtin Builtin.delete, args := #[m, x], argTypes := #[105, 3] })
    (b : Nat) (l1 l2 : List Nd) (n : Nd) (hm : a.eval m = .map (some b)) (hM : MapL w b (l1 ++ n :: l2)) (hx : a.eval x = .int .i64 n.id) (hk : (Lit.int .i64 n.id).wf = true) (hgd : ((l1 ++ n :: l2).map (·.id)).Nodup)
    (hK : ∀ w', MapL w' b (l1 ++ l2) → Chg (fun k => k = b) w w' → w'.heap.size = w.heap.size → wpList Try.prog ops Q rest (a.put o.dst (.tuple #[])) w') :
    wpList Try.prog ops Q (o :: rest) a w := by
  obtain ⟨D, hD, hH⟩ := hM
  refine wpList_delete_own _ hg m x _ _ hop 112 intKeyed Try.underlying105 ptrR b _ _ hm hD _ _ hx (keyL_mk n.id hk) ?_
  intro w' h1 h2
  have hg2 := h2.grown
  obtain ⟨es, clock, es', clock', hb, rfl⟩ := h2
  have hH2 := hH.del hgd
  refine hK _ ⟨_, hH2.size ▸ tightL h1, hH2⟩ ⟨hg2.os, hg2.tape, hg2.output, hg2.size, fun k hk hne => hg2.block k hk (fun e => hne (by cases e; rfl))⟩ (by simp [ChangeMaps.setBlock])
/-- 'len(m)' -/
theorem wpLenL (hg : o.guard = none) (m : Operand) (hop : o.op = Op.call { callee := Callee.builtin Builtin.len, args := #[m], argTypes := #[105] })
    (b : Nat) (l : List Nd) (hm : a.eval m = .map (some b)) (hM : MapL w b l)
    (hK : wpList Try.prog ops Q rest (a.put o.dst (.int .i64 (l.length : Int))) w) :
    wpList Try.prog ops Q (o :: rest) a w := by
  obtain ⟨D, hD, hH⟩ := hM
  refine wpList_len_own _ hg m _ hop 3 112 Try.underlying105 ptrR b _ _ hm hD ?_
  rw [hH.size]
  exact hK
end
/-- 'm[k]' as a run -/
theorem run_lookL {w : World} {b : Nat} {l : List Nd} (hgd : (l.map (·.id)).Nodup) (hM : MapL w b l) (k : Int) (hk : (Lit.int .i64 k).wf = true) :
    (Instr.lookup 105 (.map (some b)) (.int .i64 k) false).run Try.prog w = .ok (ptrV (Ff.at_ l k)) w := by
  obtain ⟨D, hD, hH⟩ := hM
  obtain ⟨v, ps, hrun, hv⟩ := hD.lookup intKeyed Try.underlying105 (Try.zeroValue112 w) (ptrR_mk none) (keyL_mk k hk)
  rw [hH.at_eq hgd] at hv
  obtain ⟨p, rfl, hp⟩ := ptrR_inv hv
  rw [← ptrD_inj hp] at hrun
  exact hrun
/-- '_, there := m[k]' as a run -/
theorem run_lookOk {w : World} {b : Nat} {l : List Nd} (hM : MapL w b l) (k : Int) (hk : (Lit.int .i64 k).wf = true) :
    ∃ v, (Instr.lookup 105 (.map (some b)) (.int .i64 k) true).run Try.prog w = .ok (.tuple #[v, .bool (Ff.at_ l k).isSome]) w := by
  obtain ⟨D, hD, hH⟩ := hM
  obtain ⟨v, ps, hrun, hv⟩ := hD.look_ok intKeyed Try.underlying105 (Try.zeroValue112 w) (ptrR_mk none) (keyL_mk k hk)
  rw [hH.has_eq] at hrun
  exact ⟨v, hrun⟩
/-- 'm[k] = p' as a run, k not there -/
theorem run_putL {w : World} {b : Nat} {l : List Nd} (hM : MapL w b l) (n : Nd) (hk : (Lit.int .i64 n.id).wf = true) (hl : l.length ≤ 1000001) (hn : ∀ m ∈ l, m.id ≠ n.id) :
    ∃ w', (Instr.mapUpdate 105 (.map (some b)) (.int .i64 n.id) (.pointer (some ⟨n.b, 0, none⟩))).run Try.prog w = .ok () w' ∧ MapL w' b (n :: l) ∧ Chg (fun k => k = b) w w' ∧ w'.heap.size = w.heap.size := by
  obtain ⟨D, hD, hH⟩ := hM
  obtain ⟨w', hrun, h1, h2⟩ := hD.store intKeyed Try.underlying105 (show l.length < maxLen by unfold maxLen; omega) (keyL_mk n.id hk) (ptrR_mk (some n.b))
  have hg2 := h2.grown
  have hsz : w'.heap.size = w.heap.size := by obtain ⟨es, clock, es', clock', hb, rfl⟩ := h2; simp [ChangeMaps.setBlock]
  exact ⟨w', hrun, ⟨_, by simpa using h1, hH.put n hn⟩, ⟨hg2.os, hg2.tape, hg2.output, hg2.size, fun k hk hne => hg2.block k hk (fun e => hne (by cases e; rfl))⟩, hsz⟩
end Go.Proofs.Ytgeoebodlcbebaa

namespace Go.Proofs.Ytgeoebodlcbebaa
open Go.RowKit
open Ff (Nd)
set_option linter.unusedVariables false

/-- a link: its item, the numbers before and after it -/
abbrev lkO (id c p q : Int) : Obj := .cells #[.int .i64 id, .int .i64 c, .int .i64 p, .int .i64 q] 114
abbrev quO (m : Nat) (c : Int) : Obj := .cells #[.map (some m), .int .i64 c] 107
/-- block P is a queue whose map in block m holds these links; what stands before and after each -/
structure JAt (w : World) (P m : Nat) (c : Int) (ns : List Nd) (aft bef : Int → Int) : Prop where
  tab : w.heap[P]? = some (quO m c)
  map : MapL w m ns
  node : ∀ n ∈ ns, w.heap[n.b]? = some (lkO n.id n.c (bef n.id) (aft n.id))
  ndb : (ns.map (·.b)).Nodup
  ndi : (ns.map (·.id)).Nodup
  small : ∀ n ∈ ns, 0 ≤ n.id ∧ n.id ≤ 9223372036854775807
def footJ (P m : Nat) (ns : List Nd) (k : Nat) : Prop := k = P ∨ k = m ∨ k ∈ ns.map (·.b)
theorem JAt.lt {w : World} {P m : Nat} {c : Int} {ns : List Nd} {aft bef : Int → Int} (h : JAt w P m c ns aft bef) : ∀ k, footJ P m ns k → k < w.heap.size := by
  rintro k (rfl | rfl | hk)
  · exact lt_block h.tab
  · exact h.map.lt
  · obtain ⟨n, hn, rfl⟩ := List.mem_map.1 hk
    exact lt_block (h.node n hn)
theorem JAt.keep {w w' : World} {P m : Nat} {c : Int} {ns : List Nd} {aft bef : Int → Int} (h : JAt w P m c ns aft bef) (hk : ∀ k, footJ P m ns k → w'.heap[k]? = w.heap[k]?) : JAt w' P m c ns aft bef :=
  ⟨(hk P (Or.inl rfl)).trans h.tab, h.map.keep (hk m (Or.inr (Or.inl rfl))), fun n hn => (hk n.b (Or.inr (Or.inr (List.mem_map.2 ⟨n, hn, rfl⟩)))).trans (h.node n hn), h.ndb, h.ndi, h.small⟩
theorem JAt.c0 {w : World} {P m : Nat} {c : Int} {ns : List Nd} {aft bef : Int → Int} (h : JAt w P m c ns aft bef) : w.cell? ⟨P, 0, none⟩ = some (.map (some m)) := by rw [cell_of_row w P _ _ _ _ h.tab]; rfl
theorem JAt.c1 {w : World} {P m : Nat} {c : Int} {ns : List Nd} {aft bef : Int → Int} (h : JAt w P m c ns aft bef) : w.cell? ⟨P, 1, none⟩ = some (.int .i64 c) := by rw [cell_of_row w P _ _ _ _ h.tab]; rfl
theorem JAt.fr {w : World} {P m : Nat} {c : Int} {ns : List Nd} {aft bef : Int → Int} (h : JAt w P m c ns aft bef) (i : Nat) : w.frozen? ⟨P, i, none⟩ = false := frozen_of w P i _ _ h.tab
theorem JAt.n0 {w : World} {P m : Nat} {c : Int} {ns : List Nd} {aft bef : Int → Int} (h : JAt w P m c ns aft bef) {n : Nd} (hn : n ∈ ns) : w.cell? ⟨n.b, 0, none⟩ = some (.int .i64 n.id) ∧ w.cell? ⟨n.b, 1, none⟩ = some (.int .i64 n.c) ∧ w.cell? ⟨n.b, 2, none⟩ = some (.int .i64 (bef n.id)) ∧ w.cell? ⟨n.b, 3, none⟩ = some (.int .i64 (aft n.id)) := by
  have := h.node n hn
  exact ⟨by rw [cell_of_row w _ _ _ _ _ this]; rfl, by rw [cell_of_row w _ _ _ _ _ this]; rfl, by rw [cell_of_row w _ _ _ _ _ this]; rfl, by rw [cell_of_row w _ _ _ _ _ this]; rfl⟩
theorem JAt.nf {w : World} {P m : Nat} {c : Int} {ns : List Nd} {aft bef : Int → Int} (h : JAt w P m c ns aft bef) {n : Nd} (hn : n ∈ ns) (i : Nat) : w.frozen? ⟨n.b, i, none⟩ = false := frozen_of w _ i _ _ (h.node n hn)
theorem JAt.wf {w : World} {P m : Nat} {c : Int} {ns : List Nd} {aft bef : Int → Int} (h : JAt w P m c ns aft bef) {n : Nd} (hn : n ∈ ns) : (Lit.int .i64 n.id).wf = true := by
  have := h.small n hn
  have e1 : IntKind.i64.min = -9223372036854775808 := by decide
  have e2 : IntKind.i64.max = 9223372036854775807 := by decide
  simp [Lit.wf]
  omega
/-- 'm[k]' as a run -/
theorem JAt.look {w : World} {P m : Nat} {c : Int} {ns : List Nd} {aft bef : Int → Int} (h : JAt w P m c ns aft bef) {n : Nd} (hn : n ∈ ns) : (Instr.lookup 105 (.map (some m)) (.int .i64 n.id) false).run Try.prog w = .ok (.pointer (some ⟨n.b, 0, none⟩)) w := by
  have := run_lookL h.ndi h.map n.id (h.wf hn)
  rw [Ff.at_mem h.ndi hn] at this
  exact this
/-- the three kinds of blocks are apart -/
theorem JAt.kinds {w : World} {P m : Nat} {c : Int} {ns : List Nd} {aft bef : Int → Int} (h : JAt w P m c ns aft bef) : P ≠ m ∧ ∀ k ∈ ns.map (·.b), k ≠ P ∧ k ≠ m := by
  obtain ⟨es, clock, hm⟩ := h.map.cell
  refine ⟨fun e => ?_, fun k hk => ⟨fun e => ?_, fun e => ?_⟩⟩
  · have h9 := h.tab; rw [e, hm] at h9; cases h9
  · obtain ⟨n, hn, rfl⟩ := List.mem_map.1 hk
    have h9 := h.node n hn
    rw [e, h.tab] at h9; exact absurd h9 (by simp)
  · obtain ⟨n, hn, rfl⟩ := List.mem_map.1 hk
    have h9 := h.node n hn
    rw [e, hm] at h9; cases h9
theorem JAt.same_b {w : World} {P m : Nat} {c : Int} {ns : List Nd} {aft bef : Int → Int} (h : JAt w P m c ns aft bef) {n n' : Nd} (hn : n ∈ ns) (hn' : n' ∈ ns) (e : n.b = n'.b) : n = n' := Ff.inj_of_nd h.ndb hn hn' e
theorem JAt.same_i {w : World} {P m : Nat} {c : Int} {ns : List Nd} {aft bef : Int → Int} (h : JAt w P m c ns aft bef) {n n' : Nd} (hn : n ∈ ns) (hn' : n' ∈ ns) (e : n.id = n'.id) : n = n' := Ff.inj_of_nd h.ndi hn hn' e
/-- what stands after n is stored -/
theorem JAt.aft {w : World} {P m : Nat} {c : Int} {ns : List Nd} {aft bef : Int → Int} (h : JAt w P m c ns aft bef) {n : Nd} (hn : n ∈ ns) (y : Int) : JAt (w.setCell ⟨n.b, 3, none⟩ (.int .i64 y)) P m c ns (Ff.upd aft n.id y) bef := by
  have hb : n.b ∈ ns.map (·.b) := List.mem_map.2 ⟨n, hn, rfl⟩
  obtain ⟨k1, k2⟩ := h.kinds
  have hoth : ∀ k, k ≠ n.b → (w.setCell ⟨n.b, 3, none⟩ (.int .i64 y)).heap[k]? = w.heap[k]? := fun k hk => Below.heap_setCell _ _ _ _ hk
  refine ⟨(hoth P (fun e => (k2 _ hb).1 e.symm)).trans h.tab, h.map.keep (hoth m (fun e => (k2 _ hb).2 e.symm)), fun x hx => ?_, h.ndb, h.ndi, h.small⟩
  by_cases e : x.b = n.b
  · obtain rfl := h.same_b hx hn e
    rw [Ff.upd_same]
    exact setCell_block w x.b 3 _ _ _ (h.node x hx)
  · have e2 : x.id ≠ n.id := fun e2 => e (by rw [h.same_i hx hn e2])
    rw [Ff.upd_other _ _ e2]
    exact (hoth x.b e).trans (h.node x hx)
theorem JAt.bef {w : World} {P m : Nat} {c : Int} {ns : List Nd} {aft bef : Int → Int} (h : JAt w P m c ns aft bef) {n : Nd} (hn : n ∈ ns) (y : Int) : JAt (w.setCell ⟨n.b, 2, none⟩ (.int .i64 y)) P m c ns aft (Ff.upd bef n.id y) := by
  have hb : n.b ∈ ns.map (·.b) := List.mem_map.2 ⟨n, hn, rfl⟩
  obtain ⟨k1, k2⟩ := h.kinds
  have hoth : ∀ k, k ≠ n.b → (w.setCell ⟨n.b, 2, none⟩ (.int .i64 y)).heap[k]? = w.heap[k]? := fun k hk => Below.heap_setCell _ _ _ _ hk
  refine ⟨(hoth P (fun e => (k2 _ hb).1 e.symm)).trans h.tab, h.map.keep (hoth m (fun e => (k2 _ hb).2 e.symm)), fun x hx => ?_, h.ndb, h.ndi, h.small⟩
  by_cases e : x.b = n.b
  · obtain rfl := h.same_b hx hn e
    rw [Ff.upd_same]
    exact setCell_block w x.b 2 _ _ _ (h.node x hx)
  · have e2 : x.id ≠ n.id := fun e2 => e (by rw [h.same_i hx hn e2])
    rw [Ff.upd_other _ _ e2]
    exact (hoth x.b e).trans (h.node x hx)
theorem JAt.cost {w : World} {P m : Nat} {c : Int} {ns : List Nd} {aft bef : Int → Int} (h : JAt w P m c ns aft bef) (c' : Int) : JAt (w.setCell ⟨P, 1, none⟩ (.int .i64 c')) P m c' ns aft bef := by
  obtain ⟨k1, k2⟩ := h.kinds
  have hoth : ∀ k, k ≠ P → (w.setCell ⟨P, 1, none⟩ (.int .i64 c')).heap[k]? = w.heap[k]? := fun k hk => Below.heap_setCell _ _ _ _ hk
  exact ⟨setCell_block w P 1 _ _ _ h.tab, h.map.keep (hoth m (fun e => k1 e.symm)), fun x hx => (hoth x.b (k2 _ (List.mem_map.2 ⟨x, hx, rfl⟩)).1).trans (h.node x hx), h.ndb, h.ndi, h.small⟩
/-- two links joined -/
structure RetJ (P m : Nat) (c : Int) (ns : List Nd) (aft bef : Int → Int) (w : World) (e : Ending) (w' : World) : Prop where
  e : e = .returned (.tuple #[])
  s : JAt w' P m c ns aft bef
  c : Chg (fun k => k ∈ ns.map (·.b)) w w'
set_option maxRecDepth 100000 in
set_option maxHeartbeats 4000000 in
theorem joinC (P m : Nat) (c : Int) (ns : List Nd) (aft bef : Int → Int) (x y : Nd) (w : World) (h : JAt w P m c ns aft bef) (hx : x ∈ ns) (hy : y ∈ ns) :
    Calls Try.prog 56 #[.pointer (some ⟨P, 0, none⟩), .int .i64 x.id, .int .i64 y.id] w (RetJ P m c ns (Ff.upd aft x.id y.id) (Ff.upd bef y.id x.id) w) := by
  have c0 := h.c0
  have r0 := h.look hx
  obtain ⟨_, _, _, d0⟩ := h.n0 hx
  have f0 := h.nf hx 3
  have h1 := h.aft hx y.id
  have c1 := h1.c0
  have r1 := h1.look hy
  obtain ⟨_, _, d1, _⟩ := h1.n0 hy
  have f1 := h1.nf hy 2
  have h2 := h1.bef hy x.id
  have H := Lib.hid h2
  have hxb : x.b ∈ ns.map (·.b) := List.mem_map.2 ⟨x, hx, rfl⟩
  have hyb : y.b ∈ ns.map (·.b) := List.mem_map.2 ⟨y, hy, rfl⟩
  have HC : Hid (Chg (fun k => k ∈ ns.map (·.b)) w ((w.setCell ⟨x.b, 3, none⟩ (.int .i64 y.id)).setCell ⟨y.b, 2, none⟩ (.int .i64 x.id))) := Lib.hid (((Chg.refl _ w).setCell (p := ⟨x.b, 3, none⟩) (Or.inl hxb) _).setCell (p := ⟨y.b, 2, none⟩) (Or.inl hyb) _)
  clear h h1 h2 hx hy hxb hyb
  go_enter Try.func56, Try.ntmps56
  go_wp2
  go_end0
  exact ⟨rfl, H.out, HC.out⟩
end Go.Proofs.Ytgeoebodlcbebaa

namespace Go.Proofs.Ytgeoebodlcbebaa
open Go.RowKit
open Ff (Nd)
set_option linter.unusedVariables false

/-- how a queue lies: world, base, its block, its items, its blocks -/
def QIs (w : World) (B P : Nat) (l : List Ff.E) (F : Nat → Prop) : Prop :=
  ∃ m s ns aft bef, JAt w P m (Ff.cost l) (⟨s, 0, 0⟩ :: ns) aft bef ∧ Ff.Ring aft bef 0 (ns.map (·.id)) ∧ ns.map Nd.kv = l ∧ Ff.Good l ∧ (∀ k, F k ↔ footJ P m (⟨s, 0, 0⟩ :: ns) k) ∧ ∀ k, F k → B ≤ k
theorem QIs.keep {w w' : World} {B P : Nat} {l : List Ff.E} {F : Nat → Prop} (h : QIs w B P l F) (hk : ∀ k, F k → w'.heap[k]? = w.heap[k]?) : QIs w' B P l F := by
  obtain ⟨m, s, ns, aft, bef, h1, h2, h3, h4, h5, h6⟩ := h
  exact ⟨m, s, ns, aft, bef, h1.keep (fun k hf => hk k ((h5 k).2 hf)), h2, h3, h4, h5, h6⟩
theorem QIs.lt {w : World} {B P : Nat} {l : List Ff.E} {F : Nat → Prop} (h : QIs w B P l F) : ∀ k, F k → B ≤ k ∧ k < w.heap.size := by
  obtain ⟨m, s, ns, aft, bef, h1, h2, h3, h4, h5, h6⟩ := h
  exact fun k hk => ⟨h6 k hk, h1.lt k ((h5 k).1 hk)⟩
theorem QIs.good {w : World} {B P : Nat} {l : List Ff.E} {F : Nat → Prop} (h : QIs w B P l F) : Ff.Good l := by
  obtain ⟨m, s, ns, aft, bef, h1, h2, h3, h4, h5, h6⟩ := h
  exact h4
theorem QIs.below {w w' : World} {B P : Nat} {l : List Ff.E} {F : Nat → Prop} (h : QIs w B P l F) (hb : Below w.heap.size w w') : QIs w' B P l F :=
  h.keep (fun k hk => hb.block k (h.lt k hk).2)
/-- it returns r; the queue holds l' -/
structure RetQ (r : Value) (B P : Nat) (l' : List Ff.E) (F : Nat → Prop) (w : World) (e : Ending) (w' : World) : Prop where
  r : e = .returned r
  s : ∃ F', QIs w' B P l' F' ∧ ∀ k, F' k → F k ∨ w.heap.size ≤ k
  c : Chg F w w'
/-- an item, or none -/
def itemV (o : Option Ff.E) : Value := .tuple #[.agg #[.int .i64 (o.getD (0, 0)).1, .int .i64 (o.getD (0, 0)).2], .bool o.isSome]
theorem wf_i64' {v : Int} (h0 : -9223372036854775808 ≤ v) (h1 : v ≤ 9223372036854775807) : (Lit.int .i64 v).wf = true := by
  have e1 : IntKind.i64.min = -9223372036854775808 := by decide
  have e2 : IntKind.i64.max = 9223372036854775807 := by decide
  simp [Lit.wf]
  omega
theorem at_has {s : Nat} {ns : List Nd} {id : Int} (h : id ≠ 0) : (Ff.at_ (⟨s, 0, 0⟩ :: ns) id).isSome = Ff.has (ns.map Nd.kv) id := by
  have e : Ff.at_ (⟨s, 0, 0⟩ :: ns) id = Ff.at_ ns id := by
    show (if (0 : Int) = id then _ else _) = _
    rw [if_neg (fun e => h e.symm)]
  rw [e]
  cases hf : Ff.at_ ns id with
  | none =>
    have : Ff.has (ns.map Nd.kv) id = false := Ff.has_no.2 (fun x hx => by
      obtain ⟨n, hn, rfl⟩ := List.mem_map.1 hx
      exact Ff.at_none.1 hf n hn)
    rw [this]; rfl
  | some p =>
    obtain ⟨n, hn, h1, h2⟩ := Ff.at_of hf
    have : Ff.has (ns.map Nd.kv) id = true := by
      unfold Ff.has
      rw [List.any_eq_true]
      exact ⟨n.kv, List.mem_map.2 ⟨n, hn, rfl⟩, by simpa [Nd.kv] using h1⟩
    rw [this]; rfl

set_option maxRecDepth 100000 in
theorem hasC (B P : Nat) (l : List Ff.E) (F : Nat → Prop) (id : Int) (w : World) (h : QIs w B P l F) (hid : (Lit.int .i64 id).wf = true) :
    Calls Try.prog 55 #[.pointer (some ⟨P, 0, none⟩), .int .i64 id] w (Same (.bool (Ff.has l id)) w) := by
  obtain ⟨m, s, ns, aft, bef, h1, h2, rfl, h4, h5, h6⟩ := h
  by_cases h0 : id = 0
  · have hn : Ff.has (ns.map Nd.kv) id = false := Ff.has_no.2 (fun e he => by have := (h4.id e he).1; omega)
    rw [hn]
    subst h0
    clear h1 h2 h4 h5 h6 hn
    go_enter Try.func55, Try.ntmps55
    go_wp2
    go_ret
    exact ⟨rfl, rfl⟩
  · obtain ⟨v, hrun⟩ := run_lookOk h1.map id hid
    rw [at_has h0] at hrun
    have c0 := h1.c0
    have t0 : (id == 0) = false := by simpa using h0
    generalize Ff.has (ns.map Nd.kv) id = b at *
    clear h1 h2 h4 h5 h6 h0
    go_enter Try.func55, Try.ntmps55
    go_wp2
    go_ret
    exact ⟨rfl, rfl⟩
set_option maxRecDepth 100000 in
theorem lenC (B P : Nat) (l : List Ff.E) (F : Nat → Prop) (w : World) (h : QIs w B P l F) (hl : l.length ≤ 1000000) :
    Calls Try.prog 33 #[.pointer (some ⟨P, 0, none⟩)] w (Same (.int .i64 (l.length : Int)) w) := by
  obtain ⟨m, s, ns, aft, bef, h1, h2, rfl, h4, h5, h6⟩ := h
  have c0 := h1.c0
  have HM := Lib.hid h1.map
  have hn : (((⟨s, 0, 0⟩ :: ns : List Nd).length : Nat) : Int) = (((ns.map Nd.kv).length : Nat) : Int) + 1 := by simp
  generalize (⟨s, 0, 0⟩ :: ns : List Nd) = ns1 at *
  have hn2 : ((ns.map Nd.kv).length : Int) ≤ 1000000 := by omega
  have hn3 : 0 ≤ ((ns.map Nd.kv).length : Int) := by omega
  generalize ((ns.map Nd.kv).length : Int) = N at *
  clear h1 h2 h4 h5 h6 hl
  have HN := Lib.hid hn
  clear hn
  go_enter Try.func33, Try.ntmps33
  go_wp2_with (at_len; refine wpLenL _ rfl _ rfl m ns1 rfl HM.out ?_; rw [HN.out])
  go_ret
  exact ⟨rfl, rfl⟩
/-- a queue in a grown world -/
theorem JAt.grown {w : World} {P m : Nat} {c : Int} {ns : List Nd} {aft bef : Int → Int} (h : JAt w P m c ns aft bef) (o : Obj) : JAt (w.alloc o) P m c ns aft bef :=
  h.keep (fun k hk => Lib.alloc_old _ _ _ (h.lt k hk))
abbrev zeroI : Obj := .cells #[.int .i64 0, .int .i64 0] 48
set_option maxRecDepth 100000 in
theorem headNone (B P : Nat) (F : Nat → Prop) (w : World) (h : QIs w B P [] F) :
    Calls Try.prog 77 #[.pointer (some ⟨P, 0, none⟩)] w (Ret (itemV none) w) := by
  have hb : Below w.heap.size w (w.alloc zeroI) := (Below.refl _ _).alloc (Nat.le_refl _) _
  have K := Lib.hid (lenC B P [] F _ (h.below hb) (by simp))
  have HB := Lib.hid hb
  clear h hb
  go_enter Try.func77, Try.ntmps77
  go_wp2_with (go_at_call 33; (with_reducible refine K.out.mono ?_); rintro e wA ⟨rfl, rfl⟩)
  (try simp only [Exit.inBlock, Exit.then])
  refine bodyPost_ret (v := itemV none) ?_ rfl ?_
  · rw [results_cell_tmp rfl]; go_simp; (try rfl)
  · exact ⟨rfl, (Below.refl _ _).alloc (Nat.le_refl _) _⟩
set_option maxRecDepth 100000 in
set_option maxHeartbeats 1000000 in
theorem headSome (B P : Nat) (x : Ff.E) (l : List Ff.E) (F : Nat → Prop) (w : World) (h : QIs w B P (x :: l) F) (hl : l.length ≤ 100000) :
    Calls Try.prog 77 #[.pointer (some ⟨P, 0, none⟩)] w (Ret (itemV (some x)) w) := by
  have hb : Below w.heap.size w (w.alloc zeroI) := (Below.refl _ _).alloc (Nat.le_refl _) _
  have K := Lib.hid (lenC B P (x :: l) F _ (h.below hb) (by simp; omega))
  have t0 : ((((x :: l).length : Nat) : Int) == 0) = false := by simp; omega
  have HB := Lib.hid hb
  obtain ⟨m, s, ns, aft, bef, h1, h2, h3, h4, h5, h6⟩ := h
  cases ns with
  | nil => simp at h3
  | cons n ns =>
    have hx : x = n.kv := by simpa using (List.cons.inj h3).1.symm
    have hf := h2.first
    have hf2 : aft 0 = n.id := by simpa using hf
    have g := h1.grown zeroI
    have c0 := g.c0
    have r0 := g.look (n := ⟨s, 0, 0⟩) (by simp)
    obtain ⟨_, _, _, d0⟩ := g.n0 (n := ⟨s, 0, 0⟩) (by simp)
    have hn : n ∈ (⟨s, 0, 0⟩ :: n :: ns : List Nd) := by simp
    have r1 := g.look hn
    obtain ⟨d1, d2, _, _⟩ := g.n0 hn
    rw [hf2] at d0
    subst hx
    have e1 : itemV (some n.kv) = .tuple #[.agg #[.int .i64 n.id, .int .i64 n.c], .bool true] := rfl
    rw [e1]
    generalize (((n.kv :: l).length : Nat) : Int) = N at *
    generalize n.id = id at *
    generalize n.c = c at *
    generalize n.b = b at *
    clear hb hl h1 h2 h3 h4 h5 h6 hf hf2 g e1
    go_enter Try.func77, Try.ntmps77
    go_wp2_with (go_at_call 33; (with_reducible refine K.out.mono ?_); rintro e wA ⟨rfl, rfl⟩)
    (try simp only [Exit.inBlock, Exit.then])
    refine bodyPost_ret (v := .tuple #[.agg #[.int .i64 id, .int .i64 c], .bool true]) ?_ rfl ?_
    · rw [results_cell_tmp rfl]; go_simp; (try rfl)
    · exact ⟨rfl, (Below.refl _ _).alloc (Nat.le_refl _) _⟩
theorem headC (B P : Nat) (l : List Ff.E) (F : Nat → Prop) (w : World) (h : QIs w B P l F) (hl : l.length ≤ 100000) :
    Calls Try.prog 77 #[.pointer (some ⟨P, 0, none⟩)] w (Ret (itemV l.head?) w) := by
  cases l with
  | nil => exact headNone B P F w h
  | cons x l => exact headSome B P x l F w h (by simp at hl; omega)
end Go.Proofs.Ytgeoebodlcbebaa

namespace Go.Proofs.Ytgeoebodlcbebaa
open Go.RowKit
open Ff (Nd)
set_option linter.unusedVariables false

/-- an empty queue of new blocks -/
structure RetNewQ (w : World) (e : Ending) (w' : World) : Prop where
  s : ∃ P F, e = .returned (.pointer (some ⟨P, 0, none⟩)) ∧ QIs w' w.heap.size P [] F
  b : Below w.heap.size w w'
set_option maxRecDepth 100000 in
set_option maxHeartbeats 1000000 in
theorem newQC (w : World) : Calls Try.prog 37 #[] w (RetNewQ w) := by
  obtain ⟨w1, hw1⟩ : ∃ w1, w1 = (w.alloc (.map #[] 0)).alloc (lkO 0 0 0 0) := ⟨_, rfl⟩
  have hz1 : w1.heap.size = w.heap.size + 2 := by rw [hw1]; simp
  have hM : MapL w1 w.heap.size [] := (MapL.made w).keep (by rw [hw1]; exact Lib.alloc_old _ _ _ (by simp))
  have hn : w1.heap[w.heap.size + 1]? = some (lkO 0 0 0 0) := by
    rw [hw1]
    have := heap_alloc_new (w.alloc (.map #[] 0)) (lkO 0 0 0 0)
    simpa using this
  obtain ⟨w2, hrun, hM2, hC2, hz2⟩ := run_putL hM ⟨w.heap.size + 1, 0, 0⟩ (wf_i64' (v := 0) (by decide) (by decide)) (by simp) (by simp)
  have hb1 : Below w.heap.size w w1 := by rw [hw1]; exact ((Below.refl _ _).alloc (Nat.le_refl _) _).alloc (by simp) _
  have hfin : RetNewQ w (.returned (.pointer (some ⟨w2.heap.size, 0, none⟩))) (w2.alloc (quO w.heap.size 0)) := by
    have hb2 : Below w.heap.size w w2 := hb1.trans (hC2.below (fun k hk => by omega) hb1.size)
    have hold : ∀ k, k < w2.heap.size → (w2.alloc (quO w.heap.size 0)).heap[k]? = w2.heap[k]? := fun k hk => Lib.alloc_old _ _ _ hk
    refine ⟨⟨w2.heap.size, footJ w2.heap.size w.heap.size [⟨w.heap.size + 1, 0, 0⟩], rfl, ⟨w.heap.size, w.heap.size + 1, [], fun _ => 0, fun _ => 0, ⟨heap_alloc_new _ _, hM2.keep (hold _ hM2.lt), fun x hx => ?_, by simp, by simp, fun x hx => ?_⟩, Ff.ring_new 0 rfl rfl, rfl, Ff.good_nil, fun k => Iff.rfl, fun k hk => ?_⟩⟩, hb2.alloc hb2.size _⟩
    · obtain rfl : x = ⟨w.heap.size + 1, 0, 0⟩ := by simpa using hx
      exact (hold _ (by show w.heap.size + 1 < _; omega)).trans ((hC2.block (w.heap.size + 1) (by omega) (by omega)).trans hn)
    · obtain rfl : x = ⟨w.heap.size + 1, 0, 0⟩ := by simpa using hx
      exact ⟨Int.le_refl 0, by show (0 : Int) ≤ _; decide⟩
    · rcases hk with h | h | h
      · omega
      · omega
      · simp at h; omega
  have H := Lib.hid hfin
  have hrun' := hrun
  rw [hw1] at hrun
  have hmm : (Instr.makeMap 105 none).run Try.prog w = .ok (.map (some w.heap.size)) (w.alloc (.map #[] 0)) := rfl
  clear hM hn hM2 hC2 hfin hb1 hz2 hrun'
  go_enter Try.func37, Try.ntmps37
  go_wp2
  go_ret
  exact H.out
/-- how an item lies in a row -/
def eltI : Elt Try.prog Ff.E where
  st := 35
  e := 48
  z := .agg #[.int .i64 0, .int .i64 0]
  size := 2
  bytes := 16
  pv := fun p => [.int .i64 p.1, .int .i64 p.2]
  ht := Try.underlying35
  info := by kernel_rfl
  hz := rfl
  pos := by decide
  le := by decide
  len := fun _ => rfl
  one := fun s u hu => by simp at hu; rcases hu with rfl | rfl <;> rfl
theorem idx_midI {a b : List Int} {x : Int} (h : x ∉ a) : (a ++ x :: b).idxOf x = a.length := by
  induction a with
  | nil => simp
  | cons y t ih =>
    simp only [List.mem_cons, not_or] at h
    rw [List.cons_append, List.idxOf_cons, ih h.2]
    have : (y == x) = false := by simpa using fun e => h.1 e.symm
    simp [this]
theorem idx_outI {l : List Int} {x : Int} (h : x ∉ l) : l.idxOf x = l.length := by
  induction l with
  | nil => simp
  | cons y t ih =>
    simp only [List.mem_cons, not_or] at h
    rw [List.idxOf_cons, ih h.2]
    have : (y == x) = false := by simpa using fun e => h.1 e.symm
    simp [this]
/-- the first link's number, or none -/
def hdI : List Nd → Int
  | [] => 0
  | n :: _ => n.id
theorem hdI_eq (ns : List Nd) : (ns.map (·.id)).headD 0 = hdI ns := by cases ns <;> rfl
/-- it returns a row of one's own of these items -/
structure RetIs (l : List Ff.E) (w : World) (e : Ending) (w' : World) : Prop where
  r : ∃ v, e = .returned v ∧ eltI.Row w' w.heap.size v l
  b : Below w.heap.size w w'
set_option maxRecDepth 100000 in
set_option maxHeartbeats 4000000 in
theorem allC (B P : Nat) (l : List Ff.E) (F : Nat → Prop) (w : World) (h : QIs w B P l F) (hl : l.length ≤ 1000000) :
    Calls Try.prog 45 #[.pointer (some ⟨P, 0, none⟩)] w (RetIs l w) := by
  obtain ⟨m, s, ns, aft, bef, h1, h2, rfl, h4, h5, h6⟩ := h
  have hln : ns.length ≤ 1000000 := by simpa using hl
  have c0 := h1.c0
  have r0 := h1.look (n := ⟨s, 0, 0⟩) (by simp)
  obtain ⟨_, _, _, d0⟩ := h1.n0 (n := ⟨s, 0, 0⟩) (by simp)
  have hfirst := h2.first
  rw [hdI_eq] at hfirst
  rw [hfirst] at d0
  have hrow0 : eltI.Row w w.heap.size (.slice none 0 0) [] := Elt.Row.nil w _
  have HJ := Lib.hid h1
  have HR := Lib.hid h2
  have HROW := Lib.hid hrow0
  clear h1 h2 h4 h5 h6 hl hfirst hrow0
  go_enter Try.func45, Try.ntmps45
  go_wp2
  go_loopw [3, 4] (fun u x wr => ∃ a b : List Nd, ns = a ++ b ∧ x = .int .i64 (hdI b) ∧ Hid (Below w.heap.size w wr ∧ eltI.Row wr w.heap.size u (a.map Nd.kv))) (fun _ x _ => ns.length - (ns.map (·.id)).idxOf (intOf x))
  case atStart => exact ⟨[], ns, rfl, rfl, Lib.hid ⟨Below.refl _ _, HROW.out⟩⟩
  case round =>
    obtain ⟨a, b, rfl, rfl, hst⟩ := hrel
    clear r0 d0 HROW
    have hring := HR.out
    obtain ⟨hb, hrow⟩ := hst.out
    obtain ⟨ad, cp, rfl⟩ := hrow.slice
    cases b with
    | nil =>
      rw [List.append_nil] at *
      have HF : Hid (RetIs (a.map Nd.kv) w (.returned (.slice ad (a.map Nd.kv).length cp)) wr) := Lib.hid ⟨⟨_, rfl, hrow⟩, hb⟩
      rw [show hdI ([] : List Nd) = 0 from rfl]
      clear hst hb hrow hring
      go_wp2
      go_ret
      exact HF.out
    | cons n b =>
      have hmem : n ∈ (⟨s, 0, 0⟩ :: (a ++ n :: b) : List Nd) := by simp
      have hmap : (a ++ n :: b).map (·.id) = a.map (·.id) ++ n.id :: b.map (·.id) := by simp
      have hnd := (List.nodup_cons.1 hring.nd)
      have hnext : aft n.id = hdI b := by rw [← hdI_eq]; rw [hmap] at hring; exact hring.next
      have hi1 : ((a ++ n :: b).map (·.id)).idxOf n.id = a.length := by
        have h1 := hnd.2
        rw [hmap] at h1 ⊢
        rw [idx_midI (fun h => (List.nodup_append.1 h1).2.2 n.id h n.id (by simp) rfl)]
        simp
      have hi2 : a.length + 1 ≤ ((a ++ n :: b).map (·.id)).idxOf (hdI b) := by
        cases b with
        | nil =>
          show a.length + 1 ≤ ((a ++ [n]).map (·.id)).idxOf 0
          rw [idx_outI hnd.1]; simp
        | cons m2 b =>
          have hm2 : (a ++ n :: m2 :: b).map (·.id) = (a ++ [n]).map (·.id) ++ m2.id :: b.map (·.id) := by simp
          have h1 := hnd.2
          show a.length + 1 ≤ ((a ++ n :: m2 :: b).map (·.id)).idxOf m2.id
          rw [hm2] at h1 ⊢
          rw [idx_midI (fun h => (List.nodup_append.1 h1).2.2 m2.id h m2.id (by simp) rfl)]
          simp
      have hne : n.id ≠ 0 := fun e => hnd.1 (by rw [← e]; simp)
      have hJ : JAt wr P m _ _ aft bef := HJ.out.keep (fun k hk => hb.block k (HJ.out.lt k hk))
      have c1 := hJ.c0
      have r1 := hJ.look hmem
      obtain ⟨d1, d2, _, _⟩ := hJ.n0 hmem
      have hB := hb.size
      have HAFT := Lib.hid (fun W (hW : Below w.heap.size w W) => by
        have g : JAt W P m _ _ aft bef := HJ.out.keep (fun k hk => hW.block k (HJ.out.lt k hk))
        have g4 := (g.n0 hmem).2.2.2
        rw [hnext] at g4
        exact (show W.cell? ⟨P, 0, none⟩ = some (.map (some m)) ∧ (Instr.lookup 105 (.map (some m)) (.int .i64 n.id) false).run Try.prog W = .ok (.pointer (some ⟨n.b, 0, none⟩)) W ∧ W.cell? ⟨n.b, 3, none⟩ = some (.int .i64 (hdI b)) from ⟨g.c0, g.look hmem, g4⟩))
      have hsn : (a ++ [n]).map Nd.kv = a.map Nd.kv ++ [(n.id, n.c)] := by simp [Nd.kv]
      have hla : (a.map Nd.kv).length ≤ 1000000 := by simp at hln ⊢; omega
      have HSN := Lib.hid hsn
      have HI1 := Lib.hid hi1
      have HI2 := Lib.hid hi2
      have HB := Lib.hid hb
      have t0 : (n.id != 0) = true := by simpa using hne
      rw [show hdI (n :: b) = n.id from rfl]
      clear hst hb hring hmap hnd hnext hi1 hi2 hJ hsn hmem c0
      have HBR := Lib.hid hrow
      clear hrow
      generalize hM : a.map Nd.kv = M at *
      clear hM
      go_wp2_with (at_builtin; (refine eltI.wpApp wr rfl _ _ rfl w.heap.size (.slice ad M.length cp) M rfl HBR.out #[.int .i64 n.id, .int .i64 n.c] _ rfl (n.id, n.c) rfl (by omega) hB ?_); intro v' w2 hown hb2 hkeep hlies; obtain ⟨e1, e2, e3⟩ := HAFT.out w2 (HB.out.trans hb2))
      have hrow2 := Lib.hid (show Below w.heap.size w w2 ∧ eltI.Row w2 w.heap.size v' ((a ++ [n]).map Nd.kv) from ⟨HB.out.trans hb2, by rw [HSN.out]; exact hown⟩)
      go_roundw
      case rel => exact ⟨a ++ [n], b, by simp, rfl, hrow2⟩
      case measure =>
        have h1 := HI1.out
        have h2 := HI2.out
        simp only [intOf, List.length_append, List.length_cons] at h1 h2 ⊢
        omega
end Go.Proofs.Ytgeoebodlcbebaa

namespace Go.Proofs.Ytgeoebodlcbebaa
open Go.RowKit
open Ff (Nd)
set_option linter.unusedVariables false

/-- 'm[k] = p', k not there, at a step of a region -/
theorem wp_putL (w : World) {o : Oper} {a : Act} {K : Act → World → Prop} {Q : Exit → Act → World → Prop} (m x v : Operand) (hop : o.op = Op.mapUpdate 105 m x v)
    (b : Nat) (l : List Nd) (hm : a.eval m = .map (some b)) (hM : MapL w b l) (n : Nd) (hx : a.eval x = .int .i64 n.id) (hv : a.eval v = .pointer (some ⟨n.b, 0, none⟩)) (hk : (Lit.int .i64 n.id).wf = true)
    (hl : l.length ≤ 1000001) (hn : ∀ y ∈ l, y.id ≠ n.id)
    (hK : ∀ w', MapL w' b (n :: l) → Chg (fun k => k = b) w w' → K (a.put o.dst undef) w') :
    Oper.wp Try.prog o a w K Q := by
  obtain ⟨w', hrun, h1, h2, _⟩ := run_putL hM n hk hl hn
  have hfin := hK w' h1 h2
  unfold Oper.wp
  simp [execOp, hop, hm, hx, hv, hrun, Result.andThen]
  exact hfin
theorem JAt.perm {w : World} {P m : Nat} {c : Int} {ns ms : List Nd} {aft bef : Int → Int} (h : JAt w P m c ns aft bef) (hp : ns.Perm ms) : JAt w P m c ms aft bef :=
  ⟨h.tab, h.map.perm hp, fun n hn => h.node n (hp.mem_iff.2 hn), (hp.map _).nodup_iff.1 h.ndb, (hp.map _).nodup_iff.1 h.ndi, fun n hn => h.small n (hp.mem_iff.2 hn)⟩
theorem JAt.congr {w : World} {P m : Nat} {c : Int} {ns : List Nd} {aft bef aft' bef' : Int → Int} (h : JAt w P m c ns aft bef) (h1 : ∀ n ∈ ns, aft' n.id = aft n.id) (h2 : ∀ n ∈ ns, bef' n.id = bef n.id) : JAt w P m c ns aft' bef' :=
  ⟨h.tab, h.map, fun n hn => by rw [h1 n hn, h2 n hn]; exact h.node n hn, h.ndb, h.ndi, h.small⟩

abbrev itO (id co : Int) : Obj := .cells #[.int .i64 id, .int .i64 co] 48
/-- a queue in the course of a call that began at w0 with the blocks F, beside a box X -/
structure PQ (w0 : World) (F : Nat → Prop) (P m X : Nat) (c id co : Int) (ns : List Nd) (aft bef : Int → Int) (W : World) : Prop where
  j : JAt W P m c ns aft bef
  x : W.heap[X]? = some (itO id co)
  xn : ¬ footJ P m ns X
  c : Chg F w0 W
  f : ∀ k, footJ P m ns k → F k ∨ w0.heap.size ≤ k
theorem PQ.drew {w0 : World} {F : Nat → Prop} {P m X : Nat} {c id co : Int} {ns : List Nd} {aft bef : Int → Int} {W : World} (h : PQ w0 F P m X c id co ns aft bef W) : PQ w0 F P m X c id co ns aft bef W.drew :=
  ⟨h.j.keep (fun _ _ => rfl), h.x, h.xn, h.c.drew, h.f⟩
theorem PQ.drewN {w0 : World} {F : Nat → Prop} {P m X : Nat} {c id co : Int} {ns : List Nd} {aft bef : Int → Int} {W : World} (h : PQ w0 F P m X c id co ns aft bef W) (n : Nat) : PQ w0 F P m X c id co ns aft bef (W.drewN n) :=
  ⟨h.j.keep (fun _ _ => rfl), h.x, h.xn, h.c.drewN n, h.f⟩
theorem PQ.xs {w0 : World} {F : Nat → Prop} {P m X : Nat} {c id co : Int} {ns : List Nd} {aft bef : Int → Int} {W : World} (h : PQ w0 F P m X c id co ns aft bef W) : W.cell? ⟨X, 0, none⟩ = some (.int .i64 id) ∧ W.cell? ⟨X, 1, none⟩ = some (.int .i64 co) := by
  have := h.x
  exact ⟨by rw [cell_of_row W _ _ _ _ _ this]; rfl, by rw [cell_of_row W _ _ _ _ _ this]; rfl⟩
theorem PQ.join {w0 : World} {F : Nat → Prop} {P m X : Nat} {c id co : Int} {ns : List Nd} {aft bef aft' bef' : Int → Int} {W W' : World} {e : Ending} (h : PQ w0 F P m X c id co ns aft bef W) (hr : RetJ P m c ns aft' bef' W e W') : PQ w0 F P m X c id co ns aft' bef' W' :=
  ⟨hr.s, hr.c.keep h.x (fun hk => h.xn (Or.inr (Or.inr hk))), h.xn, h.c.trans hr.c (fun k hk => h.f k (Or.inr (Or.inr hk))), h.f⟩
theorem PQ.put {w0 : World} {F : Nat → Prop} {P m X : Nat} {c id co : Int} {ns : List Nd} {aft bef : Int → Int} {W W1 W3 : World} (h : PQ w0 F P m X c id co ns aft bef W) (hW1 : W1 = (W.alloc (lkO id co 0 0)).drew ∨ W1 = W.drew.alloc (lkO id co 0 0)) (hM : MapL W3 m (⟨W.heap.size, id, co⟩ :: ns)) (hc : Chg (fun k => k = m) W1 W3) (hi : 0 ≤ id ∧ id ≤ 9223372036854775807) (hn : ∀ n ∈ ns, n.id ≠ id) :
    PQ w0 F P m X c id co (⟨W.heap.size, id, co⟩ :: ns) (Ff.upd aft id 0) (Ff.upd bef id 0) W3 := by
  have hz1 : W1.heap.size = W.heap.size + 1 := by rcases hW1 with e | e <;> rw [e] <;> simp
  have hold : ∀ k, k < W.heap.size → W1.heap[k]? = W.heap[k]? := fun k hk => by rcases hW1 with e | e <;> rw [e] <;> exact Lib.alloc_old _ _ _ hk
  have hnew : W1.heap[W.heap.size]? = some (lkO id co 0 0) := by rcases hW1 with e | e <;> rw [e] <;> exact heap_alloc_new _ _
  have hb : Below W.heap.size W W1 := by
    rcases hW1 with e | e <;> rw [e]
    · exact ((Below.refl _ _).alloc (Nat.le_refl _) _).drew
    · exact (Below.refl W.heap.size W).drew.alloc (Nat.le_refl _) _
  obtain ⟨k1, k2⟩ := h.j.kinds
  have hlt := h.j.lt
  have hbn : W.heap.size ∉ ns.map (·.b) := fun hm => by have := hlt _ (Or.inr (Or.inr hm)); omega
  have hmlt := h.j.map.lt
  have hXlt := lt_block h.x
  have hXm : X ≠ m := fun e => h.xn (Or.inr (Or.inl e))
  refine ⟨⟨?_, hM, fun x hx => ?_, ?_, ?_, fun x hx => ?_⟩, ?_, ?_, ?_, ?_⟩
  · exact hc.keep ((hold P (hlt P (Or.inl rfl))).trans h.j.tab) k1
  · rcases List.mem_cons.1 hx with h1 | h1
    · subst h1
      show W3.heap[W.heap.size]? = some (lkO id co (Ff.upd bef id 0 id) (Ff.upd aft id 0 id))
      rw [Ff.upd_same, Ff.upd_same]
      exact hc.keep hnew (fun e => by omega)
    · have hxb : x.b ∈ ns.map (·.b) := List.mem_map.2 ⟨x, h1, rfl⟩
      rw [Ff.upd_other _ _ (hn x h1), Ff.upd_other _ _ (hn x h1)]
      exact hc.keep ((hold x.b (hlt _ (Or.inr (Or.inr hxb)))).trans (h.j.node x h1)) (k2 _ hxb).2
  · rw [List.map_cons, List.nodup_cons]; exact ⟨hbn, h.j.ndb⟩
  · rw [List.map_cons, List.nodup_cons]
    refine ⟨fun hm => ?_, h.j.ndi⟩
    obtain ⟨n, h1, h2⟩ := List.mem_map.1 hm
    exact hn n h1 h2
  · rcases List.mem_cons.1 hx with h1 | h1
    · subst h1; exact hi
    · exact h.j.small x h1
  · exact hc.keep ((hold X hXlt).trans h.x) hXm
  · rintro (e | e | e)
    · exact h.xn (Or.inl e)
    · exact hXm e
    · rw [List.map_cons] at e
      rcases List.mem_cons.1 e with e | e
      · have e : X = W.heap.size := e
        omega
      · exact h.xn (Or.inr (Or.inr e))
  · exact ((h.c.then hb).trans hc (fun k hk => h.f k (Or.inr (Or.inl hk))))
  · have hz := h.c.size
    rintro k (e | e | e)
    · exact h.f k (Or.inl e)
    · exact h.f k (Or.inr (Or.inl e))
    · rw [List.map_cons] at e
      rcases List.mem_cons.1 e with e | e
      · have e : k = W.heap.size := e
        right; omega
      · exact h.f k (Or.inr (Or.inr e))
end Go.Proofs.Ytgeoebodlcbebaa

namespace Go.Proofs.Ytgeoebodlcbebaa
open Go.RowKit
open Ff (Nd)
set_option linter.unusedVariables false

theorem QIs.asks {r : Value} {B P : Nat} {l : List Ff.E} {F : Nat → Prop} {w w' : World} {e : Ending} (he : e = .returned r) (h : QIs w B P l F) (hb : Below w.heap.size w w') : RetQ r B P l F w e w' :=
  ⟨he, ⟨F, h.below hb, fun k hk => Or.inl hk⟩, Chg.of_below hb⟩
theorem RetQ.drew {r : Value} {B P : Nat} {l : List Ff.E} {F : Nat → Prop} {w w' : World} {e : Ending} (h : RetQ r B P l F w e w') : RetQ r B P l F w e w'.drew := by
  obtain ⟨F', h1, h2⟩ := h.s
  exact ⟨h.r, ⟨F', h1.keep (fun _ _ => rfl), h2⟩, h.c.drew⟩
set_option maxRecDepth 100000 in
set_option maxHeartbeats 1000000 in
theorem pushBad (B P : Nat) (l : List Ff.E) (F : Nat → Prop) (id co : Int) (w : World) (h : QIs w B P l F) (hb : Ff.bad id co = true) :
    Calls Try.prog 36 #[.pointer (some ⟨P, 0, none⟩), .agg #[.int .i64 id, .int .i64 co]] w (RetQ (.int .i64 1) B P l F w) := by
  have H := Lib.hid (h.asks (r := .int .i64 1) rfl ((Below.refl w.heap.size w).alloc (Nat.le_refl _) (itO id co)))
  clear h
  by_cases h1 : id < 1
  · have t1 : decide (id < 1) = true := decide_eq_true h1
    clear hb h1
    go_enter Try.func36, Try.ntmps36
    go_wp2
    go_ret
    exact H.out
  · have t1 : decide (id < 1) = false := decide_eq_false h1
    by_cases h2 : co < 1
    · have t2 : decide (co < 1) = true := decide_eq_true h2
      clear hb h1 h2
      go_enter Try.func36, Try.ntmps36
      go_wp2
      go_ret
      exact H.out
    · have t2 : decide (co < 1) = false := decide_eq_false h2
      have h3 : 64 < co := by simpa [Ff.bad, t1, t2] using hb
      have t3 : decide (64 < co) = true := decide_eq_true h3
      clear hb h1 h2 h3
      go_enter Try.func36, Try.ntmps36
      go_wp2
      go_ret
      exact H.out
set_option maxRecDepth 100000 in
set_option maxHeartbeats 1000000 in
theorem pushThere (B P : Nat) (l : List Ff.E) (F : Nat → Prop) (id co : Int) (w : World) (h : QIs w B P l F) (hid : (Lit.int .i64 id).wf = true) (hb : Ff.bad id co = false) (hh : Ff.has l id = true) :
    Calls Try.prog 36 #[.pointer (some ⟨P, 0, none⟩), .agg #[.int .i64 id, .int .i64 co]] w (RetQ (.int .i64 8) B P l F w) := by
  have hbx := (Below.refl w.heap.size w).alloc (Nat.le_refl _) (itO id co)
  have K := Lib.hid (hasC B P l F id _ (h.below hbx) hid)
  rw [hh] at K
  have H := Lib.hid (h.asks (r := .int .i64 8) rfl hbx)
  obtain ⟨b1, b2, b3⟩ := Ff.bad_no hb
  have t1 : decide (id < 1) = false := decide_eq_false (by omega)
  have t2 : decide (co < 1) = false := decide_eq_false (by omega)
  have t3 : decide (64 < co) = false := decide_eq_false (by omega)
  clear h hb hh hbx b1 b2 b3
  go_enter Try.func36, Try.ntmps36
  go_wp2_with (go_at_call 55; (with_reducible refine K.out.mono ?_); rintro e wA ⟨rfl, rfl⟩)
  go_ret
  exact H.out
theorem pq_join {w0 : World} {F : Nat → Prop} {P m X : Nat} {c id co : Int} {ns : List Nd} {aft bef : Int → Int} (u v : Int) (W : World) (h : PQ w0 F P m X c id co ns aft bef W) (hu : u ∈ ns.map (·.id)) (hv : v ∈ ns.map (·.id)) :
    Calls Try.prog 56 #[.pointer (some ⟨P, 0, none⟩), .int .i64 u, .int .i64 v] W fun e W' => e = .returned (.tuple #[]) ∧ PQ w0 F P m X c id co ns (Ff.upd aft u v) (Ff.upd bef v u) W' := by
  obtain ⟨x, hx, rfl⟩ := List.mem_map.1 hu
  obtain ⟨y, hy, rfl⟩ := List.mem_map.1 hv
  exact (joinC P m c ns aft bef x y W h.j hx hy).mono fun e W' hr => ⟨hr.e, h.join hr⟩
theorem PQ.cost {w0 : World} {F : Nat → Prop} {P m X : Nat} {c id co : Int} {ns : List Nd} {aft bef : Int → Int} {W : World} (h : PQ w0 F P m X c id co ns aft bef W) (c' : Int) : PQ w0 F P m X c' id co ns aft bef (W.setCell ⟨P, 1, none⟩ (.int .i64 c')) :=
  ⟨h.j.cost c', (Below.heap_setCell _ _ _ _ (fun e => h.xn (Or.inl e))).trans h.x, h.xn, h.c.setCell (p := ⟨P, 1, none⟩) (h.f P (Or.inl rfl)) _, h.f⟩
set_option maxRecDepth 100000 in
set_option maxHeartbeats 4000000 in
theorem pushNew (B P : Nat) (l : List Ff.E) (F : Nat → Prop) (id co : Int) (w : World) (h : QIs w B P l F) (hid : (Lit.int .i64 id).wf = true) (hb : Ff.bad id co = false) (hh : Ff.has l id = false) (hl : l.length ≤ 1000000) (hB : B ≤ w.heap.size) :
    Calls Try.prog 36 #[.pointer (some ⟨P, 0, none⟩), .agg #[.int .i64 id, .int .i64 co]] w (RetQ (.int .i64 0) B P (l ++ [(id, co)]) F w) := by
  have hbx := (Below.refl w.heap.size w).alloc (Nat.le_refl _) (itO id co)
  have K := Lib.hid (hasC B P l F id _ (h.below hbx) hid)
  rw [hh] at K
  obtain ⟨b1, b2, b3⟩ := Ff.bad_no hb
  have b4 := (wf_i64 hid).2
  have t1 : decide (id < 1) = false := decide_eq_false (by omega)
  have t2 : decide (co < 1) = false := decide_eq_false (by omega)
  have t3 : decide (64 < co) = false := decide_eq_false (by omega)
  obtain ⟨m, s, ns, aft, bef, h1, h2, rfl, h4, h5, h6⟩ := h
  have hcb := Ff.cost_bound h4.co
  have hnew : ∀ n ∈ ns, n.id ≠ id := fun n hn => Ff.has_no.1 hh n.kv (List.mem_map.2 ⟨n, hn, rfl⟩)
  have hnl : ns.length ≤ 1000000 := by simpa using hl
  have hnew1 : ∀ n ∈ (⟨s, 0, 0⟩ :: ns : List Nd), n.id ≠ id := fun n hn => by
    rcases List.mem_cons.1 hn with e | e
    · subst e; show (0 : Int) ≠ id; omega
    · exact hnew n e
  have hxr : id ∉ (0 : Int) :: ns.map (·.id) := by
    intro hm
    rcases List.mem_cons.1 hm with e | e
    · omega
    · obtain ⟨n, hn, e⟩ := List.mem_map.1 e
      exact hnew n hn e
  have hpi := h2.bef_in
  have hpush := h2.push hxr
  have hpne : bef 0 ≠ id := fun e => hxr (by rw [← e]; exact hpi)
  have hP1 : PQ w F P m w.heap.size (Ff.cost (ns.map Nd.kv)) id co (⟨s, 0, 0⟩ :: ns) aft bef (w.alloc (itO id co)) := ⟨h1.grown _, heap_alloc_new _ _, fun hf => by have := h1.lt _ hf; omega, Chg.of_below hbx, fun k hk => Or.inl ((h5 k).2 hk)⟩
  have hgood := h4.push b1 b4 b2 b3 (fun e he => by obtain ⟨n, hn, rfl⟩ := List.mem_map.1 he; exact hnew n hn)
  have hfin : ∀ b W, PQ w F P m w.heap.size (Ff.cost (ns.map Nd.kv) + co) id co (⟨b, id, co⟩ :: ⟨s, 0, 0⟩ :: ns) (Ff.upd (Ff.upd (Ff.upd aft id 0) (bef 0) id) id 0) (Ff.upd (Ff.upd (Ff.upd bef id 0) id (bef 0)) 0 id) W → RetQ (.int .i64 0) B P (ns.map Nd.kv ++ [(id, co)]) F w (.returned (.int .i64 0)) W := by
    intro b W hQ
    have hp : (⟨b, id, co⟩ :: ⟨s, 0, 0⟩ :: ns : List Nd).Perm (⟨s, 0, 0⟩ :: (ns ++ [⟨b, id, co⟩])) := by
      refine (List.Perm.swap _ _ _).trans (List.Perm.cons _ ?_)
      exact (List.perm_append_singleton _ _).symm
    have e1 : Ff.cost (ns.map Nd.kv ++ [(id, co)]) = Ff.cost (ns.map Nd.kv) + co := by rw [Ff.cost_append]; simp [Ff.cost]
    refine ⟨rfl, ⟨footJ P m (⟨s, 0, 0⟩ :: (ns ++ [⟨b, id, co⟩])), ⟨m, s, ns ++ [⟨b, id, co⟩], _, _, by rw [e1]; exact hQ.j.perm hp, ?_, by simp [Nd.kv], hgood, fun k => Iff.rfl, ?_⟩, ?_⟩, hQ.c⟩
    · rw [List.map_append]
      refine hpush.congr (fun x hx => ?_) (fun x hx => ?_)
      · unfold Ff.upd
        by_cases e : x = id
        · simp [e]
        · simp [e]
      · unfold Ff.upd
        by_cases e : x = 0
        · simp [e]
        · by_cases e2 : x = id
          · simp [e2]
          · simp [e, e2]
    · intro k hk
      have hk2 : footJ P m (⟨b, id, co⟩ :: ⟨s, 0, 0⟩ :: ns) k := by
        rcases hk with e | e | e
        · exact Or.inl e
        · exact Or.inr (Or.inl e)
        · exact Or.inr (Or.inr ((hp.map _).mem_iff.2 e))
      rcases hQ.f k hk2 with e | e
      · exact h6 k e
      · omega
    · intro k hk
      refine hQ.f k ?_
      rcases hk with e | e | e
      · exact Or.inl e
      · exact Or.inr (Or.inl e)
      · exact Or.inr (Or.inr ((hp.map _).mem_iff.2 e))
  have hbef0 : Ff.upd bef id 0 0 = bef 0 := Ff.upd_other _ _ (by omega)
  have J1 := Lib.hid (fun (b : Nat) (W : World) (hQ : PQ w F P m w.heap.size (Ff.cost (ns.map Nd.kv)) id co (⟨b, id, co⟩ :: ⟨s, 0, 0⟩ :: ns) (Ff.upd aft id 0) (Ff.upd bef id 0) W) => pq_join (bef 0) id W hQ (by simp only [List.map_cons, List.mem_cons] at hpi ⊢; exact Or.inr hpi) (by simp))
  have J2 := Lib.hid (fun (b : Nat) (W : World) (hQ : PQ w F P m w.heap.size (Ff.cost (ns.map Nd.kv)) id co (⟨b, id, co⟩ :: ⟨s, 0, 0⟩ :: ns) (Ff.upd (Ff.upd aft id 0) (bef 0) id) (Ff.upd (Ff.upd bef id 0) id (bef 0)) W) => pq_join id 0 W hQ (by simp) (by simp))
  have HS1 := Lib.hid (fun (W : World) (hw : W.heap[P]? = some (quO m (Ff.cost (ns.map Nd.kv))) ∧ W.heap[w.heap.size]? = some (itO id co)) => (show W.cell? ⟨P, 0, none⟩ = some (.map (some m)) ∧ W.cell? ⟨w.heap.size, 0, none⟩ = some (.int .i64 id) ∧ W.cell? ⟨w.heap.size, 1, none⟩ = some (.int .i64 co) from ⟨by rw [cell_of_row W _ _ _ _ _ hw.1]; rfl, by rw [cell_of_row W _ _ _ _ _ hw.2]; rfl, by rw [cell_of_row W _ _ _ _ _ hw.2]; rfl⟩))
  have HS2 := Lib.hid (fun (W : World) (hw : ∃ b aft' bef', PQ w F P m w.heap.size (Ff.cost (ns.map Nd.kv)) id co (⟨b, id, co⟩ :: ⟨s, 0, 0⟩ :: ns) aft' bef' W ∧ bef' 0 = bef 0) => (show W.cell? ⟨P, 0, none⟩ = some (.map (some m)) ∧ (Instr.lookup 105 (.map (some m)) (.int .i64 0) false).run Try.prog W = .ok (.pointer (some ⟨s, 0, none⟩)) W ∧ W.cell? ⟨s, 2, none⟩ = some (.int .i64 (bef 0)) ∧ W.cell? ⟨w.heap.size, 0, none⟩ = some (.int .i64 id) ∧ W.cell? ⟨w.heap.size, 1, none⟩ = some (.int .i64 co) from by
    obtain ⟨b, aft', bef', hw, hbef0'⟩ := hw
    have g := (hw.j.n0 (n := ⟨s, 0, 0⟩) (by simp)).2.2.1
    rw [hbef0'] at g
    exact ⟨hw.j.c0, hw.j.look (n := ⟨s, 0, 0⟩) (by simp), g, hw.xs.1, hw.xs.2⟩))
  have HPUT := Lib.hid (fun (W : World) (hQ : PQ w F P m w.heap.size (Ff.cost (ns.map Nd.kv)) id co (⟨s, 0, 0⟩ :: ns) aft bef W) (W1 W3 : World) hW1 hM hc => hQ.put (W1 := W1) (W3 := W3) hW1 hM hc ⟨by omega, b4⟩ hnew1)
  have HMAP := Lib.hid (fun (W : World) (hQ : PQ w F P m w.heap.size (Ff.cost (ns.map Nd.kv)) id co (⟨s, 0, 0⟩ :: ns) aft bef W) => hQ.j.map)
  have HTWO := Lib.hid (fun (W : World) (hQ : PQ w F P m w.heap.size (Ff.cost (ns.map Nd.kv)) id co (⟨s, 0, 0⟩ :: ns) aft bef W) => (show W.heap[P]? = some (quO m (Ff.cost (ns.map Nd.kv))) ∧ W.heap[w.heap.size]? = some (itO id co) from ⟨hQ.j.tab, hQ.x⟩))
  have HS3 := Lib.hid (fun (b : Nat) (W : World) (hw : PQ w F P m w.heap.size (Ff.cost (ns.map Nd.kv)) id co (⟨b, id, co⟩ :: ⟨s, 0, 0⟩ :: ns) (Ff.upd aft id 0) (Ff.upd bef id 0) W) => (show ∃ b aft' bef', PQ w F P m w.heap.size (Ff.cost (ns.map Nd.kv)) id co (⟨b, id, co⟩ :: ⟨s, 0, 0⟩ :: ns) aft' bef' W ∧ bef' 0 = bef 0 from ⟨b, _, _, hw, hbef0⟩))
  have HS4 := Lib.hid (fun (b : Nat) (W : World) (hw : PQ w F P m w.heap.size (Ff.cost (ns.map Nd.kv)) id co (⟨b, id, co⟩ :: ⟨s, 0, 0⟩ :: ns) (Ff.upd (Ff.upd aft id 0) (bef 0) id) (Ff.upd (Ff.upd bef id 0) id (bef 0)) W) => (show ∃ b aft' bef', PQ w F P m w.heap.size (Ff.cost (ns.map Nd.kv)) id co (⟨b, id, co⟩ :: ⟨s, 0, 0⟩ :: ns) aft' bef' W ∧ bef' 0 = bef 0 from ⟨b, _, _, hw, by rw [Ff.upd_other _ _ (by omega), Ff.upd_other _ _ (by omega)]⟩))
  have HCST := Lib.hid (fun (b : Nat) (W : World) (hw : PQ w F P m w.heap.size (Ff.cost (ns.map Nd.kv)) id co (⟨b, id, co⟩ :: ⟨s, 0, 0⟩ :: ns) (Ff.upd (Ff.upd (Ff.upd aft id 0) (bef 0) id) id 0) (Ff.upd (Ff.upd (Ff.upd bef id 0) id (bef 0)) 0 id) W) => hfin b _ (hw.cost (Ff.cost (ns.map Nd.kv) + co)))
  have HZ : Hid ((w.alloc (itO id co)).heap.size = w.heap.size + 1) := Lib.hid (by simp)
  have hbx2 : ((w.alloc (itO id co)).alloc (lkO id co 0 0)).drew.heap[P]? = some (quO m (Ff.cost (ns.map Nd.kv))) ∧ ((w.alloc (itO id co)).alloc (lkO id co 0 0)).drew.heap[w.heap.size]? = some (itO id co) := by
    have hz : (w.alloc (itO id co)).heap.size = w.heap.size + 1 := by simp
    have g := HTWO.out _ hP1
    exact ⟨(Lib.alloc_old _ _ _ (lt_block g.1)).trans g.1, (Lib.alloc_old _ _ _ (by omega)).trans g.2⟩
  have hbx3 : MapL ((w.alloc (itO id co)).alloc (lkO id co 0 0)).drew m (⟨s, 0, 0⟩ :: ns) := (HMAP.out _ hP1).keep (Lib.alloc_old _ _ _ (HMAP.out _ hP1).lt)
  have HBX := Lib.hid (And.intro hbx2 hbx3)
  clear hbx2 hbx3

  have HQ := Lib.hid hP1
  have HW := Lib.hid hid
  have HN1 := Lib.hid hnew1
  have HL1 : Hid ((⟨s, 0, 0⟩ :: ns : List Nd).length ≤ 1000001) := Lib.hid (by simp; omega)
  have hcs : Ff.cost (ns.map Nd.kv) ≤ 64000000 := by have : ((ns.map Nd.kv).length : Int) ≤ 1000000 := by omega
                                                     omega
  have hc0 := hcb.1
  clear h1 h2 h4 h5 h6 hb hh hbx hcb hnew hxr hpi hpush hpne hP1 hgood hfin hbef0 hid hl hnl b1 b4 hnew1 hB
  generalize hcc : Ff.cost (ns.map Nd.kv) = c at *
  clear hcc
  go_enter Try.func36, Try.ntmps36
  go_upto_region 7 with (go_at_call 55; (with_reducible refine K.out.mono ?_); rintro e wA ⟨rfl, rfl⟩)
  refine wp_region_any (by kernel_rfl) ?_
  change wpAny _ _ _ _ _ _ _ (World.drew _)
  refine wpAny_of_held (S := fun W => W.heap[P]? = some (quO m c) ∧ W.heap[w.heap.size]? = some (itO id co)) _ _ _ _ ?_
  have hS := HTWO.out _ HQ.out.drew
  refine takeH 0 24 ?_ rfl rfl (by kernel_rfl) (by kernel_rfl) (by kernel_rfl) (fun _ _ _ h => h) (Or.inl ⟨by kernel_rfl, ?_⟩) hS ?_; rotate_left; (intro w' hw; skip; first | (go_simp; done) | (go_simp; with_reducible rfl)); rotate_left
  try simp only [List.setIfInBounds_toArray, List.set_cons_zero, List.set_cons_succ]
  refine takeH 1 25 ?_ rfl rfl (by kernel_rfl) (by kernel_rfl) (by kernel_rfl) (fun _ _ _ h => h) (Or.inl ⟨by kernel_rfl, ?_⟩) hS ?_; rotate_left; (intro w' hw; skip; first | (go_simp; done) | (go_simp; with_reducible rfl)); rotate_left
  try simp only [List.setIfInBounds_toArray, List.set_cons_zero, List.set_cons_succ]
  refine takeH 2 26 ?_ rfl rfl (by kernel_rfl) (by kernel_rfl) (by kernel_rfl) (fun _ _ _ h => h) (Or.inl ⟨by kernel_rfl, ?_⟩) hS ?_; rotate_left; (intro w' hw; skip; first | (go_simp; done) | (go_simp; with_reducible rfl)); rotate_left
  try simp only [List.setIfInBounds_toArray, List.set_cons_zero, List.set_cons_succ]
  refine takeH 3 27 ?_ rfl rfl (by kernel_rfl) (by kernel_rfl) (by kernel_rfl) (fun _ _ _ h => h) (Or.inl ⟨by kernel_rfl, ?_⟩) hS ?_; rotate_left; (intro w' hw; obtain ⟨z0, z1, z2⟩ := HS1.out _ hw; first | (go_simp; done) | (go_simp; with_reducible rfl)); rotate_left
  try simp only [List.setIfInBounds_toArray, List.set_cons_zero, List.set_cons_succ]
  refine takeH 4 28 ?_ rfl rfl (by kernel_rfl) (by kernel_rfl) (by kernel_rfl) (fun _ _ _ h => h) (Or.inl ⟨by kernel_rfl, ?_⟩) hS ?_; rotate_left; (intro w' hw; skip; first | (go_simp; done) | (go_simp; with_reducible rfl)); rotate_left
  try simp only [List.setIfInBounds_toArray, List.set_cons_zero, List.set_cons_succ]
  refine takeH 5 29 ?_ rfl rfl (by kernel_rfl) (by kernel_rfl) (by kernel_rfl) (fun _ _ _ h => h) (Or.inl ⟨by kernel_rfl, ?_⟩) hS ?_; rotate_left; (intro w' hw; obtain ⟨z0, z1, z2⟩ := HS1.out _ hw; first | (go_simp; done) | (go_simp; with_reducible rfl)); rotate_left
  try simp only [List.setIfInBounds_toArray, List.set_cons_zero, List.set_cons_succ]
  refine takeH 6 30 ?_ rfl rfl (by kernel_rfl) (by kernel_rfl) (by kernel_rfl) (fun _ _ _ h => h) (Or.inl ⟨by kernel_rfl, ?_⟩) hS ?_; rotate_left; (intro w' hw; obtain ⟨z0, z1, z2⟩ := HS1.out _ hw; first | (go_simp; done) | (go_simp; with_reducible rfl)); rotate_left
  try simp only [List.setIfInBounds_toArray, List.set_cons_zero, List.set_cons_succ]
  refine takeH 7 31 ?_ rfl rfl (by kernel_rfl) (by kernel_rfl) (by kernel_rfl) (fun _ _ _ h => h) (Or.inl ⟨by kernel_rfl, ?_⟩) hS ?_; rotate_left; (intro w' hw; skip; first | (go_simp; done) | (go_simp; with_reducible rfl)); rotate_left
  try simp only [List.setIfInBounds_toArray, List.set_cons_zero, List.set_cons_succ]
  refine wpAnyH_ready (rs := [8]) (by kernel_rfl) (by simp) ?_; refine AllReadyH.cons rfl (fun K2 hK => ?_) AllReadyH.nil; go_simp; refine hK.out _ _ ?_ (fun _ => ?_); (exact HBX.out.1); clear hK K2; replace hS := HBX.out.1
  refine wpAnyH_ready (rs := [9]) (by kernel_rfl) (by simp) ?_; refine AllReadyH.cons rfl (fun K2 hK => ?_) AllReadyH.nil; rw [if_pos (by kernel_rfl)]; refine wp_putL _ _ _ _ rfl m (⟨s, 0, 0⟩ :: ns) rfl HBX.out.2 ⟨w.heap.size + 1, id, co⟩ rfl rfl HW.out HL1.out HN1.out ?_; intro w3 hm3 hc3; have hQ3 := Lib.hid (HPUT.out _ HQ.out _ w3 (Or.inl rfl) (by rw [HZ.out]; exact hm3) hc3); refine hK.out _ _ ⟨hQ3.out.j.tab, hQ3.out.x⟩ (fun _ => ?_); clear hK K2 hm3 hc3
  refine wpAnyH_done (by kernel_rfl) ?_ _
  simp only [Act.put, List.getElem_toArray, List.getElem_cons_zero, List.getElem_cons_succ]
  clear hS HBX HTWO HPUT HMAP HN1 HL1 HW HQ HS1 K
  rw [HZ.out] at hQ3
  generalize w.heap.size + 1 = nb at *
  go_upto_region 8 with fail
  refine wp_region_any (by kernel_rfl) ?_
  change wpAny _ _ _ _ _ _ _ (World.drew _)
  refine wpAny_of_held (S := fun W => ∃ b aft' bef', PQ w F P m w.heap.size c id co (⟨b, id, co⟩ :: ⟨s, 0, 0⟩ :: ns) aft' bef' W ∧ bef' 0 = bef 0) _ _ _ _ ?_
  replace hQ3 := Lib.hid hQ3.out.drew
  have hS := HS3.out nb _ hQ3.out
  refine takeH 0 33 ?_ rfl rfl (by kernel_rfl) (by kernel_rfl) (by kernel_rfl) (fun _ _ _ h => h) (Or.inl ⟨by kernel_rfl, ?_⟩) hS ?_; rotate_left; (intro w' hw; skip; first | (go_simp; done) | (go_simp; with_reducible rfl)); rotate_left
  try simp only [List.setIfInBounds_toArray, List.set_cons_zero, List.set_cons_succ]
  refine takeH 1 34 ?_ rfl rfl (by kernel_rfl) (by kernel_rfl) (by kernel_rfl) (fun _ _ _ h => h) (Or.inl ⟨by kernel_rfl, ?_⟩) hS ?_; rotate_left; (intro w' hw; skip; first | (go_simp; done) | (go_simp; with_reducible rfl)); rotate_left
  try simp only [List.setIfInBounds_toArray, List.set_cons_zero, List.set_cons_succ]
  refine takeH 2 35 ?_ rfl rfl (by kernel_rfl) (by kernel_rfl) (by kernel_rfl) (fun _ _ _ h => h) (Or.inl ⟨by kernel_rfl, ?_⟩) hS ?_; rotate_left; (intro w' hw; skip; first | (go_simp; done) | (go_simp; with_reducible rfl)); rotate_left
  try simp only [List.setIfInBounds_toArray, List.set_cons_zero, List.set_cons_succ]
  refine takeH 3 36 ?_ rfl rfl (by kernel_rfl) (by kernel_rfl) (by kernel_rfl) (fun _ _ _ h => h) (Or.inl ⟨by kernel_rfl, ?_⟩) hS ?_; rotate_left; (intro w' hw; skip; first | (go_simp; done) | (go_simp; with_reducible rfl)); rotate_left
  try simp only [List.setIfInBounds_toArray, List.set_cons_zero, List.set_cons_succ]
  refine takeH 4 37 ?_ rfl rfl (by kernel_rfl) (by kernel_rfl) (by kernel_rfl) (fun _ _ _ h => h) (Or.inl ⟨by kernel_rfl, ?_⟩) hS ?_; rotate_left; (intro w' hw; obtain ⟨z0, z1, z2, z3, z4⟩ := HS2.out _ hw; first | (go_simp; done) | (go_simp; with_reducible rfl)); rotate_left
  try simp only [List.setIfInBounds_toArray, List.set_cons_zero, List.set_cons_succ]
  refine takeH 5 38 ?_ rfl rfl (by kernel_rfl) (by kernel_rfl) (by kernel_rfl) (fun _ _ _ h => h) (Or.inl ⟨by kernel_rfl, ?_⟩) hS ?_; rotate_left; (intro w' hw; obtain ⟨z0, z1, z2, z3, z4⟩ := HS2.out _ hw; first | (go_simp; done) | (go_simp; with_reducible rfl)); rotate_left
  try simp only [List.setIfInBounds_toArray, List.set_cons_zero, List.set_cons_succ]
  refine takeH 6 39 ?_ rfl rfl (by kernel_rfl) (by kernel_rfl) (by kernel_rfl) (fun _ _ _ h => h) (Or.inl ⟨by kernel_rfl, ?_⟩) hS ?_; rotate_left; (intro w' hw; skip; first | (go_simp; done) | (go_simp; with_reducible rfl)); rotate_left
  try simp only [List.setIfInBounds_toArray, List.set_cons_zero, List.set_cons_succ]
  refine takeH 7 40 ?_ rfl rfl (by kernel_rfl) (by kernel_rfl) (by kernel_rfl) (fun _ _ _ h => h) (Or.inl ⟨by kernel_rfl, ?_⟩) hS ?_; rotate_left; (intro w' hw; skip; first | (go_simp; done) | (go_simp; with_reducible rfl)); rotate_left
  try simp only [List.setIfInBounds_toArray, List.set_cons_zero, List.set_cons_succ]
  refine takeH 8 41 ?_ rfl rfl (by kernel_rfl) (by kernel_rfl) (by kernel_rfl) (fun _ _ _ h => h) (Or.inl ⟨by kernel_rfl, ?_⟩) hS ?_; rotate_left; (intro w' hw; obtain ⟨z0, z1, z2, z3, z4⟩ := HS2.out _ hw; first | (go_simp; done) | (go_simp; with_reducible rfl)); rotate_left
  try simp only [List.setIfInBounds_toArray, List.set_cons_zero, List.set_cons_succ]
  refine takeH 9 42 ?_ rfl rfl (by kernel_rfl) (by kernel_rfl) (by kernel_rfl) (fun _ _ _ h => h) (Or.inl ⟨by kernel_rfl, ?_⟩) hS ?_; rotate_left; (intro w' hw; skip; first | (go_simp; done) | (go_simp; with_reducible rfl)); rotate_left
  try simp only [List.setIfInBounds_toArray, List.set_cons_zero, List.set_cons_succ]
  refine takeH 10 43 ?_ rfl rfl (by kernel_rfl) (by kernel_rfl) (by kernel_rfl) (fun _ _ _ h => h) (Or.inl ⟨by kernel_rfl, ?_⟩) hS ?_; rotate_left; (intro w' hw; obtain ⟨z0, z1, z2, z3, z4⟩ := HS2.out _ hw; first | (go_simp; done) | (go_simp; with_reducible rfl)); rotate_left
  try simp only [List.setIfInBounds_toArray, List.set_cons_zero, List.set_cons_succ]
  refine wpAnyH_ready (rs := [11]) (by kernel_rfl) (by simp) ?_; refine AllReadyH.cons rfl (fun K2 hK => ?_) AllReadyH.nil; go_simp; go_wp2_with (go_at_call 56; (with_reducible refine (J1.out nb _ hQ3.out).mono ?_); rintro e wB ⟨rfl, hB⟩; have HB2 := Lib.hid hB; clear hB); refine hK.out _ _ ?_ (fun _ => ?_); (exact HS4.out nb _ HB2.out); clear hK K2
  refine wpAnyH_done (by kernel_rfl) ?_ _
  clear hS hQ3 HS2 HS3 HS4 J1
  have z0 := HB2.out.xs.1
  go_upto_region 10 with (go_at_call 56; (with_reducible refine (J2.out nb _ HB2.out).mono ?_); rintro e wC ⟨rfl, hC⟩; have HC3 := Lib.hid hC; clear hC)
  obtain ⟨y0, y1⟩ := HC3.out.xs
  have y2 := HC3.out.j.c1
  have y3 := HC3.out.j.fr 1
  have HE := Lib.hid (HCST.out nb _ HC3.out)
  have hwr : IntKind.i64.wrap (c + co) = c + co := by rw [IntKind.wrap_i64]; omega
  go_region
  go_wp2
  go_ret
  exact HE.out.drew
theorem pushC (B P : Nat) (l : List Ff.E) (F : Nat → Prop) (id co : Int) (w : World) (h : QIs w B P l F) (hid : (Lit.int .i64 id).wf = true) (hl : l.length ≤ 1000000) (hB : B ≤ w.heap.size) :
    Calls Try.prog 36 #[.pointer (some ⟨P, 0, none⟩), .agg #[.int .i64 id, .int .i64 co]] w (RetQ (.int .i64 (Ff.pushE l id co)) B P (Ff.pushL l id co) F w) := by
  unfold Ff.pushE Ff.pushL
  cases hb : Ff.bad id co with
  | true => exact pushBad B P l F id co w h hb
  | false =>
    cases hh : Ff.has l id with
    | true => exact pushThere B P l F id co w h hid hb hh
    | false => exact pushNew B P l F id co w h hid hb hh hl hB
end Go.Proofs.Ytgeoebodlcbebaa

namespace Go.Proofs.Ytgeoebodlcbebaa
open Go.RowKit
open Ff (Nd)
set_option linter.unusedVariables false

/-- a queue beside a box that a call made for itself -/
structure QX (w : World) (B P : Nat) (l : List Ff.E) (F : Nat → Prop) (X : Nat) (W : World) : Prop where
  s : ∃ F', QIs W B P l F' ∧ (∀ k, F' k → F k ∨ w.heap.size ≤ k) ∧ ¬ F' X
  c : Chg F w W
theorem QX.set {w : World} {B P : Nat} {l : List Ff.E} {F : Nat → Prop} {X : Nat} {W : World} (h : QX w B P l F X W) (hX : w.heap.size ≤ X) (i : Nat) (u : Value) : QX w B P l F X (W.setCell ⟨X, i, none⟩ u) := by
  obtain ⟨F', h1, h2, h3⟩ := h.s
  exact ⟨⟨F', h1.keep (fun k hk => Below.heap_setCell _ _ _ _ (fun e => h3 (by rw [← show k = X from e]; exact hk))), h2, h3⟩, h.c.setCell (p := ⟨X, i, none⟩) (Or.inr hX) _⟩
theorem QX.ret {w : World} {B P : Nat} {l : List Ff.E} {F : Nat → Prop} {X : Nat} {W : World} (h : QX w B P l F X W) (r : Value) : RetQ r B P l F w (.returned r) W := by
  obtain ⟨F', h1, h2, h3⟩ := h.s
  exact ⟨rfl, ⟨F', h1, h2⟩, h.c⟩
theorem QX.drew {w : World} {B P : Nat} {l : List Ff.E} {F : Nat → Prop} {X : Nat} {W : World} (h : QX w B P l F X W) : QX w B P l F X W.drew := by
  obtain ⟨F', h1, h2, h3⟩ := h.s
  exact ⟨⟨F', h1.keep (fun _ _ => rfl), h2, h3⟩, h.c.drew⟩

set_option maxRecDepth 100000 in
set_option maxHeartbeats 1000000 in
theorem dropNone (B P : Nat) (l : List Ff.E) (F : Nat → Prop) (id : Int) (w : World) (h : QIs w B P l F) (hid : (Lit.int .i64 id).wf = true) (hh : Ff.has l id = false) :
    Calls Try.prog 41 #[.pointer (some ⟨P, 0, none⟩), .int .i64 id] w (RetQ (itemV none) B P l F w) := by
  have hbx := (Below.refl w.heap.size w).alloc (Nat.le_refl _) zeroI
  have K := Lib.hid (hasC B P l F id _ (h.below hbx) hid)
  rw [hh] at K
  have H := Lib.hid (h.asks (r := itemV none) rfl hbx)
  clear h hh hbx hid
  go_enter Try.func41, Try.ntmps41
  go_wp2_with (go_at_call 55; (with_reducible refine K.out.mono ?_); rintro e wA ⟨rfl, rfl⟩)
  (try simp only [Exit.inBlock, Exit.then])
  refine bodyPost_ret (v := itemV none) ?_ rfl ?_
  · rw [results_cell_tmp rfl]; go_simp; (try rfl)
  · exact H.out

/-- a link taken out of the map -/
theorem PQ.del {w0 : World} {F : Nat → Prop} {P m X : Nat} {c id co : Int} {a b : List Nd} {n : Nd} {aft bef : Int → Int} {W W' : World} (h : PQ w0 F P m X c id co (a ++ n :: b) aft bef W) (hM : MapL W' m (a ++ b)) (hc : Chg (fun k => k = m) W W') :
    PQ w0 F P m X c id co (a ++ b) aft bef W' ∧ W'.heap[n.b]? = some (lkO n.id n.c (bef n.id) (aft n.id)) ∧ n.b ≠ P ∧ n.b ≠ X ∧ n.b ∉ (a ++ b).map (·.b) := by
  obtain ⟨k1, k2⟩ := h.j.kinds
  have hsub : (a ++ b).Sublist (a ++ n :: b) := (List.Sublist.refl a).append (List.sublist_cons_self n b)
  have hnb : n.b ∈ (a ++ n :: b).map (·.b) := List.mem_map.2 ⟨n, by simp, rfl⟩
  have hf : ∀ k, footJ P m (a ++ b) k → footJ P m (a ++ n :: b) k := fun k hk => by
    rcases hk with e | e | e
    · exact Or.inl e
    · exact Or.inr (Or.inl e)
    · exact Or.inr (Or.inr ((hsub.map _).subset e))
  refine ⟨⟨⟨hc.keep h.j.tab k1, hM, fun x hx => ?_, (hsub.map _).nodup h.j.ndb, (hsub.map _).nodup h.j.ndi, fun x hx => h.j.small x (hsub.subset hx)⟩, hc.keep h.x (fun e => h.xn (Or.inr (Or.inl e))), fun hk => h.xn (hf X hk), h.c.trans hc (fun k hk => h.f k (Or.inr (Or.inl hk))), fun k hk => h.f k (hf k hk)⟩, hc.keep (h.j.node n (by simp)) (k2 _ hnb).2, (k2 _ hnb).1, fun e => h.xn (Or.inr (Or.inr (by rw [← e]; exact hnb))), ?_⟩
  · have hx2 := hsub.subset hx
    exact hc.keep (h.j.node x hx2) (k2 _ (List.mem_map.2 ⟨x, hx2, rfl⟩)).2
  · have := h.j.ndb
    rw [List.map_append, List.map_cons, List.nodup_append] at this
    obtain ⟨_, h2, h3⟩ := this
    rw [List.nodup_cons] at h2
    rw [List.map_append, List.mem_append]
    rintro (e | e)
    · exact h3 _ e n.b List.mem_cons_self rfl
    · exact h2.1 e
set_option maxRecDepth 100000 in
set_option maxHeartbeats 4000000 in
theorem dropSome (B P : Nat) (l : List Ff.E) (F : Nat → Prop) (id co : Int) (la lb : List Ff.E) (w : World) (h : QIs w B P l F) (hid : (Lit.int .i64 id).wf = true) (hl : l.length ≤ 1000000) (he : l = la ++ (id, co) :: lb) :
    Calls Try.prog 41 #[.pointer (some ⟨P, 0, none⟩), .int .i64 id] w (RetQ (itemV (some (id, co))) B P (la ++ lb) F w) := by
  have hbx := (Below.refl w.heap.size w).alloc (Nat.le_refl _) zeroI
  have K := Lib.hid (hasC B P l F id _ (h.below hbx) hid)
  rw [show Ff.has l id = true by rw [he]; exact Ff.has_mid _ _ _ _] at K
  obtain ⟨m, s, ns, aft, bef, h1, h2, h3, h4, h5, h6⟩ := h
  have hcb := Ff.cost_bound h4.co
  have hgood : Ff.Good (la ++ lb) := h4.sub (by rw [he]; exact (List.Sublist.refl la).append (List.sublist_cons_self _ lb))
  have hcost : Ff.cost l = Ff.cost (la ++ lb) + co := by rw [he, Ff.cost_append, Ff.cost_append]; simp [Ff.cost]; omega
  have hcco : 1 ≤ co ∧ co ≤ 64 := h4.co (id, co) (by rw [he]; simp)
  rw [he] at h3
  obtain ⟨na, nr, rfl, e1, e2⟩ := List.map_eq_append_iff.1 h3
  obtain ⟨n, nb, rfl, e3, e4⟩ := List.map_eq_cons_iff.1 e2
  have en1 : n.id = id := congrArg Prod.fst e3
  have en2 : n.c = co := congrArg Prod.snd e3
  subst en1 en2
  rw [List.map_append, List.map_cons] at h2
  obtain ⟨i1, i2, i3, i4⟩ := h2.aft_in
  have hcut := h2.cut
  have hP1 : PQ w F P m w.heap.size (Ff.cost l) 0 0 ((⟨s, 0, 0⟩ :: na) ++ n :: nb) aft bef (w.alloc zeroI) := ⟨h1.grown _, heap_alloc_new _ _, fun hf => by have := h1.lt _ hf; omega, Chg.of_below hbx, fun k hk => Or.inl ((h5 k).2 hk)⟩
  have hmem : n ∈ ((⟨s, 0, 0⟩ :: na) ++ n :: nb : List Nd) := by simp
  have J1 := Lib.hid (fun (W : World) (hQ : PQ w F P m w.heap.size (Ff.cost l) 0 0 ((⟨s, 0, 0⟩ :: na) ++ n :: nb) aft bef W) => pq_join (bef n.id) (aft n.id) W hQ (by simp at i2 ⊢; rcases i2 with e | e | e; exact Or.inl e; exact Or.inr (Or.inl e); exact Or.inr (Or.inr (Or.inr e))) (by simp at i1 ⊢; rcases i1 with e | e | e; exact Or.inl e; exact Or.inr (Or.inl e); exact Or.inr (Or.inr (Or.inr e))))
  have hlook : ∀ {W : World} {aft' bef' : Int → Int} {c : Int}, JAt W P m c ((⟨s, 0, 0⟩ :: na) ++ n :: nb) aft' bef' → W.cell? ⟨P, 0, none⟩ = some (.map (some m)) ∧ (Instr.lookup 105 (.map (some m)) (.int .i64 n.id) false).run Try.prog W = .ok (.pointer (some ⟨n.b, 0, none⟩)) W := fun g => ⟨g.c0, g.look hmem⟩
  obtain ⟨x0, x1⟩ := hlook hP1.j
  have HS1 := Lib.hid (fun (W : World) (hw : ∃ aft' bef', PQ w F P m w.heap.size (Ff.cost l) 0 0 ((⟨s, 0, 0⟩ :: na) ++ n :: nb) aft' bef' W ∧ bef' n.id = bef n.id ∧ aft' n.id = aft n.id) => (show W.cell? ⟨n.b, 2, none⟩ = some (.int .i64 (bef n.id)) ∧ W.cell? ⟨n.b, 3, none⟩ = some (.int .i64 (aft n.id)) from by
    obtain ⟨aft', bef', hw, e1, e2⟩ := hw
    obtain ⟨_, _, g2, g3⟩ := hw.j.n0 hmem
    rw [e1] at g2
    rw [e2] at g3
    exact ⟨g2, g3⟩))
  have HS2 := Lib.hid (fun (W : World) (hw : PQ w F P m w.heap.size (Ff.cost l) 0 0 ((⟨s, 0, 0⟩ :: na) ++ n :: nb) (Ff.upd aft (bef n.id) (aft n.id)) (Ff.upd bef (aft n.id) (bef n.id)) W) => (show (∃ aft' bef', PQ w F P m w.heap.size (Ff.cost l) 0 0 ((⟨s, 0, 0⟩ :: na) ++ n :: nb) aft' bef' W ∧ bef' n.id = bef n.id ∧ aft' n.id = aft n.id) ∧ W.cell? ⟨P, 0, none⟩ = some (.map (some m)) ∧ MapL W m ((⟨s, 0, 0⟩ :: na) ++ n :: nb) from ⟨⟨_, _, hw, Ff.upd_other _ _ (fun e => i3 e.symm), Ff.upd_other _ _ (fun e => i4 e.symm)⟩, hw.j.c0, hw.j.map⟩))
  have HD := Lib.hid (fun (W W' : World) (hw : PQ w F P m w.heap.size (Ff.cost l) 0 0 ((⟨s, 0, 0⟩ :: na) ++ n :: nb) (Ff.upd aft (bef n.id) (aft n.id)) (Ff.upd bef (aft n.id) (bef n.id)) W) hM hc => hw.del (W' := W') hM hc)
  have HFIN := Lib.hid (fun (W : World) (hw : PQ w F P m w.heap.size (Ff.cost l) 0 0 ((⟨s, 0, 0⟩ :: na) ++ nb) (Ff.upd aft (bef n.id) (aft n.id)) (Ff.upd bef (aft n.id) (bef n.id)) W) => (show QX w B P (la ++ lb) F w.heap.size (W.setCell ⟨P, 1, none⟩ (.int .i64 (Ff.cost l - n.c))) from by
    have hw2 := hw.cost (Ff.cost l - n.c)
    have hc : Ff.cost l - n.c = Ff.cost (la ++ lb) := by omega
    refine ⟨⟨footJ P m (⟨s, 0, 0⟩ :: (na ++ nb)), ⟨m, s, na ++ nb, _, _, by rw [← hc]; exact hw2.j, by rw [List.map_append]; exact hcut, by rw [List.map_append, e1, e4], hgood, fun k => Iff.rfl, fun k hk => ?_⟩, fun k hk => hw2.f k hk, hw2.xn⟩, hw2.c⟩
    have hk2 : footJ P m (⟨s, 0, 0⟩ :: (na ++ n :: nb)) k := by
      rcases hk with e | e | e
      · exact Or.inl e
      · exact Or.inr (Or.inl e)
      · refine Or.inr (Or.inr ?_)
        simp at e ⊢
        rcases e with e | e | e
        · exact Or.inl e
        · exact Or.inr (Or.inl e)
        · exact Or.inr (Or.inr (Or.inr e))
    exact h6 k ((h5 k).2 hk2)))
  have HQ := Lib.hid hP1
  have HNI := Lib.hid hP1.j.ndi
  have HW := Lib.hid hid
  have hcl : Ff.cost l ≤ 64000000 := by have : ((l.length : Nat) : Int) ≤ 1000000 := by omega
                                        omega
  have hc0 := hcb.1
  have hc1 := hcco.1
  have hc2 := hcco.2
  have he1 : itemV (some (n.id, n.c)) = .tuple #[.agg #[.int .i64 n.id, .int .i64 n.c], .bool true] := rfl
  rw [he1]
  generalize hna : (⟨s, 0, 0⟩ :: na : List Nd) = nz at *
  clear hna h1 h2 h3 h4 h5 h6 e1 e2 e3 e4 he he1 i1 i2 i3 i4 hcut hP1 hmem hlook hbx hcb hgood hcost hcco hid hl
  generalize Ff.cost l = c at *
  obtain ⟨x, hx⟩ : ∃ x, x = n.b := ⟨_, rfl⟩
  obtain ⟨k, hk⟩ : ∃ k, k = n.id := ⟨_, rfl⟩
  obtain ⟨d, hd⟩ : ∃ d, d = n.c := ⟨_, rfl⟩
  rw [← hx, ← hk] at x1
  rw [← hx, ← hk] at HS1
  rw [← hk] at K J1 HS2 HW HD HFIN
  rw [← hd] at hc1 hc2 HFIN
  rw [← hk, ← hd]
  have HK := Lib.hid hk
  have HX := Lib.hid hx
  have HDC := Lib.hid hd
  clear hk hx hd
  go_enter Try.func41, Try.ntmps41
  go_upto_region 4 with (go_at_call 55; (with_reducible refine K.out.mono ?_); rintro e wA ⟨rfl, rfl⟩)
  refine wp_region_any (by kernel_rfl) ?_
  change wpAny _ _ _ _ _ _ _ (World.drew _)
  refine wpAny_of_held (S := fun W => ∃ aft' bef', PQ w F P m w.heap.size c 0 0 (nz ++ n :: nb) aft' bef' W ∧ bef' k = bef k ∧ aft' k = aft k) _ _ _ _ ?_
  replace HQ := Lib.hid HQ.out.drew
  have hS := (⟨aft, bef, HQ.out, rfl, rfl⟩ : ∃ aft' bef', PQ w F P m w.heap.size c 0 0 (nz ++ n :: nb) aft' bef' (w.alloc zeroI).drew ∧ bef' k = bef k ∧ aft' k = aft k)
  refine takeH 0 18 ?_ rfl rfl (by kernel_rfl) (by kernel_rfl) (by kernel_rfl) (fun _ _ _ h => h) (Or.inl ⟨by kernel_rfl, ?_⟩) hS ?_; rotate_left; (intro w' hw; skip; first | (go_simp; done) | (go_simp; with_reducible rfl)); rotate_left
  try simp only [List.setIfInBounds_toArray, List.set_cons_zero, List.set_cons_succ]
  refine takeH 1 19 ?_ rfl rfl (by kernel_rfl) (by kernel_rfl) (by kernel_rfl) (fun _ _ _ h => h) (Or.inl ⟨by kernel_rfl, ?_⟩) hS ?_; rotate_left; (intro w' hw; skip; first | (go_simp; done) | (go_simp; with_reducible rfl)); rotate_left
  try simp only [List.setIfInBounds_toArray, List.set_cons_zero, List.set_cons_succ]
  refine takeH 2 20 ?_ rfl rfl (by kernel_rfl) (by kernel_rfl) (by kernel_rfl) (fun _ _ _ h => h) (Or.inl ⟨by kernel_rfl, ?_⟩) hS ?_; rotate_left; (intro w' hw; skip; first | (go_simp; done) | (go_simp; with_reducible rfl)); rotate_left
  try simp only [List.setIfInBounds_toArray, List.set_cons_zero, List.set_cons_succ]
  refine takeH 3 21 ?_ rfl rfl (by kernel_rfl) (by kernel_rfl) (by kernel_rfl) (fun _ _ _ h => h) (Or.inl ⟨by kernel_rfl, ?_⟩) hS ?_; rotate_left; (intro w' hw; skip; first | (go_simp; done) | (go_simp; with_reducible rfl)); rotate_left
  try simp only [List.setIfInBounds_toArray, List.set_cons_zero, List.set_cons_succ]
  refine takeH 4 22 ?_ rfl rfl (by kernel_rfl) (by kernel_rfl) (by kernel_rfl) (fun _ _ _ h => h) (Or.inl ⟨by kernel_rfl, ?_⟩) hS ?_; rotate_left; (intro w' hw; obtain ⟨z0, z1⟩ := HS1.out _ hw; first | (go_simp; done) | (go_simp; with_reducible rfl)); rotate_left
  try simp only [List.setIfInBounds_toArray, List.set_cons_zero, List.set_cons_succ]
  refine takeH 5 23 ?_ rfl rfl (by kernel_rfl) (by kernel_rfl) (by kernel_rfl) (fun _ _ _ h => h) (Or.inl ⟨by kernel_rfl, ?_⟩) hS ?_; rotate_left; (intro w' hw; skip; first | (go_simp; done) | (go_simp; with_reducible rfl)); rotate_left
  try simp only [List.setIfInBounds_toArray, List.set_cons_zero, List.set_cons_succ]
  refine takeH 6 24 ?_ rfl rfl (by kernel_rfl) (by kernel_rfl) (by kernel_rfl) (fun _ _ _ h => h) (Or.inl ⟨by kernel_rfl, ?_⟩) hS ?_; rotate_left; (intro w' hw; skip; first | (go_simp; done) | (go_simp; with_reducible rfl)); rotate_left
  try simp only [List.setIfInBounds_toArray, List.set_cons_zero, List.set_cons_succ]
  refine takeH 7 25 ?_ rfl rfl (by kernel_rfl) (by kernel_rfl) (by kernel_rfl) (fun _ _ _ h => h) (Or.inl ⟨by kernel_rfl, ?_⟩) hS ?_; rotate_left; (intro w' hw; skip; first | (go_simp; done) | (go_simp; with_reducible rfl)); rotate_left
  try simp only [List.setIfInBounds_toArray, List.set_cons_zero, List.set_cons_succ]
  refine takeH 8 26 ?_ rfl rfl (by kernel_rfl) (by kernel_rfl) (by kernel_rfl) (fun _ _ _ h => h) (Or.inl ⟨by kernel_rfl, ?_⟩) hS ?_; rotate_left; (intro w' hw; obtain ⟨z0, z1⟩ := HS1.out _ hw; first | (go_simp; done) | (go_simp; with_reducible rfl)); rotate_left
  try simp only [List.setIfInBounds_toArray, List.set_cons_zero, List.set_cons_succ]
  refine wpAnyH_ready (rs := [9]) (by kernel_rfl) (by simp) ?_; refine AllReadyH.cons rfl (fun K2 hK => ?_) AllReadyH.nil; go_simp; go_wp2_with (go_at_call 56; (with_reducible refine (J1.out _ HQ.out).mono ?_); rintro e wB ⟨rfl, hB⟩; have HB2 := Lib.hid hB; clear hB); refine hK.out _ _ ?_ (fun _ => ?_); (exact (HS2.out _ HB2.out).1); clear hK K2
  refine wpAnyH_done (by kernel_rfl) ?_ _
  clear hS HQ J1 HS1 x0 x1
  obtain ⟨_, x0, hmp⟩ := HS2.out _ HB2.out
  have HMP := Lib.hid hmp
  clear hmp
  go_upto_region 6 with (at_delete; (refine wpDelL _ rfl _ _ rfl m nz nb n rfl HMP.out (by rw [← HK.out]; rfl) (by rw [← HK.out]; exact HW.out) HNI.out ?_); intro wC hmC hcC hsz; have HDD := Lib.hid (HD.out _ wC HB2.out hmC hcC); clear hmC hcC hsz)
  obtain ⟨g1, g2, g3, g4, g5⟩ := HDD.out
  have HF := Lib.hid (HFIN.out _ g1)
  rw [← HDC.out, ← HX.out] at g2
  rw [← HX.out] at g3 g4 g5
  have y0 : wC.cell? ⟨x, 0, none⟩ = some (.int .i64 k) := by rw [cell_of_row wC _ _ _ _ _ g2]; rfl
  have y1 : wC.cell? ⟨x, 1, none⟩ = some (.int .i64 d) := by rw [cell_of_row wC _ _ _ _ _ g2]; rfl
  have y2 := g1.j.c1
  have y3 := g1.j.fr 1
  have hwr : IntKind.i64.wrap (c - d) = c - d := by rw [IntKind.wrap_i64]; omega
  have hx5 : (wC.setCell ⟨P, 1, none⟩ (.int .i64 (c - d))).heap[x]? = wC.heap[x]? := Below.heap_setCell _ _ _ _ g3
  have hX5 : (wC.setCell ⟨P, 1, none⟩ (.int .i64 (c - d))).heap[w.heap.size]? = some (itO 0 0) := (Below.heap_setCell _ _ _ _ (fun e => g1.xn (Or.inl e))).trans g1.x
  have z0 : (wC.setCell ⟨P, 1, none⟩ (.int .i64 (c - d))).cell? ⟨x, 0, none⟩ = some (.int .i64 k) := by rw [cell_of_row _ _ _ _ _ _ (hx5.trans g2)]; rfl
  have z1 : (wC.setCell ⟨P, 1, none⟩ (.int .i64 (c - d))).cell? ⟨x, 1, none⟩ = some (.int .i64 d) := by rw [cell_of_row _ _ _ _ _ _ (hx5.trans g2)]; rfl
  have z2 : (wC.setCell ⟨P, 1, none⟩ (.int .i64 (c - d))).cell? ⟨w.heap.size, 0, none⟩ = some (.int .i64 0) := by rw [cell_of_row _ _ _ _ _ _ hX5]; rfl
  have z3 : (wC.setCell ⟨P, 1, none⟩ (.int .i64 (c - d))).cell? ⟨w.heap.size, 1, none⟩ = some (.int .i64 0) := by rw [cell_of_row _ _ _ _ _ _ hX5]; rfl
  have z4 := frozen_of _ w.heap.size 0 _ _ hX5
  have z5 := frozen_of _ w.heap.size 1 _ _ hX5
  have z6 := frozen_of wC w.heap.size 0 _ _ g1.x
  have z7 := frozen_of wC w.heap.size 1 _ _ g1.x
  have HF5 := Lib.hid HF.out.drew
  clear g1 g2 g3 g4 g5 HDD HD HB2 HMP HF HFIN HS2 hx5 hX5 HW HNI
  go_region
  all_goals
    go_wp2
    try simp only [Exit.inBlock, Exit.then]
    refine bodyPost_ret (v := .tuple #[.agg #[.int .i64 k, .int .i64 d], .bool true]) ?_ rfl ?_
    · rw [results_cell_tmp rfl]; go_simp; (try rfl)
    · exact ((HF5.out.set (Nat.le_refl _) _ _).set (Nat.le_refl _) _ _).ret _
theorem dropC (B P : Nat) (l : List Ff.E) (F : Nat → Prop) (id : Int) (w : World) (h : QIs w B P l F) (hid : (Lit.int .i64 id).wf = true) (hl : l.length ≤ 1000000) :
    Calls Try.prog 41 #[.pointer (some ⟨P, 0, none⟩), .int .i64 id] w (RetQ (itemV (l.find? (fun e => e.1 == id))) B P (Ff.drop l id) F w) := by
  cases hh : Ff.has l id with
  | false =>
    have hn := Ff.has_no.1 hh
    rw [Ff.drop_no hn, show l.find? (fun e => e.1 == id) = none from List.find?_eq_none.2 (fun x hx => by simpa using hn x hx)]
    exact dropNone B P l F id w h hid hh
  | true =>
    obtain ⟨a, c, b, rfl, ha⟩ := Ff.has_yes hh
    have hd : Ff.drop (a ++ (id, c) :: b) id = a ++ b := Ff.drop_mid (e := (id, c)) h.good.nd
    have hf : (a ++ (id, c) :: b).find? (fun e => e.1 == id) = some (id, c) := by
      rw [List.find?_append, List.find?_eq_none.2 (fun x hx => by simpa using ha x hx)]
      simp
    rw [hd, hf]
    exact dropSome B P _ F id c a b w h hid hl rfl
theorem box_at {W : World} {X : Nat} {a b : Int} (hX : W.heap[X]? = some (itO a b)) (o : Obj) : (W.alloc o).cell? ⟨X, 0, none⟩ = some (.int .i64 a) ∧ (W.alloc o).cell? ⟨X, 1, none⟩ = some (.int .i64 b) ∧ (W.alloc o).frozen? ⟨X, 0, none⟩ = false ∧ (W.alloc o).frozen? ⟨X, 1, none⟩ = false := by
  have h := (Lib.alloc_old W o X (lt_block hX)).trans hX
  exact ⟨by rw [cell_of_row _ _ _ _ _ _ h]; rfl, by rw [cell_of_row _ _ _ _ _ _ h]; rfl, frozen_of _ X 0 _ _ h, frozen_of _ X 1 _ _ h⟩
set_option maxRecDepth 100000 in
set_option maxHeartbeats 1000000 in
theorem popNone (B P : Nat) (F : Nat → Prop) (w : World) (h : QIs w B P [] F) :
    Calls Try.prog 78 #[.pointer (some ⟨P, 0, none⟩)] w (RetQ (itemV none) B P [] F w) := by
  have hbx := (Below.refl w.heap.size w).alloc (Nat.le_refl _) zeroI
  have kh := (headC B P [] F _ (h.below hbx) (by simp)).mono (R' := fun e w' => e = .returned (.tuple #[.agg #[.int .i64 0, .int .i64 0], .bool false]) ∧ w'.heap[w.heap.size]? = some (itO 0 0) ∧ Hid (Below w.heap.size w w')) fun e w' hr => ⟨hr.e, (hr.b.block w.heap.size (by simp)).trans (heap_alloc_new _ _), Lib.hid (hbx.trans (hr.b.mono hbx.size))⟩
  have K := Lib.hid kh
  have H := Lib.hid h
  clear h kh hbx
  go_enter Try.func78, Try.ntmps78
  go_wp2_with (go_at_call 77; (with_reducible refine K.out.mono ?_); rintro e wA ⟨rfl, hX, hA⟩; obtain ⟨z2, z3, z4, z5⟩ := box_at hX (itO 0 0))
  try simp only [Exit.inBlock, Exit.then]
  refine bodyPost_ret (v := itemV none) ?_ rfl ?_
  · rw [results_cell_tmp rfl]; go_simp; (try rfl)
  · exact H.out.asks rfl (((hA.out.alloc hA.out.size _).setCell (Nat.le_refl _) _).setCell (Nat.le_refl _) _)
set_option maxRecDepth 100000 in
set_option maxHeartbeats 2000000 in
theorem popSome (B P : Nat) (x : Ff.E) (l : List Ff.E) (F : Nat → Prop) (w : World) (h : QIs w B P (x :: l) F) (hl : l.length ≤ 90000) :
    Calls Try.prog 78 #[.pointer (some ⟨P, 0, none⟩)] w (RetQ (itemV (some x)) B P l F w) := by
  have hbx := (Below.refl w.heap.size w).alloc (Nat.le_refl _) zeroI
  have hx := h.good.id x (by simp)
  have kh := (headSome B P x l F _ (h.below hbx) (by omega)).mono (R' := fun e w' => e = .returned (.tuple #[.agg #[.int .i64 x.1, .int .i64 x.2], .bool true]) ∧ w'.heap[w.heap.size]? = some (itO 0 0) ∧ Hid (Below w.heap.size w w')) fun e w' hr => ⟨hr.e, (hr.b.block w.heap.size (by simp)).trans (heap_alloc_new _ _), Lib.hid (hbx.trans (hr.b.mono hbx.size))⟩
  have kd : ∀ wA, Below w.heap.size w wA → wA.heap[w.heap.size]? = some (itO 0 0) → Calls Try.prog 41 #[.pointer (some ⟨P, 0, none⟩), .int .i64 x.1] (wA.alloc (itO x.1 x.2)) fun e wC => e = .returned (.tuple #[.agg #[.int .i64 x.1, .int .i64 x.2], .bool true]) ∧ wC.heap[w.heap.size]? = some (itO 0 0) ∧ Hid (QX w B P l F w.heap.size wC) := fun wA hb hX => by
    have hb2 := hb.alloc hb.size (itO x.1 x.2)
    have hXl := lt_block hX
    refine (dropSome B P (x :: l) F x.1 x.2 [] l _ (h.below hb2) (wf_i64' (by omega) hx.2) (by simp; omega) rfl).mono fun e wC hr => ?_
    obtain ⟨F', g1, g2⟩ := hr.s
    have hXF : ¬ F w.heap.size := fun hf => by have := (h.lt _ hf).2; omega
    have hz : (wA.alloc (itO x.1 x.2)).heap.size = wA.heap.size + 1 := by simp
    refine ⟨hr.r, hr.c.keep ((Lib.alloc_old _ _ _ hXl).trans hX) hXF, Lib.hid ⟨⟨F', g1, fun k hk => ?_, fun hf => ?_⟩, (Chg.of_below hb2).trans hr.c (fun k hk => Or.inl hk)⟩⟩
    · rcases g2 k hk with e | e
      · exact Or.inl e
      · right; omega
    · rcases g2 _ hf with e | e
      · exact hXF e
      · omega
  have K := Lib.hid kh
  have KD := Lib.hid kd
  obtain ⟨x1, x2⟩ := x
  have he1 : itemV (some (x1, x2)) = .tuple #[.agg #[.int .i64 x1, .int .i64 x2], .bool true] := rfl
  rw [he1]
  simp only at K KD
  clear h kh kd hbx hx he1
  go_enter Try.func78, Try.ntmps78
  go_wp2_with (first | (go_at_call 77; (with_reducible refine K.out.mono ?_); rintro e wA ⟨rfl, hX, hA⟩; obtain ⟨z2, z3, z4, z5⟩ := box_at hX (itO x1 x2)) | (go_at_call 41; (with_reducible refine (KD.out wA hA.out hX).mono ?_); rintro e wC ⟨rfl, hX2, hC⟩; have y0 := frozen_of _ w.heap.size 0 _ _ hX2; have y1 := frozen_of _ w.heap.size 1 _ _ hX2; have y2 : wC.cell? ⟨w.heap.size, 0, none⟩ = some (.int .i64 0) := (by rw [cell_of_row _ _ _ _ _ _ hX2]; rfl); have y3 : wC.cell? ⟨w.heap.size, 1, none⟩ = some (.int .i64 0) := (by rw [cell_of_row _ _ _ _ _ _ hX2]; rfl)))
  try simp only [Exit.inBlock, Exit.then]
  refine bodyPost_ret (v := .tuple #[.agg #[.int .i64 x1, .int .i64 x2], .bool true]) ?_ rfl ?_
  · rw [results_cell_tmp rfl]; go_simp; (try rfl)
  · exact ((hC.out.set (Nat.le_refl _) _ _).set (Nat.le_refl _) _ _).ret _
theorem popC (B P : Nat) (l : List Ff.E) (F : Nat → Prop) (w : World) (h : QIs w B P l F) (hl : l.length ≤ 90000) :
    Calls Try.prog 78 #[.pointer (some ⟨P, 0, none⟩)] w (RetQ (itemV l.head?) B P l.tail F w) := by
  cases l with
  | nil => exact popNone B P F w h
  | cons x l => exact popSome B P x l F w h (by simp at hl; omega)
end Go.Proofs.Ytgeoebodlcbebaa

namespace Go.Proofs.Ytgeoebodlcbebaa
open Go.RowKit
set_option linter.unusedVariables false

theorem nilPush (id co : Int) (w : World) : Calls Try.prog 36 #[.pointer none, .agg #[.int .i64 id, .int .i64 co]] w (Ret (.int .i64 19) w) := by
  go_enter Try.func36, Try.ntmps36
  go_wp2
  go_ret
  exact ⟨rfl, (Below.refl _ _).alloc (Nat.le_refl _) _⟩
theorem nilHas (id : Int) (w : World) : Calls Try.prog 55 #[.pointer none, .int .i64 id] w (Same (.bool false) w) := by
  go_enter Try.func55, Try.ntmps55
  go_wp2
  go_ret
  exact ⟨rfl, rfl⟩
theorem nilLen (w : World) : Calls Try.prog 33 #[.pointer none] w (Same (.int .i64 0) w) := by
  go_enter Try.func33, Try.ntmps33
  go_wp2
  go_ret
  exact ⟨rfl, rfl⟩
theorem nilAll (w : World) : Calls Try.prog 45 #[.pointer none] w (Same (.slice none 0 0) w) := by
  go_enter Try.func45, Try.ntmps45
  go_wp2
  go_ret
  exact ⟨rfl, rfl⟩
theorem nilHead (w : World) : Calls Try.prog 77 #[.pointer none] w (Ret (itemV none) w) := by
  have K := Lib.hid (fun W => nilLen W)
  go_enter Try.func77, Try.ntmps77
  go_wp2_with (go_at_call 33; (with_reducible refine (K.out _).mono ?_); rintro e wA ⟨rfl, rfl⟩)
  try simp only [Exit.inBlock, Exit.then]
  refine bodyPost_ret (v := itemV none) ?_ rfl ?_
  · rw [results_cell_tmp rfl]; go_simp; (try rfl)
  · exact ⟨rfl, (Below.refl _ _).alloc (Nat.le_refl _) _⟩
theorem nilDrop (id : Int) (w : World) : Calls Try.prog 41 #[.pointer none, .int .i64 id] w (Ret (itemV none) w) := by
  have K := Lib.hid (fun W => nilHas id W)
  go_enter Try.func41, Try.ntmps41
  go_wp2_with (go_at_call 55; (with_reducible refine (K.out _).mono ?_); rintro e wA ⟨rfl, rfl⟩)
  try simp only [Exit.inBlock, Exit.then]
  refine bodyPost_ret (v := itemV none) ?_ rfl ?_
  · rw [results_cell_tmp rfl]; go_simp; (try rfl)
  · exact ⟨rfl, (Below.refl _ _).alloc (Nat.le_refl _) _⟩
theorem nilPop (w : World) : Calls Try.prog 78 #[.pointer none] w (Ret (itemV none) w) := by
  have hbx := (Below.refl w.heap.size w).alloc (Nat.le_refl _) zeroI
  have kh := (nilHead (w.alloc zeroI)).mono (R' := fun e w' => e = .returned (.tuple #[.agg #[.int .i64 0, .int .i64 0], .bool false]) ∧ w'.heap[w.heap.size]? = some (itO 0 0) ∧ Hid (Below w.heap.size w w')) fun e w' hr => ⟨hr.e, (hr.b.block w.heap.size (by simp)).trans (heap_alloc_new _ _), Lib.hid (hbx.trans (hr.b.mono hbx.size))⟩
  have K := Lib.hid kh
  clear kh hbx
  go_enter Try.func78, Try.ntmps78
  go_wp2_with (go_at_call 77; (with_reducible refine K.out.mono ?_); rintro e wA ⟨rfl, hX, hA⟩; obtain ⟨z2, z3, z4, z5⟩ := box_at hX (itO 0 0))
  try simp only [Exit.inBlock, Exit.then]
  refine bodyPost_ret (v := itemV none) ?_ rfl ?_
  · rw [results_cell_tmp rfl]; go_simp; (try rfl)
  · exact ⟨rfl, ((hA.out.alloc hA.out.size _).setCell (Nat.le_refl _) _).setCell (Nat.le_refl _) _⟩
end Go.Proofs.Ytgeoebodlcbebaa
