/-
  A map of numbers to pointers as a list of nodes, in no order; its operations.
-/
import Derived.Test.YtgeoebodlcbebaaFifoMath
import Derived.Test.YtgeoebodlcbebaaFoot
import Derived.Maps.OwnSet
import Derived.Maps.OwnOps
import Derived.Maps.Views
import Derived.Maps.Ext
namespace Ff
/-- a link's block, its item -/
structure Nd where
  b : Nat
  id : Int
  c : Int
def Nd.kv (n : Nd) : E := (n.id, n.c)
/-- the link of a number -/
def at_ : List Nd → Int → Option Nat
  | [], _ => none
  | n :: r, k => if n.id = k then some n.b else at_ r k
theorem at_none {ns : List Nd} {k : Int} : at_ ns k = none ↔ ∀ n ∈ ns, n.id ≠ k := by
  induction ns with
  | nil => simp [at_]
  | cons n r ih =>
    unfold at_
    by_cases h : n.id = k
    · simp [h]
    · simp [h, ih]
theorem at_mem {ns : List Nd} (hg : (ns.map (·.id)).Nodup) {n : Nd} (hn : n ∈ ns) : at_ ns n.id = some n.b := by
  induction ns with
  | nil => cases hn
  | cons m r ih =>
    rw [List.map_cons, List.nodup_cons] at hg
    unfold at_
    rcases List.mem_cons.1 hn with h | h
    · subst h; simp
    · rw [if_neg (fun e => hg.1 (by rw [e]; exact List.mem_map.2 ⟨n, h, rfl⟩))]
      exact ih hg.2 h
theorem at_of {ns : List Nd} {k : Int} {p : Nat} (h : at_ ns k = some p) : ∃ n ∈ ns, n.id = k ∧ n.b = p := by
  induction ns with
  | nil => cases h
  | cons m r ih =>
    unfold at_ at h
    by_cases h1 : m.id = k
    · rw [if_pos h1] at h
      cases h
      exact ⟨m, by simp, h1, rfl⟩
    · rw [if_neg h1] at h
      obtain ⟨n, h2, h3⟩ := ih h
      exact ⟨n, by simp [h2], h3⟩
end Ff
namespace Go.Proofs.Ytgeoebodlcbebaa
open Go.RowKit
open Ff (Nd)
set_option linter.unusedVariables false

theorem intKeyed : Maps.Keyed Try.prog 3 := Maps.int_keyed Try.underlying3
abbrev keyL (id : Int) : Lit := .int .i64 id
theorem keyL_inj {a b : Int} (h : keyL a = keyL b) : a = b := by cases h; rfl
theorem keyL_mk (id : Int) (h : (Lit.int .i64 id).wf = true) : keyOf Try.prog 3 (.int .i64 id) = some (keyL id) := Maps.keyOf_int_mk Try.underlying3 h
/-- what a pointer reads as -/
def ptrD : Option Nat → DataW Unit
  | none => .nil
  | some b => .lit (.int .i64 (b : Int))
def ptrV : Option Nat → Value
  | none => .pointer none
  | some b => .pointer (some ⟨b, 0, none⟩)
def ptrR (v : Value) : Option (DataW Unit × List MemPlace) :=
  match v with
  | .pointer none => some (.nil, [])
  | .pointer (some ⟨b, 0, none⟩) => some (.lit (.int .i64 (b : Int)), [])
  | _ => none
theorem ptrR_mk (p : Option Nat) : ptrR (ptrV p) = some (ptrD p, []) := by cases p <;> rfl
theorem ptrR_inv {v : Value} {d : DataW Unit} {ps : List MemPlace} (h : ptrR v = some (d, ps)) : ∃ p, v = ptrV p ∧ d = ptrD p := by
  unfold ptrR at h
  split at h
  · cases h; exact ⟨none, rfl, rfl⟩
  · cases h; exact ⟨some _, rfl, rfl⟩
  · cases h
theorem ptrD_inj {p q : Option Nat} (h : ptrD p = ptrD q) : p = q := by
  cases p <;> cases q <;> simp [ptrD] at h ⊢
  exact Int.ofNat.inj h
/-- a datum holds just these links -/
structure HoldsL (D : DataW Unit) (l : List Nd) : Prop where
  tidy : Maps.Tidy D
  size : Maps.size D = l.length
  back : ∀ kl, Maps.has D kl = true → ∃ n ∈ l, kl = keyL n.id
  has : ∀ n ∈ l, Maps.has D (keyL n.id) = true
  at_ : ∀ n ∈ l, ∀ z, D.atKey (keyL n.id) z = ptrD (some n.b)
theorem isKeyL (k : Int) : WideAt.IsKeyLit (keyL k) := trivial
theorem HoldsL.nil : HoldsL (.map []) [] := ⟨Maps.tidy_empty, rfl, fun _ h => (by cases h), fun _ h => (by cases h), fun _ h => (by cases h)⟩
theorem HoldsL.perm {D : DataW Unit} {l m : List Nd} (h : HoldsL D l) (hp : l.Perm m) : HoldsL D m :=
  ⟨h.tidy, h.size.trans hp.length_eq, fun kl hk => by obtain ⟨e, he, r⟩ := h.back kl hk; exact ⟨e, hp.mem_iff.1 he, r⟩, fun e he => h.has e (hp.mem_iff.2 he), fun e he => h.at_ e (hp.mem_iff.2 he)⟩
theorem HoldsL.at_eq {D : DataW Unit} {l : List Nd} (h : HoldsL D l) (hg : (l.map (·.id)).Nodup) (k : Int) : D.atKey (keyL k) (ptrD none) = ptrD (Ff.at_ l k) := by
  cases hf : Ff.at_ l k with
  | none =>
    have hh : Maps.has D (keyL k) = false := by
      cases hc : Maps.has D (keyL k) with
      | false => rfl
      | true =>
        obtain ⟨n, hn, e⟩ := h.back _ hc
        exact absurd (keyL_inj e).symm (Ff.at_none.1 hf n hn)
    exact Maps.atKey_of_not_has hh _
  | some p =>
    obtain ⟨n, hn, rfl, rfl⟩ := Ff.at_of hf
    exact h.at_ n hn _
theorem HoldsL.has_eq {D : DataW Unit} {l : List Nd} (h : HoldsL D l) (k : Int) : Maps.has D (keyL k) = (Ff.at_ l k).isSome := by
  cases hf : Ff.at_ l k with
  | none =>
    cases hc : Maps.has D (keyL k) with
    | false => rfl
    | true =>
      obtain ⟨n, hn, e⟩ := h.back _ hc
      exact absurd (keyL_inj e).symm (Ff.at_none.1 hf n hn)
  | some p =>
    obtain ⟨n, hn, rfl, rfl⟩ := Ff.at_of hf
    exact h.has n hn
theorem HoldsL.put {D : DataW Unit} {l : List Nd} (h : HoldsL D l) (n : Nd) (hn : ∀ m ∈ l, m.id ≠ n.id) : HoldsL (D.put (keyL n.id) (ptrD (some n.b))) (n :: l) := by
  have ho : ∀ m ∈ l, keyL m.id ≠ keyL n.id := fun m hm hk => hn m hm (keyL_inj hk)
  have hh : Maps.has D (keyL n.id) = false := by
    cases hc : Maps.has D (keyL n.id) with
    | false => rfl
    | true =>
      obtain ⟨m, hm, e⟩ := h.back _ hc
      exact absurd e.symm (ho m hm)
  refine ⟨h.tidy.put (isKeyL n.id) _, ?_, fun kl hk => ?_, fun m hm => ?_, fun m hm z => ?_⟩
  · rw [Maps.size_put h.tidy, hh, h.size]; simp
  · by_cases e : kl = keyL n.id
    · exact ⟨n, by simp, e⟩
    · rw [Maps.has_put_other e] at hk
      obtain ⟨x, hx, r⟩ := h.back kl hk
      exact ⟨x, by simp [hx], r⟩
  · rcases List.mem_cons.1 hm with rfl | hm
    · exact Maps.has_put_same h.tidy.isMap (isKeyL _) _
    · rw [Maps.has_put_other (ho m hm)]; exact h.has m hm
  · rcases List.mem_cons.1 hm with rfl | hm
    · exact Maps.atKey_put_same h.tidy.isMap (isKeyL _) _ _
    · rw [Maps.atKey_put_other (ho m hm)]; exact h.at_ m hm z
theorem HoldsL.del {D : DataW Unit} {a b : List Nd} {n : Nd} (h : HoldsL D (a ++ n :: b)) (hg : ((a ++ n :: b).map (·.id)).Nodup) : HoldsL (D.del (keyL n.id)) (a ++ b) := by
  have hsp : (∀ m ∈ a, m.id ≠ n.id) ∧ ∀ m ∈ b, m.id ≠ n.id := by
    rw [List.map_append, List.map_cons, List.nodup_append] at hg
    obtain ⟨_, h2, h3⟩ := hg
    rw [List.nodup_cons] at h2
    exact ⟨fun x hx he => h3 x.id (List.mem_map.2 ⟨x, hx, rfl⟩) n.id List.mem_cons_self he, fun x hx he => h2.1 (List.mem_map.2 ⟨x, hx, he⟩)⟩
  have ho : ∀ m ∈ a ++ b, keyL m.id ≠ keyL n.id := fun m hm hk => by
    rcases List.mem_append.1 hm with h1 | h1
    · exact hsp.1 m h1 (keyL_inj hk)
    · exact hsp.2 m h1 (keyL_inj hk)
  have hin : ∀ m ∈ a ++ b, m ∈ a ++ n :: b := fun m hm => by
    rcases List.mem_append.1 hm with h1 | h1 <;> simp [h1]
  refine ⟨h.tidy.del _, ?_, fun kl hk => ?_, fun m hm => ?_, fun m hm z => ?_⟩
  · have h1 := Maps.size_del h.tidy (k := keyL n.id)
    rw [h.has n (by simp), h.size] at h1
    simp at h1 ⊢
    omega
  · by_cases e : kl = keyL n.id
    · rw [e, Maps.has_del_same] at hk; cases hk
    · rw [Maps.has_del_other e] at hk
      obtain ⟨x, hx, r⟩ := h.back kl hk
      refine ⟨x, ?_, r⟩
      rcases List.mem_append.1 hx with h1 | h1
      · simp [h1]
      · rcases List.mem_cons.1 h1 with rfl | h1
        · exact absurd r e
        · simp [h1]
  · rw [Maps.has_del_other (ho m hm)]; exact h.has m (hin m hm)
  · rw [Maps.atKey_del_other (ho m hm)]; exact h.at_ m (hin m hm) z

/-- block b is the map of these links -/
def MapL (w : World) (b : Nat) (l : List Nd) : Prop := ∃ D, w.ownsMap Try.prog 3 ptrR b l.length D ∧ HoldsL D l
theorem MapL.lt {w : World} {b : Nat} {l : List Nd} (h : MapL w b l) : b < w.heap.size := by obtain ⟨D, h, _⟩ := h; exact h.lt
theorem MapL.keep {w w' : World} {b : Nat} {l : List Nd} (h : MapL w b l) (hk : w'.heap[b]? = w.heap[b]?) : MapL w' b l := by
  obtain ⟨D, ⟨es, clock, hm, r⟩, hD⟩ := h
  exact ⟨D, ⟨es, clock, hk.trans hm, r⟩, hD⟩
theorem MapL.perm {w : World} {b : Nat} {l m : List Nd} (h : MapL w b l) (hp : l.Perm m) : MapL w b m := by
  obtain ⟨D, h1, hD⟩ := h
  exact ⟨D, hp.length_eq ▸ h1, hD.perm hp⟩
theorem MapL.made (w : World) : MapL (w.alloc (.map #[] 0)) w.heap.size [] := ⟨_, World.ownsMap_made w _ _ _, HoldsL.nil⟩
theorem MapL.cell {w : World} {b : Nat} {l : List Nd} (h : MapL w b l) : ∃ es clock, w.heap[b]? = some (.map es clock) := by obtain ⟨D, ⟨es, clock, hb, _⟩, _⟩ := h; exact ⟨es, clock, hb⟩
theorem tightL {w : World} {b n : Nat} {D : DataW Unit} (h : w.ownsMap Try.prog 3 ptrR b n D) : w.ownsMap Try.prog 3 ptrR b (Maps.size D) D := by
  obtain ⟨es, clock, hb, F, hs, rfl⟩ := h
  exact ⟨es, clock, hb, F, by simp [Maps.size, length_sorted], rfl⟩

section
variable (w : World) {ops : Array Oper} {rest : List Oper} {o : Oper} {a : Act} {Q : Exit → Act → World → Prop}
/-- 'm[k]' -/
theorem wpLookL (hg : o.guard = none) (m x : Operand) (hop : o.op = Op.lookup 105 m x false)
    (b : Nat) (l : List Nd) (hgd : (l.map (·.id)).Nodup) (hm : a.eval m = .map (some b)) (hM : MapL w b l) (k : Int) (hx : a.eval x = .int .i64 k) (hk : (Lit.int .i64 k).wf = true)
    (hK : wpList Try.prog ops Q rest (a.put o.dst (ptrV (Ff.at_ l k))) w) :
    wpList Try.prog ops Q (o :: rest) a w := by
  obtain ⟨D, hD, hH⟩ := hM
  refine wpList_plain hg fun K' hK' => ?_
  obtain ⟨v, ps, hrun, hv⟩ := hD.lookup intKeyed Try.underlying105 (Try.zeroValue112 w) (ptrR_mk none) (keyL_mk k hk)
  rw [hH.at_eq hgd] at hv
  obtain ⟨p, rfl, hp⟩ := ptrR_inv hv
  rw [← ptrD_inj hp] at hrun
  unfold Oper.wp
  simp [execOp, hop, hm, hx, hrun, Result.andThen]
  exact hK' _ _ hK
/-- 'm[k] = p', k not there -/
theorem wpPutL (hg : o.guard = none) (m x v : Operand) (hop : o.op = Op.mapUpdate 105 m x v)
    (b : Nat) (l : List Nd) (hm : a.eval m = .map (some b)) (hM : MapL w b l) (n : Nd) (hx : a.eval x = .int .i64 n.id) (hv : a.eval v = .pointer (some ⟨n.b, 0, none⟩)) (hk : (Lit.int .i64 n.id).wf = true)
    (hl : l.length ≤ 1000000) (hn : ∀ m ∈ l, m.id ≠ n.id)
    (hK : ∀ w', MapL w' b (n :: l) → Chg (fun k => k = b) w w' → w'.heap.size = w.heap.size → wpList Try.prog ops Q rest (a.put o.dst undef) w') :
    wpList Try.prog ops Q (o :: rest) a w := by
  obtain ⟨D, hD, hH⟩ := hM
  refine wpList_mapUpdate_in _ hg m x v _ hop 3 112 intKeyed Try.underlying105 ptrR b _ _ hm hD (by unfold maxLen; omega) _ _ _ hx hv (keyL_mk n.id hk) (ptrD (some n.b)) [] (ptrR_mk (some n.b)) ?_
  intro w' h1 h2
  have hg2 := h2.grown
  obtain ⟨es, clock, es', clock', hb, rfl⟩ := h2
  refine hK _ ⟨_, by simpa using h1, hH.put n hn⟩ ⟨hg2.os, hg2.tape, hg2.output, hg2.size, fun k hk hne => hg2.block k hk (fun e => hne (by cases e; rfl))⟩ (by simp [ChangeMaps.setBlock])
/-- 'delete(m, k)', k there -/
theorem wpDelL (hg : o.guard = none) (m x : Operand) (hop : o.op = Op.call { callee := Callee.builtin Builtin.delete, args := #[m, x], argTypes := #[105, 3] })
    (b : Nat) (l1 l2 : List Nd) (n : Nd) (hm : a.eval m = .map (some b)) (hM : MapL w b (l1 ++ n :: l2)) (hx : a.eval x = .int .i64 n.id) (hk : (Lit.int .i64 n.id).wf = true) (hgd : ((l1 ++ n :: l2).map (·.id)).Nodup)
    (hK : ∀ w', MapL w' b (l1 ++ l2) → Chg (fun k => k = b) w w' → w'.heap.size = w.heap.size → wpList Try.prog ops Q rest (a.put o.dst (.tuple #[])) w') :
    wpList Try.prog ops Q (o :: rest) a w := by
  obtain ⟨D, hD, hH⟩ := hM
  refine wpList_delete_own _ hg m x _ _ hop 112 intKeyed Try.underlying105 ptrR b _ _ hm hD _ _ hx (keyL_mk n.id hk) ?_
  intro w' h1 h2
  have hg2 := h2.grown
  obtain ⟨es, clock, es', clock', hb, rfl⟩ := h2
  have hH2 := hH.del hgd
  refine hK _ ⟨_, hH2.size ▸ tightL h1, hH2⟩ ⟨hg2.os, hg2.tape, hg2.output, hg2.size, fun k hk hne => hg2.block k hk (fun e => hne (by cases e; rfl))⟩ (by simp [ChangeMaps.setBlock])
/-- 'len(m)' -/
theorem wpLenL (hg : o.guard = none) (m : Operand) (hop : o.op = Op.call { callee := Callee.builtin Builtin.len, args := #[m], argTypes := #[105] })
    (b : Nat) (l : List Nd) (hm : a.eval m = .map (some b)) (hM : MapL w b l)
    (hK : wpList Try.prog ops Q rest (a.put o.dst (.int .i64 (l.length : Int))) w) :
    wpList Try.prog ops Q (o :: rest) a w := by
  obtain ⟨D, hD, hH⟩ := hM
  refine wpList_len_own _ hg m _ hop 3 112 Try.underlying105 ptrR b _ _ hm hD ?_
  rw [hH.size]
  exact hK
end
/-- 'm[k]' as a run -/
theorem run_lookL {w : World} {b : Nat} {l : List Nd} (hgd : (l.map (·.id)).Nodup) (hM : MapL w b l) (k : Int) (hk : (Lit.int .i64 k).wf = true) :
    (Instr.lookup 105 (.map (some b)) (.int .i64 k) false).run Try.prog w = .ok (ptrV (Ff.at_ l k)) w := by
  obtain ⟨D, hD, hH⟩ := hM
  obtain ⟨v, ps, hrun, hv⟩ := hD.lookup intKeyed Try.underlying105 (Try.zeroValue112 w) (ptrR_mk none) (keyL_mk k hk)
  rw [hH.at_eq hgd] at hv
  obtain ⟨p, rfl, hp⟩ := ptrR_inv hv
  rw [← ptrD_inj hp] at hrun
  exact hrun
/-- '_, there := m[k]' as a run -/
theorem run_lookOk {w : World} {b : Nat} {l : List Nd} (hM : MapL w b l) (k : Int) (hk : (Lit.int .i64 k).wf = true) :
    ∃ v, (Instr.lookup 105 (.map (some b)) (.int .i64 k) true).run Try.prog w = .ok (.tuple #[v, .bool (Ff.at_ l k).isSome]) w := by
  obtain ⟨D, hD, hH⟩ := hM
  obtain ⟨v, ps, hrun, hv⟩ := hD.look_ok intKeyed Try.underlying105 (Try.zeroValue112 w) (ptrR_mk none) (keyL_mk k hk)
  rw [hH.has_eq] at hrun
  exact ⟨v, hrun⟩
/-- 'm[k] = p' as a run, k not there -/
theorem run_putL {w : World} {b : Nat} {l : List Nd} (hM : MapL w b l) (n : Nd) (hk : (Lit.int .i64 n.id).wf = true) (hl : l.length ≤ 1000001) (hn : ∀ m ∈ l, m.id ≠ n.id) :
    ∃ w', (Instr.mapUpdate 105 (.map (some b)) (.int .i64 n.id) (.pointer (some ⟨n.b, 0, none⟩))).run Try.prog w = .ok () w' ∧ MapL w' b (n :: l) ∧ Chg (fun k => k = b) w w' ∧ w'.heap.size = w.heap.size := by
  obtain ⟨D, hD, hH⟩ := hM
  obtain ⟨w', hrun, h1, h2⟩ := hD.store intKeyed Try.underlying105 (show l.length < maxLen by unfold maxLen; omega) (keyL_mk n.id hk) (ptrR_mk (some n.b))
  have hg2 := h2.grown
  have hsz : w'.heap.size = w.heap.size := by obtain ⟨es, clock, es', clock', hb, rfl⟩ := h2; simp [ChangeMaps.setBlock]
  exact ⟨w', hrun, ⟨_, by simpa using h1, hH.put n hn⟩, ⟨hg2.os, hg2.tape, hg2.output, hg2.size, fun k hk hne => hg2.block k hk (fun e => hne (by cases e; rfl))⟩, hsz⟩
end Go.Proofs.Ytgeoebodlcbebaa
