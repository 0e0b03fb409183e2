/-
  A map of strings to pointers as a list of nodes, in no order; its operations.
-/
import Derived.Test.YtmdpfinadffcaaaLhMath
import Derived.Test.YtmdpfinadffcaaaFoot
import Derived.Maps.OwnSet
import Derived.Maps.OwnOps
import Derived.Maps.Views
import Derived.Maps.Ext
import Derived.StringKeys
namespace Lr
/-- a link's block, its entry's block, its key, its value -/
structure Nd where
  b : Nat
  e : Nat
  k : ByteArray
  v : V
def Nd.kv (n : Nd) : E := (n.k, n.v)
def kvs (ns : List Nd) : List E := ns.map Nd.kv
/-- the link of a key -/
def at_ : List Nd → ByteArray → Option Nat
  | [], _ => none
  | n :: r, k => if n.k = k then some n.b else at_ r k
theorem kvs_append (a b : List Nd) : kvs (a ++ b) = kvs a ++ kvs b := by simp [kvs]
theorem at_none {ns : List Nd} {k : ByteArray} : at_ ns k = none ↔ find (kvs ns) k = none := by
  induction ns with
  | nil => simp [at_, kvs, find]
  | cons n r ih =>
    unfold at_ kvs
    rw [List.map_cons, find]
    by_cases h : n.k = k
    · simp [h, Nd.kv]
    · rw [if_neg h, if_neg (show ¬ (Nd.kv n).1 = k from h)]; exact ih
theorem find_node {ns : List Nd} {k : ByteArray} {v : V} (h : find (kvs ns) k = some v) : ∃ a n b, ns = a ++ n :: b ∧ n.k = k ∧ n.v = v ∧ at_ ns k = some n.b := by
  induction ns with
  | nil => cases h
  | cons m r ih =>
    unfold kvs at h
    rw [List.map_cons, find] at h
    by_cases h1 : m.k = k
    · rw [if_pos (show (Nd.kv m).1 = k from h1)] at h
      cases h
      exact ⟨[], m, r, rfl, h1, rfl, by unfold at_; rw [if_pos h1]⟩
    · rw [if_neg (show ¬ (Nd.kv m).1 = k from h1)] at h
      obtain ⟨a, n, b, h2, h3, h4, h5⟩ := ih h
      exact ⟨m :: a, n, b, by rw [h2]; rfl, h3, h4, by unfold at_; rw [if_neg h1]; exact h5⟩
theorem at_mem {ns : List Nd} (hg : Good (kvs ns)) {n : Nd} (hn : n ∈ ns) : at_ ns n.k = some n.b := by
  induction ns with
  | nil => cases hn
  | cons m r ih =>
    unfold at_
    have hg2 : Good (kvs ([] ++ m :: r)) := hg
    have hsp := (show Good ([] ++ m.kv :: kvs r) from hg2).split.2
    rcases List.mem_cons.1 hn with h | h
    · subst h; simp
    · rw [if_neg (fun e => hsp n.kv (List.mem_map.2 ⟨n, h, rfl⟩) e.symm)]
      exact ih (hg.sub (by simp [kvs])) h
end Lr
namespace Go.Proofs.Ytmdpfinadffcaaa
open Go.RowKit
open Lr (Nd)
set_option linter.unusedVariables false

theorem bl_injS {a b : ByteArray} (h : bl a = bl b) : a = b := by
  have := congrArg (fun l : List UInt8 => (⟨l.toArray⟩ : ByteArray)) h
  exact ByteArray.ext (by simpa [bl] using this)
theorem keyedS : Maps.Keyed Try.prog 9 := Maps.string_keyed Try.underlying9
abbrev keyS (k : ByteArray) : Lit := .string (bl k)
theorem keyS_inj {a b : ByteArray} (h : keyS a = keyS b) : a = b := bl_injS (by simpa using h)
theorem keyS_mk (s : ByteArray) (h : s.size ≤ 9223372036854775807) : keyOf Try.prog 9 (.string s) = some (keyS s) := WideMaps.keyOf_string_mk (P := Try.prog) Try.underlying9 h
/-- what a pointer reads as -/
def ptrD : Option Nat → DataW Unit
  | none => .nil
  | some b => .lit (.int .i64 (b : Int))
def ptrV : Option Nat → Value
  | none => .pointer none
  | some b => .pointer (some ⟨b, 0, none⟩)
def ptrR (v : Value) : Option (DataW Unit × List MemPlace) :=
  match v with
  | .pointer none => some (.nil, [])
  | .pointer (some ⟨b, 0, none⟩) => some (.lit (.int .i64 (b : Int)), [])
  | _ => none
theorem ptrR_mk (p : Option Nat) : ptrR (ptrV p) = some (ptrD p, []) := by cases p <;> rfl
theorem ptrR_inv {v : Value} {d : DataW Unit} {ps : List MemPlace} (h : ptrR v = some (d, ps)) : ∃ p, v = ptrV p ∧ d = ptrD p := by
  unfold ptrR at h
  split at h
  · cases h; exact ⟨none, rfl, rfl⟩
  · cases h; exact ⟨some _, rfl, rfl⟩
  · cases h
theorem ptrD_inj {p q : Option Nat} (h : ptrD p = ptrD q) : p = q := by
  cases p <;> cases q <;> simp [ptrD] at h ⊢
  exact Int.ofNat.inj h
/-- a datum holds just these links -/
structure HoldsL (D : DataW Unit) (l : List Nd) : Prop where
  tidy : Maps.Tidy D
  size : Maps.size D = l.length
  back : ∀ kl, Maps.has D kl = true → ∃ n ∈ l, kl = keyS n.k
  has : ∀ n ∈ l, Maps.has D (keyS n.k) = true
  at_ : ∀ n ∈ l, ∀ z, D.atKey (keyS n.k) z = ptrD (some n.b)
theorem isKeyS (k : ByteArray) : WideAt.IsKeyLit (keyS k) := trivial
theorem HoldsL.nil : HoldsL (.map []) [] := ⟨Maps.tidy_empty, rfl, fun _ h => (by cases h), fun _ h => (by cases h), fun _ h => (by cases h)⟩
theorem HoldsL.perm {D : DataW Unit} {l m : List Nd} (h : HoldsL D l) (hp : l.Perm m) : HoldsL D m :=
  ⟨h.tidy, h.size.trans hp.length_eq, fun kl hk => by obtain ⟨e, he, r⟩ := h.back kl hk; exact ⟨e, hp.mem_iff.1 he, r⟩, fun e he => h.has e (hp.mem_iff.2 he), fun e he => h.at_ e (hp.mem_iff.2 he)⟩
/-- its keys and links alone matter -/
theorem HoldsL.same {D : DataW Unit} {l m : List Nd} (h : HoldsL D l) (hm : m.map (fun n => (n.k, n.b)) = l.map (fun n => (n.k, n.b))) : HoldsL D m := by
  have hl : m.length = l.length := by simpa using congrArg List.length hm
  have hto : ∀ n ∈ m, ∃ n' ∈ l, n'.k = n.k ∧ n'.b = n.b := fun n hn => by
    have : (n.k, n.b) ∈ l.map (fun n => (n.k, n.b)) := by rw [← hm]; exact List.mem_map.2 ⟨n, hn, rfl⟩
    obtain ⟨n', h1, h2⟩ := List.mem_map.1 this
    simp at h2
    exact ⟨n', h1, h2.1, h2.2⟩
  have hfrom : ∀ n ∈ l, ∃ n' ∈ m, n'.k = n.k := fun n hn => by
    have : (n.k, n.b) ∈ m.map (fun n => (n.k, n.b)) := by rw [hm]; exact List.mem_map.2 ⟨n, hn, rfl⟩
    obtain ⟨n', h1, h2⟩ := List.mem_map.1 this
    simp at h2
    exact ⟨n', h1, h2.1⟩
  refine ⟨h.tidy, by rw [h.size, hl], fun kl hk => ?_, fun n hn => ?_, fun n hn z => ?_⟩
  · obtain ⟨n, hn, e⟩ := h.back kl hk
    obtain ⟨n', h1, h2⟩ := hfrom n hn
    exact ⟨n', h1, by rw [e, h2]⟩
  · obtain ⟨n', h1, h2, _⟩ := hto n hn
    rw [← h2]; exact h.has n' h1
  · obtain ⟨n', h1, h2, h3⟩ := hto n hn
    rw [← h2, ← h3]; exact h.at_ n' h1 z
theorem HoldsL.at_eq {D : DataW Unit} {l : List Nd} (h : HoldsL D l) (hg : Lr.Good (Lr.kvs l)) (k : ByteArray) : D.atKey (keyS k) (ptrD none) = ptrD (Lr.at_ l k) := by
  cases hf : Lr.find (Lr.kvs l) k with
  | none =>
    rw [Lr.at_none.2 hf]
    have hh : Maps.has D (keyS k) = false := by
      cases hc : Maps.has D (keyS k) with
      | false => rfl
      | true =>
        obtain ⟨n, hn, e⟩ := h.back _ hc
        exact absurd (keyS_inj e).symm (Lr.find_none.1 hf n.kv (List.mem_map.2 ⟨n, hn, rfl⟩))
    exact Maps.atKey_of_not_has hh _
  | some v =>
    obtain ⟨a, n, b, rfl, rfl, _, h4⟩ := Lr.find_node hf
    rw [h4]
    exact h.at_ n (by simp) _
theorem HoldsL.put {D : DataW Unit} {l : List Nd} (h : HoldsL D l) (n : Nd) (hn : Lr.find (Lr.kvs l) n.k = none) : HoldsL (D.put (keyS n.k) (ptrD (some n.b))) (n :: l) := by
  have ho : ∀ m ∈ l, keyS m.k ≠ keyS n.k := fun m hm hk => Lr.find_none.1 hn m.kv (List.mem_map.2 ⟨m, hm, rfl⟩) (keyS_inj hk)
  have hh : Maps.has D (keyS n.k) = false := by
    cases hc : Maps.has D (keyS n.k) with
    | false => rfl
    | true =>
      obtain ⟨m, hm, e⟩ := h.back _ hc
      exact absurd e.symm (ho m hm)
  refine ⟨h.tidy.put (isKeyS n.k) _, ?_, fun kl hk => ?_, fun m hm => ?_, fun m hm z => ?_⟩
  · rw [Maps.size_put h.tidy, hh, h.size]; simp
  · by_cases e : kl = keyS n.k
    · exact ⟨n, by simp, e⟩
    · rw [Maps.has_put_other e] at hk
      obtain ⟨x, hx, r⟩ := h.back kl hk
      exact ⟨x, by simp [hx], r⟩
  · rcases List.mem_cons.1 hm with rfl | hm
    · exact Maps.has_put_same h.tidy.isMap (isKeyS _) _
    · rw [Maps.has_put_other (ho m hm)]; exact h.has m hm
  · rcases List.mem_cons.1 hm with rfl | hm
    · exact Maps.atKey_put_same h.tidy.isMap (isKeyS _) _ _
    · rw [Maps.atKey_put_other (ho m hm)]; exact h.at_ m hm z
theorem HoldsL.del {D : DataW Unit} {a b : List Nd} {n : Nd} (h : HoldsL D (a ++ n :: b)) (hg : Lr.Good (Lr.kvs (a ++ n :: b))) : HoldsL (D.del (keyS n.k)) (a ++ b) := by
  have hsp := (show Lr.Good (Lr.kvs a ++ n.kv :: Lr.kvs b) by simpa [Lr.kvs] using hg).split
  have ho : ∀ m ∈ a ++ b, keyS m.k ≠ keyS n.k := fun m hm hk => by
    rcases List.mem_append.1 hm with h1 | h1
    · exact hsp.1 m.kv (List.mem_map.2 ⟨m, h1, rfl⟩) (keyS_inj hk)
    · exact hsp.2 m.kv (List.mem_map.2 ⟨m, h1, rfl⟩) (keyS_inj hk)
  have hin : ∀ m ∈ a ++ b, m ∈ a ++ n :: b := fun m hm => by
    rcases List.mem_append.1 hm with h1 | h1 <;> simp [h1]
  refine ⟨h.tidy.del _, ?_, fun kl hk => ?_, fun m hm => ?_, fun m hm z => ?_⟩
  · have h1 := Maps.size_del h.tidy (k := keyS n.k)
    rw [h.has n (by simp), h.size] at h1
    simp at h1 ⊢
    omega
  · by_cases e : kl = keyS n.k
    · rw [e, Maps.has_del_same] at hk; cases hk
    · rw [Maps.has_del_other e] at hk
      obtain ⟨x, hx, r⟩ := h.back kl hk
      refine ⟨x, ?_, r⟩
      rcases List.mem_append.1 hx with h1 | h1
      · simp [h1]
      · rcases List.mem_cons.1 h1 with rfl | h1
        · exact absurd r e
        · simp [h1]
  · rw [Maps.has_del_other (ho m hm)]; exact h.has m (hin m hm)
  · rw [Maps.atKey_del_other (ho m hm)]; exact h.at_ m (hin m hm) z

/-- block b is the map of these links -/
def MapL (w : World) (b : Nat) (l : List Nd) : Prop := ∃ D, w.ownsMap Try.prog 9 ptrR b l.length D ∧ HoldsL D l
theorem MapL.lt {w : World} {b : Nat} {l : List Nd} (h : MapL w b l) : b < w.heap.size := by obtain ⟨D, h, _⟩ := h; exact h.lt
theorem MapL.keep {w w' : World} {b : Nat} {l : List Nd} (h : MapL w b l) (hk : w'.heap[b]? = w.heap[b]?) : MapL w' b l := by
  obtain ⟨D, ⟨es, clock, hm, r⟩, hD⟩ := h
  exact ⟨D, ⟨es, clock, hk.trans hm, r⟩, hD⟩
theorem MapL.perm {w : World} {b : Nat} {l m : List Nd} (h : MapL w b l) (hp : l.Perm m) : MapL w b m := by
  obtain ⟨D, h1, hD⟩ := h
  exact ⟨D, hp.length_eq ▸ h1, hD.perm hp⟩
theorem MapL.same {w : World} {b : Nat} {l m : List Nd} (h : MapL w b l) (hm : m.map (fun n => (n.k, n.b)) = l.map (fun n => (n.k, n.b))) : MapL w b m := by
  obtain ⟨D, h1, hD⟩ := h
  have hl : m.length = l.length := by simpa using congrArg List.length hm
  exact ⟨D, hl ▸ h1, hD.same hm⟩
theorem MapL.made (w : World) : MapL (w.alloc (.map #[] 0)) w.heap.size [] := ⟨_, World.ownsMap_made w _ _ _, HoldsL.nil⟩
theorem MapL.cell {w : World} {b : Nat} {l : List Nd} (h : MapL w b l) : ∃ es clock, w.heap[b]? = some (.map es clock) := by obtain ⟨D, ⟨es, clock, hb, _⟩, _⟩ := h; exact ⟨es, clock, hb⟩
theorem tightL {w : World} {b n : Nat} {D : DataW Unit} (h : w.ownsMap Try.prog 9 ptrR b n D) : w.ownsMap Try.prog 9 ptrR b (Maps.size D) D := by
  obtain ⟨es, clock, hb, F, hs, rfl⟩ := h
  exact ⟨es, clock, hb, F, by simp [Maps.size, length_sorted], rfl⟩

section
variable (w : World) {ops : Array Oper} {rest : List Oper} {o : Oper} {a : Act} {Q : Exit → Act → World → Prop}
/-- 'm[k]' -/
theorem wpLookL (hg : o.guard = none) (m x : Operand) (hop : o.op = Op.lookup 65 m x false)
    (b : Nat) (l : List Nd) (hgd : Lr.Good (Lr.kvs l)) (hm : a.eval m = .map (some b)) (hM : MapL w b l) (k : ByteArray) (hx : a.eval x = .string k) (hk : k.size ≤ 9223372036854775807)
    (hK : wpList Try.prog ops Q rest (a.put o.dst (ptrV (Lr.at_ l k))) w) :
    wpList Try.prog ops Q (o :: rest) a w := by
  obtain ⟨D, hD, hH⟩ := hM
  refine wpList_plain hg fun K' hK' => ?_
  obtain ⟨v, ps, hrun, hv⟩ := hD.lookup keyedS Try.underlying65 (Try.zeroValue70 w) (ptrR_mk none) (keyS_mk k hk)
  rw [hH.at_eq hgd] at hv
  obtain ⟨p, rfl, hp⟩ := ptrR_inv hv
  rw [← ptrD_inj hp] at hrun
  unfold Oper.wp
  simp [execOp, hop, hm, hx, hrun, Result.andThen]
  exact hK' _ _ hK
/-- 'm[k] = p', k not there -/
theorem wpPutL (hg : o.guard = none) (m x v : Operand) (hop : o.op = Op.mapUpdate 65 m x v)
    (b : Nat) (l : List Nd) (hm : a.eval m = .map (some b)) (hM : MapL w b l) (n : Nd) (hx : a.eval x = .string n.k) (hv : a.eval v = .pointer (some ⟨n.b, 0, none⟩)) (hk : n.k.size ≤ 9223372036854775807)
    (hl : l.length ≤ 1000000) (hn : Lr.find (Lr.kvs l) n.k = none)
    (hK : ∀ w', MapL w' b (n :: l) → Chg (fun k => k = b) w w' → w'.heap.size = w.heap.size → wpList Try.prog ops Q rest (a.put o.dst undef) w') :
    wpList Try.prog ops Q (o :: rest) a w := by
  obtain ⟨D, hD, hH⟩ := hM
  refine wpList_mapUpdate_in _ hg m x v _ hop 9 70 keyedS Try.underlying65 ptrR b _ _ hm hD (by unfold maxLen; omega) _ _ _ hx hv (keyS_mk n.k hk) (ptrD (some n.b)) [] (ptrR_mk (some n.b)) ?_
  intro w' h1 h2
  have hg2 := h2.grown
  obtain ⟨es, clock, es', clock', hb, rfl⟩ := h2
  refine hK _ ⟨_, by simpa using h1, hH.put n hn⟩ ⟨hg2.os, hg2.tape, hg2.output, hg2.size, fun k hk hne => hg2.block k hk (fun e => hne (by cases e; rfl))⟩ (by simp [ChangeMaps.setBlock])
/-- 'delete(m, k)', k there -/
theorem wpDelL (hg : o.guard = none) (m x : Operand) (hop : o.op = Op.call { callee := Callee.builtin Builtin.delete, args := #[m, x], argTypes := #[65, 9] })
    (b : Nat) (l1 l2 : List Nd) (n : Nd) (hm : a.eval m = .map (some b)) (hM : MapL w b (l1 ++ n :: l2)) (hx : a.eval x = .string n.k) (hk : n.k.size ≤ 9223372036854775807) (hgd : Lr.Good (Lr.kvs (l1 ++ n :: l2)))
    (hK : ∀ w', MapL w' b (l1 ++ l2) → Chg (fun k => k = b) w w' → w'.heap.size = w.heap.size → wpList Try.prog ops Q rest (a.put o.dst (.tuple #[])) w') :
    wpList Try.prog ops Q (o :: rest) a w := by
  obtain ⟨D, hD, hH⟩ := hM
  refine wpList_delete_own _ hg m x _ _ hop 70 keyedS Try.underlying65 ptrR b _ _ hm hD _ _ hx (keyS_mk n.k hk) ?_
  intro w' h1 h2
  have hg2 := h2.grown
  obtain ⟨es, clock, es', clock', hb, rfl⟩ := h2
  have hH2 := hH.del hgd
  refine hK _ ⟨_, hH2.size ▸ tightL h1, hH2⟩ ⟨hg2.os, hg2.tape, hg2.output, hg2.size, fun k hk hne => hg2.block k hk (fun e => hne (by cases e; rfl))⟩ (by simp [ChangeMaps.setBlock])
/-- 'len(m)' -/
theorem wpLenL (hg : o.guard = none) (m : Operand) (hop : o.op = Op.call { callee := Callee.builtin Builtin.len, args := #[m], argTypes := #[65] })
    (b : Nat) (l : List Nd) (hm : a.eval m = .map (some b)) (hM : MapL w b l)
    (hK : wpList Try.prog ops Q rest (a.put o.dst (.int .i64 (l.length : Int))) w) :
    wpList Try.prog ops Q (o :: rest) a w := by
  obtain ⟨D, hD, hH⟩ := hM
  refine wpList_len_own _ hg m _ hop 9 70 Try.underlying65 ptrR b _ _ hm hD ?_
  rw [hH.size]
  exact hK
end
end Go.Proofs.Ytmdpfinadffcaaa
