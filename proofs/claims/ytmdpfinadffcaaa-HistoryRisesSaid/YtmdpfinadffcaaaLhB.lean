/-
  The ring of a table: raise, push, a new list, the last link, an entry of a link.
-/
import Derived.Test.YtmdpfinadffcaaaLhA
namespace Go.Proofs.Ytmdpfinadffcaaa
open Go.RowKit
open Lr (Nd)
set_option linter.unusedVariables false

def ifc (e : Nat) : Value := .iface 74 (.pointer (some ⟨e, 0, none⟩))
/-- a key and the counts of its histogram: an entry's cells, and a row's -/
def entC (k : ByteArray) (v : Lr.V) : Array Value := #[.string k] ++ Hi.cells v.1
def entO (k : ByteArray) (v : Lr.V) : Obj := .cells (entC k v) 73
theorem entC_size (k : ByteArray) (v : Lr.V) : (entC k v).size = 17 := by unfold entC; rw [Array.size_append, Hi.cells_size, v.2]; rfl
theorem entC_key (k : ByteArray) (v : Lr.V) : (entC k v)[0]? = some (.string k) := by
  unfold entC
  rw [Array.getElem?_append_left (show 0 < (#[Value.string k] : Array Value).size from Nat.zero_lt_one)]
  rfl
theorem entC_at (k : ByteArray) (v : Lr.V) (j : Nat) : (entC k v)[1 + j]? = (Hi.cells v.1)[j]? := by
  unfold entC
  rw [Array.getElem?_append_right (show (#[Value.string k] : Array Value).size ≤ 1 + j from Nat.le_add_right 1 j)]
  exact congrArg (fun i => (Hi.cells v.1)[i]?) (Nat.add_sub_cancel_left 1 j)
theorem entC_one (k : ByteArray) (v : Lr.V) : ∀ u ∈ (entC k v).toList, u.oneCell' = true := by
  intro u hu
  simp [entC, Hi.cells] at hu
  rcases hu with rfl | ⟨x, _, rfl⟩ <;> rfl
theorem ent_c0 {w : World} {x : Nat} {k : ByteArray} {v : Lr.V} (h : w.heap[x]? = some (entO k v)) : w.cell? ⟨x, 0, none⟩ = some (.string k) := by rw [cell_of_row w _ _ _ _ _ h]; exact entC_key k v
/-- block r is the root of the ring of these links -/
structure RAt (w : World) (r : Nat) (ns : List Nd) (aft bef : Nat → Nat) : Prop where
  ring : Lr.Ring aft bef r (ns.map (·.b))
  root : w.heap[r]? = some (lk .nilIface 98 (bef r) (aft r))
  node : ∀ n ∈ ns, w.heap[n.b]? = some (lk (ifc n.e) 96 (bef n.b) (aft n.b))
def RA (w : World) (r : Nat) (ns : List Nd) : Prop := ∃ aft bef, RAt w r ns aft bef
theorem RAt.at {w : World} {r : Nat} {ns : List Nd} {aft bef : Nat → Nat} (h : RAt w r ns aft bef) {z : Nat} (hz : z ∈ r :: ns.map (·.b)) : ∃ v t, w.heap[z]? = some (lk v t (bef z) (aft z)) := by
  rcases List.mem_cons.1 hz with rfl | hz
  · exact ⟨_, _, h.root⟩
  · obtain ⟨n, hn, rfl⟩ := List.mem_map.1 hz
    exact ⟨_, _, h.node n hn⟩
theorem RA.keep {w w' : World} {r : Nat} {ns : List Nd} (h : RA w r ns) (hk : ∀ k, k ∈ r :: ns.map (·.b) → w'.heap[k]? = w.heap[k]?) : RA w' r ns := by
  obtain ⟨aft, bef, h1, h2, h3⟩ := h
  exact ⟨aft, bef, h1, (hk r (by simp)).trans h2, fun n hn => (hk n.b (by simp; exact Or.inr ⟨n, hn, rfl⟩)).trans (h3 n hn)⟩
theorem RA.lt {w : World} {r : Nat} {ns : List Nd} (h : RA w r ns) : ∀ k, k ∈ r :: ns.map (·.b) → k < w.heap.size := fun k hk => by
  obtain ⟨aft, bef, h⟩ := h
  obtain ⟨v, t, h1⟩ := h.at hk
  exact lt_block h1
theorem RA.nd {w : World} {r : Nat} {ns : List Nd} (h : RA w r ns) : (r :: ns.map (·.b)).Nodup := by
  obtain ⟨aft, bef, h⟩ := h
  exact h.ring.nd
theorem RA.link {w : World} {r : Nat} {ns : List Nd} (h : RA w r ns) {n : Nd} (hn : n ∈ ns) : ∃ p q, w.heap[n.b]? = some (lk (ifc n.e) 96 p q) := by
  obtain ⟨aft, bef, h⟩ := h
  exact ⟨_, _, h.node n hn⟩
theorem RA.root {w : World} {r : Nat} {ns : List Nd} (h : RA w r ns) : ∃ p q, w.heap[r]? = some (lk .nilIface 98 p q) := by
  obtain ⟨aft, bef, h⟩ := h
  exact ⟨_, _, h.root⟩
/-- values are no matter of the ring's -/
theorem RA.same {w : World} {r : Nat} {ns ms : List Nd} (h : RA w r ns) (hm : ms.map (fun n => (n.b, n.e)) = ns.map (fun n => (n.b, n.e))) : RA w r ms := by
  obtain ⟨aft, bef, h1, h2, h3⟩ := h
  have e1 : ms.map (·.b) = ns.map (·.b) := by
    have := congrArg (List.map Prod.fst) hm
    rw [List.map_map, List.map_map] at this
    exact this
  refine ⟨aft, bef, by rw [e1]; exact h1, h2, fun n hn => ?_⟩
  have : (n.b, n.e) ∈ ns.map (fun n => (n.b, n.e)) := by rw [← hm]; exact List.mem_map.2 ⟨n, hn, rfl⟩
  obtain ⟨n', h4, h5⟩ := List.mem_map.1 this
  simp at h5
  rw [← h5.1, ← h5.2]
  exact h3 n' h4

/-- it returns nothing; the ring holds ms; the blocks of F alone are written -/
structure RetL (r : Nat) (ms : List Nd) (F : Nat → Prop) (w : World) (e : Ending) (w' : World) : Prop where
  e : e = .returned (.tuple #[])
  s : RA w' r ms
  c : Chg F w w'
structure RetCut (r : Nat) (ms : List Nd) (n : Nd) (w : World) (e : Ending) (w' : World) : Prop where
  e : e = .returned (.tuple #[])
  s : RA w' r ms
  x : ∃ p q, w'.heap[n.b]? = some (lk (ifc n.e) 96 p q)
  c : Chg (fun k => k ∈ r :: ms.map (·.b)) w w'
theorem ringCut (r : Nat) (a b : List Nd) (n : Nd) (w : World) (h : RA w r (a ++ n :: b)) :
    Calls Try.prog 50 #[.pointer (some ⟨n.b, 0, none⟩)] w (RetCut r (a ++ b) n w) := by
  obtain ⟨aft, bef, h⟩ := h
  have hr := h.ring
  rw [List.map_append, List.map_cons] at hr
  obtain ⟨i1, i2, i3, i4⟩ := hr.aft_in
  have hin : ∀ z, z ∈ r :: (a.map (·.b) ++ b.map (·.b)) → z ∈ r :: (a ++ n :: b).map (·.b) := fun z hz => by
    simp at hz ⊢
    rcases hz with h | h | h
    · exact Or.inl h
    · exact Or.inr (Or.inl h)
    · exact Or.inr (Or.inr (Or.inr h))
  obtain ⟨vp, tp, hp⟩ := h.at (hin _ i2)
  obtain ⟨vq, tq, hq⟩ := h.at (hin _ i1)
  have hx := h.node n (by simp)
  have hcut := hr.cut
  refine (cutC n.b (bef n.b) (aft n.b) _ vp vq _ tp tq _ _ _ _ w hx hp hq).mono fun e w' ho => ?_
  have hx2 := ho.h _ _ _ _ _ hx
  rw [if_neg (fun e => i3 e.symm), if_neg (fun e => i4 e.symm)] at hx2
  refine ⟨ho.e, ⟨Lr.upd aft (bef n.b) (aft n.b), Lr.upd bef (aft n.b) (bef n.b), ?_, ?_, ?_⟩, ⟨_, _, hx2⟩, ho.c.mono (fun k hk => Or.inl ?_)⟩
  · rw [List.map_append]; exact hcut
  · exact ho.h _ _ _ _ _ h.root
  · intro m hm
    exact ho.h _ _ _ _ _ (h.node m (by simp at hm ⊢; rcases hm with h | h; exact Or.inl h; exact Or.inr (Or.inr h)))
  · rcases hk with rfl | rfl
    · simpa using i2
    · simpa using i1
theorem ringLead (r : Nat) (ns : List Nd) (n : Nd) (u1 u2 : Value) (w : World) (h : RA w r ns) (hx : w.heap[n.b]? = some (.cells #[ifc n.e, u1, u2] 96)) (hn : n.b ∉ r :: ns.map (·.b)) :
    Calls Try.prog 51 #[.pointer (some ⟨r, 0, none⟩), .pointer (some ⟨n.b, 0, none⟩)] w (RetL r (n :: ns) (fun k => k = n.b ∨ k ∈ r :: ns.map (·.b)) w) := by
  obtain ⟨aft, bef, h⟩ := h
  have hq' := h.ring.in_of
  obtain ⟨vq, tq, hq⟩ := h.at hq'
  have hxr : n.b ≠ r := fun e => hn (by rw [e]; simp)
  have hxq : n.b ≠ aft r := fun e => hn (by rw [e]; exact hq')
  have hl := h.ring.lead hn
  refine (leadC r n.b (aft r) _ _ vq u1 u2 _ _ tq _ _ _ w hxr hxq hx h.root hq).mono fun e w' ho => ?_
  refine ⟨ho.e, ⟨_, _, hl, ?_, ?_⟩, ho.c.mono (fun k hk => Or.inl ?_)⟩
  · have := ho.h _ _ _ _ _ (fun e => hxr e.symm) h.root
    rw [this]
    simp [Lr.upd, Ne.symm hxr]
  · intro m hm
    rcases List.mem_cons.1 hm with rfl | hm
    · rw [ho.at_]
      simp [Lr.upd, hxr, hxq]
    · have hmb : m.b ∈ ns.map (·.b) := List.mem_map.2 ⟨m, hm, rfl⟩
      have h1 : m.b ≠ n.b := fun e => hn (by rw [← e]; exact List.mem_cons_of_mem _ hmb)
      have := ho.h _ _ _ _ _ h1 (h.node m hm)
      rw [this]
      have h2 : m.b ≠ r := fun e => (List.nodup_cons.1 h.ring.nd).1 (by rw [← e]; exact hmb)
      simp [Lr.upd, h1, h2]
  · rcases hk with rfl | rfl | rfl
    · exact Or.inr (by simp)
    · exact Or.inl rfl
    · exact Or.inr hq'
end Go.Proofs.Ytmdpfinadffcaaa
