/-
  A table: how it lies; find, Len, Peek, Drop, Get.
-/
import Derived.Test.YtmdpfinadffcaaaLhC
namespace Lr
set_option linter.unusedVariables false
theorem find_split {a b : List Nd} {n : Nd} (h : Good (kvs (a ++ n :: b))) : find (kvs (a ++ n :: b)) n.k = some n.v ∧ at_ (a ++ n :: b) n.k = some n.b ∧ without (kvs (a ++ n :: b)) n.k = kvs (a ++ b) := by
  have e : kvs (a ++ n :: b) = kvs a ++ n.kv :: kvs b := by simp [kvs]
  have hj : (kvs a).length < (kvs (a ++ n :: b)).length := by rw [e]; simp
  have h1 := find_at h hj
  have h2 : (kvs (a ++ n :: b))[(kvs a).length] = n.kv := by simp [e]
  rw [h2] at h1
  refine ⟨h1, at_mem h (by simp), ?_⟩
  rw [e] at h ⊢
  have := without_split h
  rw [kvs_append]
  exact this
theorem get_split {a b : List Nd} {n : Nd} (h : Good (kvs (a ++ n :: b))) : get (kvs (a ++ n :: b)) n.k = kvs (n :: (a ++ b)) := by
  obtain ⟨h1, _, h3⟩ := find_split h
  rw [get_some h1]
  unfold front
  rw [h3]
  rfl
end Lr
namespace Go.Proofs.Ytmdpfinadffcaaa
open Go.RowKit
open Lr (Nd)
set_option linter.unusedVariables false

/-- block P is the table of these nodes -/
structure TAt (w : World) (P m r : Nat) (room : Int) (ns : List Nd) : Prop where
  tab : w.heap[P]? = some (.cells #[.int .i64 room, .map (some m), .pointer (some ⟨r, 0, none⟩)] 69)
  map : MapL w m ns
  ring : RA w r ns
  ent : ∀ n ∈ ns, w.heap[n.e]? = some (entO n.k n.v)
  nde : (ns.map (·.e)).Nodup
  good : Lr.Good (Lr.kvs ns)
  small : ∀ n ∈ ns, n.k.size ≤ 140737488351232
/-- its blocks -/
def foot (P m r : Nat) (ns : List Nd) (k : Nat) : Prop := k = P ∨ k = m ∨ k ∈ r :: ns.map (·.b) ∨ k ∈ ns.map (·.e)
theorem TAt.keep {w w' : World} {P m r : Nat} {room : Int} {ns : List Nd} (h : TAt w P m r room ns) (hk : ∀ k, foot P m r ns k → w'.heap[k]? = w.heap[k]?) : TAt w' P m r room ns :=
  ⟨(hk P (Or.inl rfl)).trans h.tab, h.map.keep (hk m (Or.inr (Or.inl rfl))), h.ring.keep (fun k hm => hk k (Or.inr (Or.inr (Or.inl hm)))),
   fun n hn => (hk n.e (Or.inr (Or.inr (Or.inr (List.mem_map.2 ⟨n, hn, rfl⟩))))).trans (h.ent n hn), h.nde, h.good, h.small⟩
theorem TAt.lt {w : World} {P m r : Nat} {room : Int} {ns : List Nd} (h : TAt w P m r room ns) : ∀ k, foot P m r ns k → k < w.heap.size := by
  rintro k (rfl | rfl | hk | hk)
  · exact lt_block h.tab
  · exact h.map.lt
  · exact h.ring.lt k hk
  · obtain ⟨n, hn, rfl⟩ := List.mem_map.1 hk
    exact lt_block (h.ent n hn)
theorem TAt.c0 {w : World} {P m r : Nat} {room : Int} {ns : List Nd} (h : TAt w P m r room ns) : w.cell? ⟨P, 0, none⟩ = some (.int .i64 room) := by rw [cell_of_row w P _ _ _ _ h.tab]; rfl
theorem TAt.c1 {w : World} {P m r : Nat} {room : Int} {ns : List Nd} (h : TAt w P m r room ns) : w.cell? ⟨P, 1, none⟩ = some (.map (some m)) := by rw [cell_of_row w P _ _ _ _ h.tab]; rfl
theorem TAt.c2 {w : World} {P m r : Nat} {room : Int} {ns : List Nd} (h : TAt w P m r room ns) : w.cell? ⟨P, 2, none⟩ = some (.pointer (some ⟨r, 0, none⟩)) := by rw [cell_of_row w P _ _ _ _ h.tab]; rfl
/-- its blocks are of five kinds, and so apart -/
theorem TAt.kinds {w : World} {P m r : Nat} {room : Int} {ns : List Nd} (h : TAt w P m r room ns) :
    P ≠ m ∧ (∀ k ∈ r :: ns.map (·.b), k ≠ P ∧ k ≠ m ∧ k ∉ ns.map (·.e)) ∧ (∀ k ∈ ns.map (·.e), k ≠ P ∧ k ≠ m) := by
  obtain ⟨es, clock, hm⟩ := h.map.cell
  have hL : ∀ k ∈ r :: ns.map (·.b), ∃ v p q t, w.heap[k]? = some (lk v t p q) ∧ t ≠ 69 ∧ t ≠ 73 := fun k hk => by
    rcases List.mem_cons.1 hk with rfl | hk
    · obtain ⟨p, q, hr⟩ := h.ring.root
      exact ⟨_, p, q, _, hr, by decide, by decide⟩
    · obtain ⟨n, hn, rfl⟩ := List.mem_map.1 hk
      obtain ⟨p, q, hr⟩ := h.ring.link hn
      exact ⟨_, p, q, _, hr, by decide, by decide⟩
  have hE : ∀ k ∈ ns.map (·.e), ∃ key v, w.heap[k]? = some (entO key v) := fun k hk => by
    obtain ⟨n, hn, rfl⟩ := List.mem_map.1 hk
    exact ⟨_, _, h.ent n hn⟩
  refine ⟨fun e => ?_, fun k hk => ⟨fun e => ?_, fun e => ?_, fun e => ?_⟩, fun k hk => ⟨fun e => ?_, fun e => ?_⟩⟩
  · have h9 := h.tab; rw [e, hm] at h9; cases h9
  · obtain ⟨v, p, q, t, h1, h2, _⟩ := hL k hk
    rw [e, h.tab] at h1; unfold lk at h1; cases h1
  · obtain ⟨v, p, q, t, h1, _, _⟩ := hL k hk
    rw [e, hm] at h1; cases h1
  · obtain ⟨v, p, q, t, h1, _, h3⟩ := hL k hk
    obtain ⟨key, u, h4⟩ := hE k e
    rw [h1] at h4; simp only [lk, entO, Option.some.injEq, Obj.cells.injEq] at h4; exact h3 h4.2.1
  · obtain ⟨key, u, h4⟩ := hE k hk
    rw [e, h.tab] at h4; exact absurd h4 (by simp [entO])
  · obtain ⟨key, u, h4⟩ := hE k hk
    rw [e, hm] at h4; cases h4

/-- how a table lies: world, base, its block, its room, its list, its blocks -/
def TIs (w : World) (B P : Nat) (room : Int) (l : List Lr.E) (F : Nat → Prop) : Prop :=
  ∃ m r ns, TAt w P m r room ns ∧ Lr.kvs ns = l ∧ (∀ k, F k ↔ foot P m r ns k) ∧ ∀ k, F k → B ≤ k
theorem TIs.keep {w w' : World} {B P : Nat} {room : Int} {l : List Lr.E} {F : Nat → Prop} (h : TIs w B P room l F) (hk : ∀ k, F k → w'.heap[k]? = w.heap[k]?) : TIs w' B P room l F := by
  obtain ⟨m, r, ns, h1, h2, h3, h4⟩ := h
  exact ⟨m, r, ns, h1.keep (fun k hf => hk k ((h3 k).2 hf)), h2, h3, h4⟩
theorem TIs.lt {w : World} {B P : Nat} {room : Int} {l : List Lr.E} {F : Nat → Prop} (h : TIs w B P room l F) : ∀ k, F k → B ≤ k ∧ k < w.heap.size := by
  obtain ⟨m, r, ns, h1, h2, h3, h4⟩ := h
  exact fun k hk => ⟨h4 k hk, h1.lt k ((h3 k).1 hk)⟩
theorem TIs.good {w : World} {B P : Nat} {room : Int} {l : List Lr.E} {F : Nat → Prop} (h : TIs w B P room l F) : Lr.Good l := by
  obtain ⟨m, r, ns, h1, rfl, h3, h4⟩ := h
  exact h1.good
/-- it returns r; the table holds l' -/
structure RetT (r : Value) (B P : Nat) (room : Int) (l' : List Lr.E) (F : Nat → Prop) (w : World) (e : Ending) (w' : World) : Prop where
  r : e = .returned r
  s : ∃ F', TIs w' B P room l' F' ∧ ∀ k, F' k → F k ∨ w.heap.size ≤ k
  c : Chg F w w'

theorem findNone (P m r : Nat) (room : Int) (ns : List Nd) (key : ByteArray) (w : World) (h : TAt w P m r room ns) (hk : key.size ≤ 9223372036854775807) (hn : Lr.find (Lr.kvs ns) key = none) :
    Calls Try.prog 30 #[.pointer (some ⟨P, 0, none⟩), .string key] w (Same (.pointer none) w) := by
  have c1 := h.c1
  have hat := Lr.at_none.2 hn
  have HM := Lib.hid h.map
  have HG := Lib.hid h.good
  have HAT := Lib.hid hat
  clear h hn hat
  go_enter Try.func30, Try.ntmps30
  go_wp2_with (at_lookup; refine wpLookL _ rfl _ _ rfl m ns HG.out rfl HM.out key rfl hk ?_; rw [HAT.out]; unfold ptrV)
  go_ret
  exact ⟨rfl, rfl⟩
theorem findSome (P m r : Nat) (room : Int) (a b : List Nd) (n : Nd) (w : World) (h : TAt w P m r room (a ++ n :: b)) :
    Calls Try.prog 30 #[.pointer (some ⟨P, 0, none⟩), .string n.k] w (Same (.pointer (some ⟨n.b, 0, none⟩)) w) := by
  have c1 := h.c1
  have hk := h.small n (by simp)
  have HAT := Lib.hid (Lr.find_split h.good).2.1
  have HM := Lib.hid h.map
  have HG := Lib.hid h.good
  clear h
  generalize n.b = x at *
  generalize n.k = key at *
  go_enter Try.func30, Try.ntmps30
  go_wp2_with (at_lookup; refine wpLookL _ rfl _ _ rfl m _ HG.out rfl HM.out key rfl (by omega) ?_; rw [HAT.out]; unfold ptrV)
  go_ret
  exact ⟨rfl, rfl⟩
theorem lenAt (P m r : Nat) (room : Int) (ns : List Nd) (w : World) (h : TAt w P m r room ns) : Calls Try.prog 35 #[.pointer (some ⟨P, 0, none⟩)] w (Same (.int .i64 (ns.length : Int)) w) := by
  have c1 := h.c1
  have HM := Lib.hid h.map
  clear h
  go_enter Try.func35, Try.ntmps35
  go_wp2_with (at_len; refine wpLenL _ rfl _ rfl m ns rfl HM.out ?_)
  go_ret
  exact ⟨rfl, rfl⟩
end Go.Proofs.Ytmdpfinadffcaaa
