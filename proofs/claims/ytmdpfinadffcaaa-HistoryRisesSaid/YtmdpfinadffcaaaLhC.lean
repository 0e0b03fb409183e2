/-
  The ring of a table: raise, push, a new list, the last link, an entry of a link.
-/
import Derived.Test.YtmdpfinadffcaaaLhB
namespace Go.Proofs.Ytmdpfinadffcaaa
open Go.RowKit
open Lr (Nd)
set_option linter.unusedVariables false

set_option maxRecDepth 100000 in
theorem raiseC (r : Nat) (a b : List Nd) (n : Nd) (w : World) (h : RA w r (a ++ n :: b)) :
    Calls Try.prog 32 #[.pointer (some ⟨r, 0, none⟩), .pointer (some ⟨n.b, 0, none⟩)] w (RetL r (n :: (a ++ b)) (fun k => k ∈ r :: (a ++ n :: b).map (·.b)) w) := by
  have hnd := h.nd
  have hn : n.b ∉ r :: (a ++ b).map (·.b) := by
    rw [List.map_append, List.map_cons] at hnd
    rw [List.map_append]
    intro hm
    have hp : (r :: (a.map (·.b) ++ n.b :: b.map (·.b))).Perm (n.b :: (r :: (a.map (·.b) ++ b.map (·.b)))) :=
      (List.perm_middle.cons r).trans (List.Perm.swap _ _ _)
    have := hp.nodup_iff.1 hnd
    exact (List.nodup_cons.1 this).1 hm
  have K1 := Lib.hid (ringCut r a b n w h)
  have K2 := Lib.hid (fun W p q (hs : RA W r (a ++ b)) (hx : W.heap[n.b]? = some (lk (ifc n.e) 96 p q)) => ringLead r (a ++ b) n _ _ W hs hx hn)
  clear h hnd hn
  have hF : ∀ {w1 w2 : World}, Chg (fun k => k ∈ r :: (a ++ b).map (·.b)) w w1 → Chg (fun k => k = n.b ∨ k ∈ r :: (a ++ b).map (·.b)) w1 w2 → Chg (fun k => k ∈ r :: (a ++ n :: b).map (·.b)) w w2 := fun {w1 w2} h1 h2 => by
    have hin : ∀ k, k = n.b ∨ k ∈ r :: (a ++ b).map (·.b) → k ∈ r :: (a ++ n :: b).map (·.b) := fun k hk => by
      simp at hk ⊢
      rcases hk with h | h | h | h
      · exact Or.inr (Or.inr (Or.inl h))
      · exact Or.inl h
      · exact Or.inr (Or.inl h)
      · exact Or.inr (Or.inr (Or.inr h))
    exact (h1.mono (fun k hk => Or.inl (hin k (Or.inr hk)))).trans h2 (fun k hk => Or.inl (hin k hk))
  have HF := Lib.hid (fun w1 w2 h1 h2 => hF (w1 := w1) (w2 := w2) h1 h2); clear hF
  go_enter Try.func32, Try.ntmps32
  go_wp2_with (first | (go_at_call 50; (with_reducible refine K1.out.mono ?_); rintro e wA ⟨rfl, hs, ⟨p, q, hx⟩, hc⟩) | (go_at_call 51; (with_reducible refine (K2.out _ p q hs hx).mono ?_); rintro e wB ⟨rfl, hs2, hc2⟩))
  go_end0
  exact ⟨rfl, hs2, HF.out _ _ hc hc2⟩

theorem box_keep {w : World} {o : Obj} {k : Nat} (h : k < w.heap.size) : (w.alloc o).heap[k]? = w.heap[k]? := Lib.alloc_old _ _ _ h
set_option maxRecDepth 100000 in
theorem pushC (r ent : Nat) (key : ByteArray) (val : Lr.V) (ns : List Nd) (w : World) (h : RA w r ns) :
    Calls Try.prog 34 #[.pointer (some ⟨r, 0, none⟩), ifc ent] w fun e w' => e = .returned (.pointer (some ⟨w.heap.size, 0, none⟩)) ∧ RA w' r (⟨w.heap.size, ent, key, val⟩ :: ns) ∧ Chg (fun k => k ∈ r :: ns.map (·.b)) w w' := by
  have hlt := h.lt
  have h2 : RA (w.alloc (.cells #[ifc ent, .pointer none, .pointer none] 96)) r ns := h.keep (fun k hk => box_keep (hlt k hk))
  have hx := heap_alloc_new w (.cells #[ifc ent, .pointer none, .pointer none] 96)
  have K := ringLead r ns ⟨w.heap.size, ent, key, val⟩ _ _ _ h2 hx (fun hm => by have := hlt _ hm; simp at this)
  have HK := Lib.hid (K.mono (R' := fun e w' => e = .returned (.tuple #[]) ∧ Hid (RA w' r (⟨w.heap.size, ent, key, val⟩ :: ns) ∧ Chg (fun k => k ∈ r :: ns.map (·.b)) w w')) fun e w' hr => ⟨hr.e, Lib.hid ⟨hr.s, ((Chg.of_below (F := fun k => k ∈ r :: ns.map (·.b)) ((Below.refl _ w).alloc (Nat.le_refl _) _)).trans hr.c (fun k hk => by
    rcases hk with rfl | hk
    · exact Or.inr (Nat.le_refl _)
    · exact Or.inl hk))⟩⟩)
  clear h h2 hx K hlt
  unfold ifc at *
  go_enter Try.func34, Try.ntmps34
  go_wp2_with (go_at_call 51; (with_reducible refine HK.out.mono ?_); rintro e wA ⟨rfl, hA⟩)
  go_ret
  exact ⟨rfl, hA.out⟩

set_option maxRecDepth 100000 in
set_option maxHeartbeats 1000000 in
theorem newListX (w : World) (x : Nat) (hxe : w.heap.size = x) : Calls Try.prog 29 #[] w fun e w' => e = .returned (.pointer (some ⟨x, 0, none⟩)) ∧ RA w' x [] ∧ Below x w w' := by
  obtain ⟨w1, hw1⟩ : ∃ w1, w1 = w.alloc (.cells #[.nilIface, .pointer none, .pointer none] 98) := ⟨_, rfl⟩
  have hx : w1.heap[x]? = some (.cells #[.nilIface, .pointer none, .pointer none] 98) := by rw [hw1, ← hxe]; exact heap_alloc_new w _
  have f1 := frozen_of w1 x 1 _ _ hx
  have f2 := frozen_of w1 x 2 _ _ hx
  have c1 : w1.cell? ⟨x, 1, none⟩ = some (.pointer none) := by rw [cell_of_row w1 _ _ _ _ _ hx]; rfl
  have c2 : w1.cell? ⟨x, 2, none⟩ = some (.pointer none) := by rw [cell_of_row w1 _ _ _ _ _ hx]; rfl
  have HB : Hid (Below x w w1) := Lib.hid (by rw [hw1, ← hxe]; exact (Below.refl _ w).alloc (Nat.le_refl _) _)
  have HX := Lib.hid hx
  have HE := Lib.hid hxe
  clear hx hxe
  go_enter Try.func29, Try.ntmps29
  go_wp2
  rw [← hw1, HE.out]
  clear hw1
  go_region
  obtain ⟨w2, hw2⟩ : ∃ w2, w2 = ((w1.setCell ⟨x, 1, none⟩ (.pointer (some ⟨x, 0, none⟩))).setCell ⟨x, 2, none⟩ (.pointer (some ⟨x, 0, none⟩))).drew := ⟨_, rfl⟩
  have hx2 : w2.heap[x]? = some (lk .nilIface 98 x x) := by rw [hw2]; exact setCell_block _ x 2 _ _ _ (setCell_block w1 x 1 _ _ _ HX.out)
  have hb2 : Below x w w2 := by rw [hw2]; exact ((HB.out.setCell (Nat.le_refl _) _).setCell (Nat.le_refl _) _).drew
  have H2 := Lib.hid hx2
  have HB2 := Lib.hid hb2
  rw [← hw2]
  clear hx2 hb2 hw2 f1 f2 c1 c2 HX HB
  go_wp2
  go_ret
  exact ⟨rfl, ⟨fun _ => x, fun _ => x, Lr.ring_new x rfl rfl, H2.out, fun n hn => by cases hn⟩, HB2.out⟩
theorem newListC (w : World) : Calls Try.prog 29 #[] w fun e w' => e = .returned (.pointer (some ⟨w.heap.size, 0, none⟩)) ∧ RA w' w.heap.size [] ∧ Below w.heap.size w w' := newListX w _ rfl

theorem lastC (r : Nat) (a : List Nd) (n : Nd) (w : World) (h : RA w r (a ++ [n])) : Calls Try.prog 36 #[.pointer (some ⟨r, 0, none⟩)] w (Same (.pointer (some ⟨n.b, 0, none⟩)) w) := by
  obtain ⟨aft, bef, h⟩ := h
  have hl : bef r = n.b := by
    have := h.ring
    rw [List.map_append] at this
    exact this.last
  have c1 := lk_c1 h.root
  rw [hl] at c1
  clear h hl
  go_enter Try.func36, Try.ntmps36
  go_wp2
  go_ret
  exact ⟨rfl, rfl⟩
theorem run_assert (p : Value) (w : World) : (Instr.typeAssert (.iface 74 p) 20 74 false).run Try.prog w = .ok p w := by
  simp [Instr.typeAssert, run_underlying Try.underlying74, Result.andThen]
theorem entryOfC (x ent p q : Nat) (w : World) (h : w.heap[x]? = some (lk (ifc ent) 96 p q)) : Calls Try.prog 31 #[.pointer (some ⟨x, 0, none⟩)] w (Same (.pointer (some ⟨ent, 0, none⟩)) w) := by
  have c0 := lk_c0 h
  unfold ifc at c0
  have hra := run_assert
  clear h
  go_enter Try.func31, Try.ntmps31
  go_wp2
  go_ret
  exact ⟨rfl, rfl⟩
end Go.Proofs.Ytmdpfinadffcaaa
