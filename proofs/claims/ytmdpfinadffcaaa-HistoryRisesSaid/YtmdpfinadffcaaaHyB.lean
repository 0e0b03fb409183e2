/-
  A history: Observe.
-/
import Derived.Test.YtmdpfinadffcaaaHyA
import Derived.Test.YtmdpfinadffcaaaHistE
import Derived.OrdersHeld
import Derived.Deep.RegionHeld
import Derived.Deep.Cut
namespace Go.Proofs.Ytmdpfinadffcaaa
open Go.RowKit
set_option linter.unusedVariables false

/-- the history in the course of a call -/
structure HyQ (B T P : Nat) (room : Int) (l : List Lr.E) (F0 : Nat → Prop) (w0 w : World) : Prop where
  t : w.heap[T]? = some (tabO P)
  s : TIs w B P room l F0
  n : ¬ F0 T
  z : B ≤ T
  b : Below w0.heap.size w0 w
theorem HyQ.next {B T P : Nat} {room : Int} {l : List Lr.E} {F0 : Nat → Prop} {w0 w w' : World} (h : HyQ B T P room l F0 w0 w) (hb : Below w.heap.size w w') : HyQ B T P room l F0 w0 w' :=
  ⟨(hb.block T (lt_block h.t)).trans h.t, h.s.keep (fun k hk => hb.block k (h.s.lt k hk).2), h.n, h.z, h.b.trans (hb.mono h.b.size)⟩
theorem HyQ.is {B T P : Nat} {room : Int} {l : List Lr.E} {F0 : Nat → Prop} {w0 w : World} (h : HyQ B T P room l F0 w0 w) : HIs w B T room l (fun k => k = T ∨ F0 k) := ⟨P, F0, h.t, h.s, h.n, h.z, fun k => Iff.rfl⟩
theorem HyQ.put {B T P : Nat} {room : Int} {l l' : List Lr.E} {F F0 : Nat → Prop} {w0 w w' : World} {r v : Value} {e : Ending} (h : HyQ B T P room l F0 w0 w) (hF : ∀ k, F k ↔ k = T ∨ F0 k) (hr : RetT r B P room l' F0 w e w') : w'.heap[T]? = some (tabO P) ∧ RetHy v B T room l' F w0 (.returned v) w' := by
  obtain ⟨F', g1, g2⟩ := hr.s
  have hT : w'.heap[T]? = some (tabO P) := hr.c.keep h.t h.n
  have hz := h.b.size
  have hl := lt_block h.t
  refine ⟨hT, rfl, ⟨fun k => k = T ∨ F' k, ⟨P, F', hT, g1, fun hf => ?_, h.z, fun k => Iff.rfl⟩, fun k hk => ?_⟩, (Chg.of_below (F := F) h.b).trans hr.c (fun k hk => Or.inl ((hF k).2 (Or.inr hk)))⟩
  · rcases g2 T hf with e | e
    · exact h.n e
    · omega
  · rcases hk with e | e
    · exact Or.inl ((hF k).2 (Or.inl e))
    · rcases g2 k e with e | e
      · exact Or.inl ((hF k).2 (Or.inr e))
      · exact Or.inr (by omega)

set_option maxRecDepth 100000 in
set_option maxHeartbeats 4000000 in
theorem observeC (B T : Nat) (room : Int) (l : List Lr.E) (F : Nat → Prop) (key : ByteArray) (t : Int) (w : World) (h : HIs w B T room l F) (hk : key.size ≤ 140737488351232) (ht0 : 0 ≤ t) (ht1 : t < 18446744073709551616) (hl : l.length ≤ 1000000) (hr : (l.length : Int) ≤ room) (hB : B ≤ w.heap.size) :
    Calls Try.prog 8 #[.pointer (some ⟨T, 0, none⟩), .string key, .int .u64 t] w (RetHy (.tuple #[]) B T room (Hy.obs room l key t) F w) := by
  obtain ⟨P, F0, h1, h2, h3, h4, h5⟩ := h
  have Q0 : HyQ B T P room l F0 w w.drew := HyQ.next ⟨h1, h2, h3, h4, Below.refl _ _⟩ (Below.refl _ _).drew
  have K1 := Lib.hid (fun W (q : HyQ B T P room l F0 w W) => histC B T room l _ key W q.is hk)
  have K2 := Lib.hid (fun W => addC (Hy.valOf l key).1 (Hy.valOf l key).2 t ht0 ht1 W)
  have K3 := Lib.hid (fun W (q : HyQ B T P room l F0 w W) => (putC B P room l F0 key (Hy.addV (Hy.valOf l key) t) W q.s hk hl hr (Nat.le_trans hB q.b.size)).mono (R' := fun e w' => e = .returned (goneV (Lr.put room l key (Hy.addV (Hy.valOf l key) t)).2) ∧ Hid (w'.heap[T]? = some (tabO P) ∧ RetHy (.tuple #[]) B T room (Hy.obs room l key t) F w (.returned (.tuple #[])) w')) fun e w' hr2 => ⟨hr2.r, Lib.hid (q.put h5 hr2)⟩)
  have HQ := Lib.hid Q0
  have hS := Q0.t
  clear h1 h2 h3 h4 h5 Q0 ht0 ht1
  have hadd : Hi.add (Hy.valOf l key).1 (Hi.bk t.toNat) = (Hy.addV (Hy.valOf l key) t).1 := rfl
  rw [hadd] at K2
  unfold goneV at K3
  clear hadd
  generalize Hy.addV (Hy.valOf l key) t = u at *
  generalize (Lr.put room l key u).2.getD .empty = gs at *
  generalize (Lr.put room l key u).2.isSome = gb at *
  generalize Hy.obs room l key t = l' at *
  generalize Hy.valOf l key = v at *
  go_enter Try.func8, Try.ntmps8
  go_upto_region 1 with fail
  refine wp_region_any (by kernel_rfl) ?_
  change wpAny _ _ _ _ _ _ _ (World.drew _)
  refine wpAny_of_held (S := fun W => W.heap[T]? = some (tabO P)) _ _ _ _ ?_
  refine takeH 0 8 ?_ rfl rfl (by kernel_rfl) (by kernel_rfl) (by kernel_rfl) (fun _ _ _ h => h) (Or.inl ⟨by kernel_rfl, ?_⟩) hS ?_; rotate_left; (intro w' hw; skip; first | (go_simp; done) | (go_simp; with_reducible rfl)); rotate_left
  try simp only [List.setIfInBounds_toArray, List.set_cons_zero, List.set_cons_succ]
  refine takeH 1 9 ?_ rfl rfl (by kernel_rfl) (by kernel_rfl) (by kernel_rfl) (fun _ _ _ h => h) (Or.inl ⟨by kernel_rfl, ?_⟩) hS ?_; rotate_left; (intro w' hw; skip; first | (go_simp; done) | (go_simp; with_reducible rfl)); rotate_left
  try simp only [List.setIfInBounds_toArray, List.set_cons_zero, List.set_cons_succ]
  refine takeH 2 10 ?_ rfl rfl (by kernel_rfl) (by kernel_rfl) (by kernel_rfl) (fun _ _ _ h => h) (Or.inl ⟨by kernel_rfl, ?_⟩) hS ?_; rotate_left; (intro w' hw; skip; first | (go_simp; done) | (go_simp; with_reducible rfl)); rotate_left
  try simp only [List.setIfInBounds_toArray, List.set_cons_zero, List.set_cons_succ]
  refine takeH 3 11 ?_ rfl rfl (by kernel_rfl) (by kernel_rfl) (by kernel_rfl) (fun _ _ _ h => h) (Or.inl ⟨by kernel_rfl, ?_⟩) hS ?_; rotate_left; (intro w' hw; have hc0 : w'.cell? ⟨T, 0, none⟩ = some (.pointer (some ⟨P, 0, none⟩)) := (by rw [cell_of_row _ _ _ _ _ _ hw]; rfl); first | (go_simp; done) | (go_simp; with_reducible rfl)); rotate_left
  try simp only [List.setIfInBounds_toArray, List.set_cons_zero, List.set_cons_succ]
  refine takeH 4 12 ?_ rfl rfl (by kernel_rfl) (by kernel_rfl) (by kernel_rfl) (fun _ _ _ h => h) (Or.inl ⟨by kernel_rfl, ?_⟩) hS ?_; rotate_left; (intro w' hw; skip; first | (go_simp; done) | (go_simp; with_reducible rfl)); rotate_left
  try simp only [List.setIfInBounds_toArray, List.set_cons_zero, List.set_cons_succ]
  refine takeH 5 13 ?_ rfl rfl (by kernel_rfl) (by kernel_rfl) (by kernel_rfl) (fun _ _ _ h => h) (Or.inl ⟨by kernel_rfl, ?_⟩) hS ?_; rotate_left; (intro w' hw; skip; first | (go_simp; done) | (go_simp; with_reducible rfl)); rotate_left
  try simp only [List.setIfInBounds_toArray, List.set_cons_zero, List.set_cons_succ]
  refine takeH 6 14 ?_ rfl rfl (by kernel_rfl) (by kernel_rfl) (by kernel_rfl) (fun _ _ _ h => h) (Or.inl ⟨by kernel_rfl, ?_⟩) hS ?_; rotate_left; (intro w' hw; skip; first | (go_simp; done) | (go_simp; with_reducible rfl)); rotate_left
  try simp only [List.setIfInBounds_toArray, List.set_cons_zero, List.set_cons_succ]
  refine takeH 8 16 ?_ rfl rfl (by kernel_rfl) (by kernel_rfl) (by kernel_rfl) (fun _ _ _ h => h) (Or.inl ⟨by kernel_rfl, ?_⟩) hS ?_; rotate_left; (intro w' hw; skip; first | (go_simp; done) | (go_simp; with_reducible rfl)); rotate_left
  try simp only [List.setIfInBounds_toArray, List.set_cons_zero, List.set_cons_succ]
  refine wpAnyH_ready (rs := [7]) (by kernel_rfl) (by simp) ?_; refine AllReadyH.cons rfl (fun K4 hK => ?_) AllReadyH.nil; go_simp; go_wp2_with (go_at_call 18; (with_reducible refine (K1.out _ HQ.out).mono ?_); rintro e wA ⟨rfl, hb⟩; replace HQ := Lib.hid (HQ.out.next hb); replace hS := HQ.out.t; clear hb); refine hK.out _ _ ?_ (fun _ => ?_); (exact hS); clear hK K4
  refine wpAnyH_ready (rs := [9]) (by kernel_rfl) (by simp) ?_; refine AllReadyH.cons rfl (fun K4 hK => ?_) AllReadyH.nil; go_simp; go_wp2_with (go_at_call 17; (with_reducible refine (K2.out _).mono ?_); rintro e wB ⟨rfl, hb⟩; replace HQ := Lib.hid (HQ.out.next hb); replace hS := HQ.out.t; clear hb); refine hK.out _ _ ?_ (fun _ => ?_); (exact hS); clear hK K4
  refine wpAnyH_ready (rs := [10]) (by kernel_rfl) (by simp) ?_; refine AllReadyH.cons rfl (fun K4 hK => ?_) AllReadyH.nil; go_simp; go_wp2_with (go_at_call 16; (with_reducible refine (K3.out _ HQ.out).mono ?_); rintro e wC ⟨rfl, hC⟩; replace hS := hC.out.1); refine hK.out _ _ ?_ (fun _ => ?_); (exact hS); clear hK K4
  refine wpAnyH_done (by kernel_rfl) ?_ _
  go_end0
  exact hC.out.2
end Go.Proofs.Ytmdpfinadffcaaa
