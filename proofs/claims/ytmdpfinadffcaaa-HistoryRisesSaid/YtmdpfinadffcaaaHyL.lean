/-
  A history beside the document's: they tell the same.
-/
import Derived.Test.YtmdpfinadffcaaaHyK
namespace Go.Proofs.Ytmdpfinadffcaaa
open Go.RowKit
set_option linter.unusedVariables false

abbrev askO (key : ByteArray) (la : Option Addr) (ln lcap : Nat) (p : Int) : Obj := .cells #[.string key, .slice la ln lcap, .int .i64 p] 25
/-- in the course of 'same': the boxes of the document's history and of what is asked, the history, the document's rows, the limits -/
structure SmQ (B T : Nat) (room : Int) (l R : List Lr.E) (F : Nat → Prop) (droom : Int) (da : Option Addr) (dcap : Nat) (key : ByteArray) (la : Option Addr) (ln lcap : Nat) (p : Int) (L : Nat → Int) (w W : World) : Prop where
  d : W.heap[w.heap.size]? = some (tO droom (.slice da R.length dcap))
  q : W.heap[w.heap.size + 1]? = some (askO key la ln lcap p)
  h : HIs W B T room l F
  r : RowsAt W da R
  l : LimW W la ln L
  b : Below w.heap.size w W
section
variable {B T : Nat} {room : Int} {l R : List Lr.E} {F : Nat → Prop} {droom : Int} {da : Option Addr} {dcap : Nat} {key : ByteArray} {la : Option Addr} {ln lcap : Nat} {p : Int} {L : Nat → Int} {w W W' : World}
theorem SmQ.next (s : SmQ B T room l R F droom da dcap key la ln lcap p L w W) (hb : Below W.heap.size W W') : SmQ B T room l R F droom da dcap key la ln lcap p L w W' :=
  ⟨(hb.block _ (lt_block s.d)).trans s.d, (hb.block _ (lt_block s.q)).trans s.q, s.h.below hb, s.r.below hb, s.l.below hb, s.b.trans (hb.mono s.b.size)⟩
theorem SmQ.drew (s : SmQ B T room l R F droom da dcap key la ln lcap p L w W) : SmQ B T room l R F droom da dcap key la ln lcap p L w W.drew := s.next (Below.refl _ _).drew
theorem SmQ.cells (s : SmQ B T room l R F droom da dcap key la ln lcap p L w W) : W.cell? ⟨w.heap.size, 0, none⟩ = some (.int .i64 droom) ∧ W.cell? ⟨w.heap.size, 1, none⟩ = some (.slice da R.length dcap) ∧ W.cell? ⟨w.heap.size + 1, 0, none⟩ = some (.string key) ∧ W.cell? ⟨w.heap.size + 1, 1, none⟩ = some (.slice la ln lcap) ∧ W.cell? ⟨w.heap.size + 1, 2, none⟩ = some (.int .i64 p) :=
  ⟨by rw [cell_of_row _ _ _ _ _ _ s.d]; rfl, by rw [cell_of_row _ _ _ _ _ _ s.d]; rfl, by rw [cell_of_row _ _ _ _ _ _ s.q]; rfl, by rw [cell_of_row _ _ _ _ _ _ s.q]; rfl, by rw [cell_of_row _ _ _ _ _ _ s.q]; rfl⟩
end

set_option maxRecDepth 100000 in
set_option maxHeartbeats 8000000 in
theorem sameC (B T : Nat) (room : Int) (l R : List Lr.E) (F : Nat → Prop) (droom : Int) (da : Option Addr) (dcap : Nat) (key : ByteArray) (la : Option Addr) (ln lcap : Nat) (p : Int) (L : Nat → Int) (w : World) (hRl : R = l.reverse) (hl : l.length ≤ 100000) (hn : ln ≤ 1000) (hk : key.size ≤ 140737488351232)
    (h : HIs w B T room l F) (hr : RowsAt w da R) (hL : LimW w la ln L) :
    Calls Try.prog 10 #[.pointer (some ⟨T, 0, none⟩), .agg #[.int .i64 droom, .slice da R.length dcap], .agg #[.string key, .slice la ln lcap, .int .i64 p]] w (Ret (.bool true) w) := by
  have hg := h.good
  have hln : R.length ≤ 100000 := by rw [hRl]; simpa using hl
  have hvr : Hy.valOf R key = Hy.valOf l key := by rw [hRl]; exact Hy.valOf_reverse hg key
  obtain ⟨x, ok, c, ht⟩ := Hy.told_ex (Hy.valOf l key) p L ln
  have ht2 : Hy.Told (Hy.valOf R key).1 p L ln x ok c := by rw [hvr]; exact ht
  have hbx : Below w.heap.size w ((w.alloc (tO droom (.slice da R.length dcap))).alloc (askO key la ln lcap p)) := ((Below.refl _ _).alloc (Nat.le_refl _) _).alloc (by simp) _
  have Q0 : Hid (SmQ B T room l R F droom da dcap key la ln lcap p L w ((w.alloc (tO droom (.slice da R.length dcap))).alloc (askO key la ln lcap p))) := Lib.hid ⟨(Lib.alloc_old _ _ _ (by simp)).trans (heap_alloc_new w _), by
    have := heap_alloc_new (w.alloc (tO droom (.slice da R.length dcap))) (askO key la ln lcap p)
    rwa [alloc_size] at this, h.below hbx, hr.below hbx, hL.below hbx, hbx⟩
  have K1 := Lib.hid (fun W (s : SmQ B T room l R F droom da dcap key la ln lcap p L w W) => (estC B T room l F key p L ln x ok c W s.h hk ht).mono (R' := fun e w' => e = .returned (.tuple #[.int .u64 x, .bool ok]) ∧ SmQ B T room l R F droom da dcap key la ln lcap p L w w') fun e w' hr => ⟨hr.e, s.next hr.b⟩)
  have K2 := Lib.hid (fun W (s : SmQ B T room l R F droom da dcap key la ln lcap p L w W) => (refHistC droom key da dcap R W (by omega) s.r).mono (R' := fun e w' => e = .returned (.agg (Hi.cells (Hy.valOf R key).1)) ∧ SmQ B T room l R F droom da dcap key la ln lcap p L w w') fun e w' hr => ⟨hr.e, s.next hr.b⟩)
  have K3 := Lib.hid (fun W (s : SmQ B T room l R F droom da dcap key la ln lcap p L w W) => (refOfC (Hy.valOf R key) p L ln x ok c ht2 W).mono (R' := fun e w' => e = .returned (.tuple #[.int .u64 x, .bool ok]) ∧ SmQ B T room l R F droom da dcap key la ln lcap p L w w') fun e w' hr => ⟨hr.e, s.next hr.b⟩)
  have K4 := Lib.hid (fun W (s : SmQ B T room l R F droom da dcap key la ln lcap p L w W) => (histC B T room l F key W s.h hk).mono (R' := fun e w' => e = .returned (.agg (Hi.cells (Hy.valOf l key).1)) ∧ SmQ B T room l R F droom da dcap key la ln lcap p L w w') fun e w' hr => ⟨hr.e, s.next hr.b⟩)
  have K5 := Lib.hid (fun W (s : SmQ B T room l R F droom da dcap key la ln lcap p L w W) => (classC B T room l F key la ln lcap p L x ok c W s.h hk s.l (by omega) ht).mono (R' := fun e w' => e = .returned (.int .i64 (c : Int)) ∧ SmQ B T room l R F droom da dcap key la ln lcap p L w w') fun e w' hr => ⟨hr.e, s.next hr.b⟩)
  have K6 := Lib.hid (fun W (s : SmQ B T room l R F droom da dcap key la ln lcap p L w W) => (refClassC droom key da dcap R la ln lcap p L x ok c W (by omega) s.r s.l (by omega) ht2).mono (R' := fun e w' => e = .returned (.int .i64 (c : Int)) ∧ SmQ B T room l R F droom da dcap key la ln lcap p L w w') fun e w' hr => ⟨hr.e, s.next hr.b⟩)
  have K7 := Lib.hid (fun W (s : SmQ B T room l R F droom da dcap key la ln lcap p L w W) => (rowsC B T room l F W s.h (by omega)).mono (R' := fun e w' => ∃ a7 c7, e = .returned (.slice a7 R.length c7) ∧ Hid (RowsAt w' a7 R) ∧ SmQ B T room l R F droom da dcap key la ln lcap p L w w') fun e w' hr => by
    obtain ⟨v, rfl, hrow⟩ := hr.r
    rw [← hRl] at hrow
    obtain ⟨a7, c7, rfl⟩ := hrow.slice
    exact ⟨a7, c7, rfl, Lib.hid (row_flatR hrow).1, s.next hr.b⟩)
  have K8 := Lib.hid (fun a7 c7 W (s : SmQ B T room l R F droom da dcap key la ln lcap p L w W) (h7 : RowsAt W a7 R) => (refSameC a7 da c7 dcap R W (by omega) h7 s.r).mono (R' := fun e w' => e = .returned (.bool true) ∧ SmQ B T room l R F droom da dcap key la ln lcap p L w w') fun e w' hr => ⟨hr.e, s.next hr.b⟩)
  have heq := fun W => run_eqV (Hy.valOf l key) (Hy.valOf l key) W
  simp only [decide_true] at heq
  rw [hvr] at K2 K3
  clear h hr hL hg hvr ht ht2 hbx hRl
  generalize Hy.valOf l key = u at *
  go_enter Try.func10, Try.ntmps10
  go_upto_region 2 with (go_at_call 14; (with_reducible refine (K1.out _ Q0.out).mono ?_); rintro e wE ⟨rfl, hT⟩; have Q1 := Lib.hid hT; clear hT)
  refine wp_region_any (by kernel_rfl) ?_
  change wpAny _ _ _ _ _ _ _ (World.drew _)
  refine wpAny_of_held (S := SmQ B T room l R F droom da dcap key la ln lcap p L w) _ _ _ _ ?_
  have hS := Q1.out.drew
  refine takeH 0 21 ?_ rfl rfl (by kernel_rfl) (by kernel_rfl) (by kernel_rfl) (fun _ _ _ h => h) (Or.inl ⟨by kernel_rfl, ?_⟩) hS ?_; rotate_left; (intro w' hw; obtain ⟨z0, z1, z2, z3, z4⟩ := hw.cells; first | (go_simp; done) | (go_simp; with_reducible rfl)); rotate_left
  try simp only [List.setIfInBounds_toArray, List.set_cons_zero, List.set_cons_succ]
  refine takeH 1 22 ?_ rfl rfl (by kernel_rfl) (by kernel_rfl) (by kernel_rfl) (fun _ _ _ h => h) (Or.inl ⟨by kernel_rfl, ?_⟩) hS ?_; rotate_left; (intro w' hw; first | (go_simp; done) | (go_simp; with_reducible rfl)); rotate_left
  try simp only [List.setIfInBounds_toArray, List.set_cons_zero, List.set_cons_succ]
  refine takeH 2 23 ?_ rfl rfl (by kernel_rfl) (by kernel_rfl) (by kernel_rfl) (fun _ _ _ h => h) (Or.inl ⟨by kernel_rfl, ?_⟩) hS ?_; rotate_left; (intro w' hw; obtain ⟨z0, z1, z2, z3, z4⟩ := hw.cells; first | (go_simp; done) | (go_simp; with_reducible rfl)); rotate_left
  try simp only [List.setIfInBounds_toArray, List.set_cons_zero, List.set_cons_succ]
  refine takeH 4 25 ?_ rfl rfl (by kernel_rfl) (by kernel_rfl) (by kernel_rfl) (fun _ _ _ h => h) (Or.inl ⟨by kernel_rfl, ?_⟩) hS ?_; rotate_left; (intro w' hw; first | (go_simp; done) | (go_simp; with_reducible rfl)); rotate_left
  try simp only [List.setIfInBounds_toArray, List.set_cons_zero, List.set_cons_succ]
  refine takeH 5 26 ?_ rfl rfl (by kernel_rfl) (by kernel_rfl) (by kernel_rfl) (fun _ _ _ h => h) (Or.inl ⟨by kernel_rfl, ?_⟩) hS ?_; rotate_left; (intro w' hw; obtain ⟨z0, z1, z2, z3, z4⟩ := hw.cells; first | (go_simp; done) | (go_simp; with_reducible rfl)); rotate_left
  try simp only [List.setIfInBounds_toArray, List.set_cons_zero, List.set_cons_succ]
  refine wpAnyH_ready (rs := [3]) (by kernel_rfl) (by simp) ?_; refine AllReadyH.cons rfl (fun K9 hK => ?_) AllReadyH.nil; go_simp; go_wp2_with (go_at_call 20; (with_reducible refine (K2.out _ hS).mono ?_); rintro e wN ⟨rfl, hT⟩; replace hS := hT; clear hT); refine hK.out _ _ ?_ (fun _ => ?_); (exact hS); clear hK K9
  refine wpAnyH_ready (rs := [6]) (by kernel_rfl) (by simp) ?_; refine AllReadyH.cons rfl (fun K9 hK => ?_) AllReadyH.nil; go_simp; go_wp2_with (go_at_call 21; (with_reducible refine (K3.out _ hS).mono ?_); rintro e wN ⟨rfl, hT⟩; replace hS := hT; clear hT); refine hK.out _ _ ?_ (fun _ => ?_); (exact hS); clear hK K9
  refine takeH 7 20 ?_ rfl rfl (by kernel_rfl) (by kernel_rfl) (by kernel_rfl) (fun _ _ _ h => h) (Or.inl ⟨by kernel_rfl, ?_⟩) hS ?_; rotate_left; (intro w' hw; first | (go_simp; done) | (go_simp; with_reducible rfl)); rotate_left
  try simp only [List.setIfInBounds_toArray, List.set_cons_zero, List.set_cons_succ]
  refine takeH 8 28 ?_ rfl rfl (by kernel_rfl) (by kernel_rfl) (by kernel_rfl) (fun _ _ _ h => h) (Or.inl ⟨by kernel_rfl, ?_⟩) hS ?_; rotate_left; (intro w' hw; first | (go_simp; done) | (go_simp; with_reducible rfl)); rotate_left
  try simp only [List.setIfInBounds_toArray, List.set_cons_zero, List.set_cons_succ]
  refine takeH 9 29 ?_ rfl rfl (by kernel_rfl) (by kernel_rfl) (by kernel_rfl) (fun _ _ _ h => h) (Or.inl ⟨by kernel_rfl, ?_⟩) hS ?_; rotate_left; (intro w' hw; first | (go_simp; done) | (go_simp; with_reducible rfl)); rotate_left
  try simp only [List.setIfInBounds_toArray, List.set_cons_zero, List.set_cons_succ]
  refine takeH 10 9 ?_ rfl rfl (by kernel_rfl) (by kernel_rfl) (by kernel_rfl) (fun _ _ _ h => h) (Or.inl ⟨by kernel_rfl, ?_⟩) hS ?_; rotate_left; (intro w' hw; first | (go_simp; done) | (go_simp; with_reducible rfl)); rotate_left
  try simp only [List.setIfInBounds_toArray, List.set_cons_zero, List.set_cons_succ]
  refine takeH 11 10 ?_ rfl rfl (by kernel_rfl) (by kernel_rfl) (by kernel_rfl) (fun _ _ _ h => h) (Or.inl ⟨by kernel_rfl, ?_⟩) hS ?_; rotate_left; (intro w' hw; first | (go_simp; done) | (go_simp; with_reducible rfl)); rotate_left
  try simp only [List.setIfInBounds_toArray, List.set_cons_zero, List.set_cons_succ]
  refine wpAnyH_done (by kernel_rfl) ?_ _
  replace Q1 := Lib.hid hS
  clear hS
  go_upto_region 3 with fail
  refine wp_region_any (by kernel_rfl) ?_
  change wpAny _ _ _ _ _ _ _ (World.drew _)
  refine wpAny_of_held (S := SmQ B T room l R F droom da dcap key la ln lcap p L w) _ _ _ _ ?_
  have hS := Q1.out.drew
  refine takeH 0 30 ?_ rfl rfl (by kernel_rfl) (by kernel_rfl) (by kernel_rfl) (fun _ _ _ h => h) (Or.inl ⟨by kernel_rfl, ?_⟩) hS ?_; rotate_left; (intro w' hw; first | (go_simp; done) | (go_simp; with_reducible rfl)); rotate_left
  try simp only [List.setIfInBounds_toArray, List.set_cons_zero, List.set_cons_succ]
  refine takeH 1 31 ?_ rfl rfl (by kernel_rfl) (by kernel_rfl) (by kernel_rfl) (fun _ _ _ h => h) (Or.inl ⟨by kernel_rfl, ?_⟩) hS ?_; rotate_left; (intro w' hw; first | (go_simp; done) | (go_simp; with_reducible rfl)); rotate_left
  try simp only [List.setIfInBounds_toArray, List.set_cons_zero, List.set_cons_succ]
  refine takeH 2 32 ?_ rfl rfl (by kernel_rfl) (by kernel_rfl) (by kernel_rfl) (fun _ _ _ h => h) (Or.inl ⟨by kernel_rfl, ?_⟩) hS ?_; rotate_left; (intro w' hw; first | (go_simp; done) | (go_simp; with_reducible rfl)); rotate_left
  try simp only [List.setIfInBounds_toArray, List.set_cons_zero, List.set_cons_succ]
  refine takeH 3 33 ?_ rfl rfl (by kernel_rfl) (by kernel_rfl) (by kernel_rfl) (fun _ _ _ h => h) (Or.inl ⟨by kernel_rfl, ?_⟩) hS ?_; rotate_left; (intro w' hw; first | (go_simp; done) | (go_simp; with_reducible rfl)); rotate_left
  try simp only [List.setIfInBounds_toArray, List.set_cons_zero, List.set_cons_succ]
  refine takeH 4 34 ?_ rfl rfl (by kernel_rfl) (by kernel_rfl) (by kernel_rfl) (fun _ _ _ h => h) (Or.inl ⟨by kernel_rfl, ?_⟩) hS ?_; rotate_left; (intro w' hw; first | (go_simp; done) | (go_simp; with_reducible rfl)); rotate_left
  try simp only [List.setIfInBounds_toArray, List.set_cons_zero, List.set_cons_succ]
  refine takeH 5 35 ?_ rfl rfl (by kernel_rfl) (by kernel_rfl) (by kernel_rfl) (fun _ _ _ h => h) (Or.inl ⟨by kernel_rfl, ?_⟩) hS ?_; rotate_left; (intro w' hw; first | (go_simp; done) | (go_simp; with_reducible rfl)); rotate_left
  try simp only [List.setIfInBounds_toArray, List.set_cons_zero, List.set_cons_succ]
  refine takeH 6 36 ?_ rfl rfl (by kernel_rfl) (by kernel_rfl) (by kernel_rfl) (fun _ _ _ h => h) (Or.inl ⟨by kernel_rfl, ?_⟩) hS ?_; rotate_left; (intro w' hw; first | (go_simp; done) | (go_simp; with_reducible rfl)); rotate_left
  try simp only [List.setIfInBounds_toArray, List.set_cons_zero, List.set_cons_succ]
  refine takeH 7 37 ?_ rfl rfl (by kernel_rfl) (by kernel_rfl) (by kernel_rfl) (fun _ _ _ h => h) (Or.inl ⟨by kernel_rfl, ?_⟩) hS ?_; rotate_left; (intro w' hw; first | (go_simp; done) | (go_simp; with_reducible rfl)); rotate_left
  try simp only [List.setIfInBounds_toArray, List.set_cons_zero, List.set_cons_succ]
  refine takeH 8 38 ?_ rfl rfl (by kernel_rfl) (by kernel_rfl) (by kernel_rfl) (fun _ _ _ h => h) (Or.inl ⟨by kernel_rfl, ?_⟩) hS ?_; rotate_left; (intro w' hw; first | (go_simp; done) | (go_simp; with_reducible rfl)); rotate_left
  try simp only [List.setIfInBounds_toArray, List.set_cons_zero, List.set_cons_succ]
  refine takeH 9 39 ?_ rfl rfl (by kernel_rfl) (by kernel_rfl) (by kernel_rfl) (fun _ _ _ h => h) (Or.inl ⟨by kernel_rfl, ?_⟩) hS ?_; rotate_left; (intro w' hw; first | (go_simp; done) | (go_simp; with_reducible rfl)); rotate_left
  try simp only [List.setIfInBounds_toArray, List.set_cons_zero, List.set_cons_succ]
  refine takeH 10 40 ?_ rfl rfl (by kernel_rfl) (by kernel_rfl) (by kernel_rfl) (fun _ _ _ h => h) (Or.inl ⟨by kernel_rfl, ?_⟩) hS ?_; rotate_left; (intro w' hw; first | (go_simp; done) | (go_simp; with_reducible rfl)); rotate_left
  try simp only [List.setIfInBounds_toArray, List.set_cons_zero, List.set_cons_succ]
  refine takeH 11 41 ?_ rfl rfl (by kernel_rfl) (by kernel_rfl) (by kernel_rfl) (fun _ _ _ h => h) (Or.inl ⟨by kernel_rfl, ?_⟩) hS ?_; rotate_left; (intro w' hw; obtain ⟨z0, z1, z2, z3, z4⟩ := hw.cells; first | (go_simp; done) | (go_simp; with_reducible rfl)); rotate_left
  try simp only [List.setIfInBounds_toArray, List.set_cons_zero, List.set_cons_succ]
  refine takeH 13 43 ?_ rfl rfl (by kernel_rfl) (by kernel_rfl) (by kernel_rfl) (fun _ _ _ h => h) (Or.inl ⟨by kernel_rfl, ?_⟩) hS ?_; rotate_left; (intro w' hw; obtain ⟨z0, z1, z2, z3, z4⟩ := hw.cells; first | (go_simp; done) | (go_simp; with_reducible rfl)); rotate_left
  try simp only [List.setIfInBounds_toArray, List.set_cons_zero, List.set_cons_succ]
  refine takeH 14 44 ?_ rfl rfl (by kernel_rfl) (by kernel_rfl) (by kernel_rfl) (fun _ _ _ h => h) (Or.inl ⟨by kernel_rfl, ?_⟩) hS ?_; rotate_left; (intro w' hw; first | (go_simp; done) | (go_simp; with_reducible rfl)); rotate_left
  try simp only [List.setIfInBounds_toArray, List.set_cons_zero, List.set_cons_succ]
  refine takeH 15 45 ?_ rfl rfl (by kernel_rfl) (by kernel_rfl) (by kernel_rfl) (fun _ _ _ h => h) (Or.inl ⟨by kernel_rfl, ?_⟩) hS ?_; rotate_left; (intro w' hw; obtain ⟨z0, z1, z2, z3, z4⟩ := hw.cells; first | (go_simp; done) | (go_simp; with_reducible rfl)); rotate_left
  try simp only [List.setIfInBounds_toArray, List.set_cons_zero, List.set_cons_succ]
  refine wpAnyH_ready (rs := [12]) (by kernel_rfl) (by simp) ?_; refine AllReadyH.cons rfl (fun K9 hK => ?_) AllReadyH.nil; go_simp; go_wp2_with (go_at_call 18; (with_reducible refine (K4.out _ hS).mono ?_); rintro e wN ⟨rfl, hT⟩; replace hS := hT; clear hT); refine hK.out _ _ ?_ (fun _ => ?_); (exact hS); clear hK K9
  refine wpAnyH_ready (rs := [16]) (by kernel_rfl) (by simp) ?_; refine AllReadyH.cons rfl (fun K9 hK => ?_) AllReadyH.nil; go_simp; go_wp2_with (go_at_call 20; (with_reducible refine (K2.out _ hS).mono ?_); rintro e wN ⟨rfl, hT⟩; replace hS := hT; clear hT); refine hK.out _ _ ?_ (fun _ => ?_); (exact hS); clear hK K9
  refine takeH 17 47 ?_ rfl rfl (by kernel_rfl) (by kernel_rfl) (by kernel_rfl) (fun _ _ _ h => h) (Or.inl ⟨by kernel_rfl, ?_⟩) hS ?_; rotate_left; (intro w' hw; first | (go_simp; done) | (go_simp; with_reducible rfl)); rotate_left
  try simp only [List.setIfInBounds_toArray, List.set_cons_zero, List.set_cons_succ]
  refine takeH 18 48 ?_ rfl rfl (by kernel_rfl) (by kernel_rfl) (by kernel_rfl) (fun _ _ _ h => h) (Or.inl ⟨by kernel_rfl, ?_⟩) hS ?_; rotate_left; (intro w' hw; first | (go_simp; done) | (go_simp; with_reducible rfl)); rotate_left
  try simp only [List.setIfInBounds_toArray, List.set_cons_zero, List.set_cons_succ]
  refine takeH 19 49 ?_ rfl rfl (by kernel_rfl) (by kernel_rfl) (by kernel_rfl) (fun _ _ _ h => h) (Or.inl ⟨by kernel_rfl, ?_⟩) hS ?_; rotate_left; (intro w' hw; first | (go_simp; done) | (go_simp; with_reducible rfl)); rotate_left
  try simp only [List.setIfInBounds_toArray, List.set_cons_zero, List.set_cons_succ]
  refine takeH 20 50 ?_ rfl rfl (by kernel_rfl) (by kernel_rfl) (by kernel_rfl) (fun _ _ _ h => h) (Or.inl ⟨by kernel_rfl, ?_⟩) hS ?_; rotate_left; (intro w' hw; first | (go_simp; done) | (go_simp; with_reducible rfl)); rotate_left
  try simp only [List.setIfInBounds_toArray, List.set_cons_zero, List.set_cons_succ]
  refine takeH 21 51 ?_ rfl rfl (by kernel_rfl) (by kernel_rfl) (by kernel_rfl) (fun _ _ _ h => h) (Or.inl ⟨by kernel_rfl, ?_⟩) hS ?_; rotate_left; (intro w' hw; first | (go_simp; done) | (go_simp; with_reducible rfl)); rotate_left
  try simp only [List.setIfInBounds_toArray, List.set_cons_zero, List.set_cons_succ]
  refine takeH 22 52 ?_ rfl rfl (by kernel_rfl) (by kernel_rfl) (by kernel_rfl) (fun _ _ _ h => h) (Or.inl ⟨by kernel_rfl, ?_⟩) hS ?_; rotate_left; (intro w' hw; obtain ⟨z0, z1, z2, z3, z4⟩ := hw.cells; first | (go_simp; done) | (go_simp; with_reducible rfl)); rotate_left
  try simp only [List.setIfInBounds_toArray, List.set_cons_zero, List.set_cons_succ]
  refine takeH 23 53 ?_ rfl rfl (by kernel_rfl) (by kernel_rfl) (by kernel_rfl) (fun _ _ _ h => h) (Or.inl ⟨by kernel_rfl, ?_⟩) hS ?_; rotate_left; (intro w' hw; first | (go_simp; done) | (go_simp; with_reducible rfl)); rotate_left
  try simp only [List.setIfInBounds_toArray, List.set_cons_zero, List.set_cons_succ]
  refine takeH 24 54 ?_ rfl rfl (by kernel_rfl) (by kernel_rfl) (by kernel_rfl) (fun _ _ _ h => h) (Or.inl ⟨by kernel_rfl, ?_⟩) hS ?_; rotate_left; (intro w' hw; obtain ⟨z0, z1, z2, z3, z4⟩ := hw.cells; first | (go_simp; done) | (go_simp; with_reducible rfl)); rotate_left
  try simp only [List.setIfInBounds_toArray, List.set_cons_zero, List.set_cons_succ]
  refine takeH 25 55 ?_ rfl rfl (by kernel_rfl) (by kernel_rfl) (by kernel_rfl) (fun _ _ _ h => h) (Or.inl ⟨by kernel_rfl, ?_⟩) hS ?_; rotate_left; (intro w' hw; first | (go_simp; done) | (go_simp; with_reducible rfl)); rotate_left
  try simp only [List.setIfInBounds_toArray, List.set_cons_zero, List.set_cons_succ]
  refine takeH 26 56 ?_ rfl rfl (by kernel_rfl) (by kernel_rfl) (by kernel_rfl) (fun _ _ _ h => h) (Or.inl ⟨by kernel_rfl, ?_⟩) hS ?_; rotate_left; (intro w' hw; obtain ⟨z0, z1, z2, z3, z4⟩ := hw.cells; first | (go_simp; done) | (go_simp; with_reducible rfl)); rotate_left
  try simp only [List.setIfInBounds_toArray, List.set_cons_zero, List.set_cons_succ]
  refine takeH 28 58 ?_ rfl rfl (by kernel_rfl) (by kernel_rfl) (by kernel_rfl) (fun _ _ _ h => h) (Or.inl ⟨by kernel_rfl, ?_⟩) hS ?_; rotate_left; (intro w' hw; obtain ⟨z0, z1, z2, z3, z4⟩ := hw.cells; first | (go_simp; done) | (go_simp; with_reducible rfl)); rotate_left
  try simp only [List.setIfInBounds_toArray, List.set_cons_zero, List.set_cons_succ]
  refine takeH 29 59 ?_ rfl rfl (by kernel_rfl) (by kernel_rfl) (by kernel_rfl) (fun _ _ _ h => h) (Or.inl ⟨by kernel_rfl, ?_⟩) hS ?_; rotate_left; (intro w' hw; first | (go_simp; done) | (go_simp; with_reducible rfl)); rotate_left
  try simp only [List.setIfInBounds_toArray, List.set_cons_zero, List.set_cons_succ]
  refine takeH 30 60 ?_ rfl rfl (by kernel_rfl) (by kernel_rfl) (by kernel_rfl) (fun _ _ _ h => h) (Or.inl ⟨by kernel_rfl, ?_⟩) hS ?_; rotate_left; (intro w' hw; obtain ⟨z0, z1, z2, z3, z4⟩ := hw.cells; first | (go_simp; done) | (go_simp; with_reducible rfl)); rotate_left
  try simp only [List.setIfInBounds_toArray, List.set_cons_zero, List.set_cons_succ]
  refine takeH 31 61 ?_ rfl rfl (by kernel_rfl) (by kernel_rfl) (by kernel_rfl) (fun _ _ _ h => h) (Or.inl ⟨by kernel_rfl, ?_⟩) hS ?_; rotate_left; (intro w' hw; first | (go_simp; done) | (go_simp; with_reducible rfl)); rotate_left
  try simp only [List.setIfInBounds_toArray, List.set_cons_zero, List.set_cons_succ]
  refine takeH 32 62 ?_ rfl rfl (by kernel_rfl) (by kernel_rfl) (by kernel_rfl) (fun _ _ _ h => h) (Or.inl ⟨by kernel_rfl, ?_⟩) hS ?_; rotate_left; (intro w' hw; obtain ⟨z0, z1, z2, z3, z4⟩ := hw.cells; first | (go_simp; done) | (go_simp; with_reducible rfl)); rotate_left
  try simp only [List.setIfInBounds_toArray, List.set_cons_zero, List.set_cons_succ]
  refine takeH 33 63 ?_ rfl rfl (by kernel_rfl) (by kernel_rfl) (by kernel_rfl) (fun _ _ _ h => h) (Or.inl ⟨by kernel_rfl, ?_⟩) hS ?_; rotate_left; (intro w' hw; first | (go_simp; done) | (go_simp; with_reducible rfl)); rotate_left
  try simp only [List.setIfInBounds_toArray, List.set_cons_zero, List.set_cons_succ]
  refine takeH 34 64 ?_ rfl rfl (by kernel_rfl) (by kernel_rfl) (by kernel_rfl) (fun _ _ _ h => h) (Or.inl ⟨by kernel_rfl, ?_⟩) hS ?_; rotate_left; (intro w' hw; obtain ⟨z0, z1, z2, z3, z4⟩ := hw.cells; first | (go_simp; done) | (go_simp; with_reducible rfl)); rotate_left
  try simp only [List.setIfInBounds_toArray, List.set_cons_zero, List.set_cons_succ]
  refine wpAnyH_ready (rs := [27]) (by kernel_rfl) (by simp) ?_; refine AllReadyH.cons rfl (fun K9 hK => ?_) AllReadyH.nil; go_simp; go_wp2_with (go_at_call 13; (with_reducible refine (K5.out _ hS).mono ?_); rintro e wN ⟨rfl, hT⟩; replace hS := hT; clear hT); refine hK.out _ _ ?_ (fun _ => ?_); (exact hS); clear hK K9
  refine wpAnyH_ready (rs := [35]) (by kernel_rfl) (by simp) ?_; refine AllReadyH.cons rfl (fun K9 hK => ?_) AllReadyH.nil; go_simp; go_wp2_with (go_at_call 22; (with_reducible refine (K6.out _ hS).mono ?_); rintro e wN ⟨rfl, hT⟩; replace hS := hT; clear hT); refine hK.out _ _ ?_ (fun _ => ?_); (exact hS); clear hK K9
  refine takeH 36 66 ?_ rfl rfl (by kernel_rfl) (by kernel_rfl) (by kernel_rfl) (fun _ _ _ h => h) (Or.inl ⟨by kernel_rfl, ?_⟩) hS ?_; rotate_left; (intro w' hw; first | (go_simp; done) | (go_simp; with_reducible rfl)); rotate_left
  try simp only [List.setIfInBounds_toArray, List.set_cons_zero, List.set_cons_succ]
  refine takeH 37 67 ?_ rfl rfl (by kernel_rfl) (by kernel_rfl) (by kernel_rfl) (fun _ _ _ h => h) (Or.inl ⟨by kernel_rfl, ?_⟩) hS ?_; rotate_left; (intro w' hw; first | (go_simp; done) | (go_simp; with_reducible rfl)); rotate_left
  try simp only [List.setIfInBounds_toArray, List.set_cons_zero, List.set_cons_succ]
  refine takeH 38 68 ?_ rfl rfl (by kernel_rfl) (by kernel_rfl) (by kernel_rfl) (fun _ _ _ h => h) (Or.inl ⟨by kernel_rfl, ?_⟩) hS ?_; rotate_left; (intro w' hw; first | (go_simp; done) | (go_simp; with_reducible rfl)); rotate_left
  try simp only [List.setIfInBounds_toArray, List.set_cons_zero, List.set_cons_succ]
  refine takeH 39 69 ?_ rfl rfl (by kernel_rfl) (by kernel_rfl) (by kernel_rfl) (fun _ _ _ h => h) (Or.inl ⟨by kernel_rfl, ?_⟩) hS ?_; rotate_left; (intro w' hw; first | (go_simp; done) | (go_simp; with_reducible rfl)); rotate_left
  try simp only [List.setIfInBounds_toArray, List.set_cons_zero, List.set_cons_succ]
  refine takeH 41 71 ?_ rfl rfl (by kernel_rfl) (by kernel_rfl) (by kernel_rfl) (fun _ _ _ h => h) (Or.inl ⟨by kernel_rfl, ?_⟩) hS ?_; rotate_left; (intro w' hw; first | (go_simp; done) | (go_simp; with_reducible rfl)); rotate_left
  try simp only [List.setIfInBounds_toArray, List.set_cons_zero, List.set_cons_succ]
  refine takeH 42 72 ?_ rfl rfl (by kernel_rfl) (by kernel_rfl) (by kernel_rfl) (fun _ _ _ h => h) (Or.inl ⟨by kernel_rfl, ?_⟩) hS ?_; rotate_left; (intro w' hw; obtain ⟨z0, z1, z2, z3, z4⟩ := hw.cells; first | (go_simp; done) | (go_simp; with_reducible rfl)); rotate_left
  try simp only [List.setIfInBounds_toArray, List.set_cons_zero, List.set_cons_succ]
  refine wpAnyH_ready (rs := [40]) (by kernel_rfl) (by simp) ?_; refine AllReadyH.cons rfl (fun K9 hK => ?_) AllReadyH.nil; go_simp; go_wp2_with (go_at_call 24; (with_reducible refine (K7.out _ hS).mono ?_); rintro e wN ⟨a7, c7, rfl, hR7, hT⟩; replace hS := hT; clear hT); refine hK.out _ _ ?_ (fun _ => ?_); (exact hS); clear hK K9
  refine wpAnyH_ready (rs := [43]) (by kernel_rfl) (by simp) ?_; refine AllReadyH.cons rfl (fun K9 hK => ?_) AllReadyH.nil; go_simp; go_wp2_with (go_at_call 23; (with_reducible refine (K8.out _ _ _ hS hR7.out).mono ?_); rintro e wN ⟨rfl, hT⟩; replace hS := hT; clear hT); refine hK.out _ _ ?_ (fun _ => ?_); (exact hS); clear hK K9
  refine takeH 44 74 ?_ rfl rfl (by kernel_rfl) (by kernel_rfl) (by kernel_rfl) (fun _ _ _ h => h) (Or.inl ⟨by kernel_rfl, ?_⟩) hS ?_; rotate_left; (intro w' hw; first | (go_simp; done) | (go_simp; with_reducible rfl)); rotate_left
  try simp only [List.setIfInBounds_toArray, List.set_cons_zero, List.set_cons_succ]
  refine takeH 45 6 ?_ rfl rfl (by kernel_rfl) (by kernel_rfl) (by kernel_rfl) (fun _ _ _ h => h) (Or.inl ⟨by kernel_rfl, ?_⟩) hS ?_; rotate_left; (intro w' hw; first | (go_simp; done) | (go_simp; with_reducible rfl)); rotate_left
  try simp only [List.setIfInBounds_toArray, List.set_cons_zero, List.set_cons_succ]
  refine wpAnyH_done (by kernel_rfl) ?_ _
  go_wp2
  go_ret
  exact ⟨rfl, hS.b⟩
end Go.Proofs.Ytmdpfinadffcaaa
