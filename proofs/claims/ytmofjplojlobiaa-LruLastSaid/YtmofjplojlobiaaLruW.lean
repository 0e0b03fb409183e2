/-
  A call by both.
-/
import Derived.Test.YtmofjplojlobiaaLruV
namespace Lr
/-- what a call leaves -/
def step (room : Int) (l : List E) (kd : Int) (k : ByteArray) (v : Int) : List E := if kd = 0 then (put room l k v).1 else if kd = 1 then get l k else if kd = 2 then l else without l k
end Lr
namespace Go.Proofs.Ytmofjplojlobiaa
open Go.RowKit
set_option linter.unusedVariables false

abbrev actO (kd : Int) (key : ByteArray) (x : Int) : Obj := .cells #[.int .i64 kd, .string key, .int .i64 x] 32
theorem act_cells {w : World} {Q : Nat} {kd x : Int} {key : ByteArray} (h : w.heap[Q]? = some (actO kd key x)) : w.cell? ⟨Q, 0, none⟩ = some (.int .i64 kd) ∧ w.cell? ⟨Q, 1, none⟩ = some (.string key) ∧ w.cell? ⟨Q, 2, none⟩ = some (.int .i64 x) :=
  ⟨by rw [cell_of_row w _ _ _ _ _ h]; rfl, by rw [cell_of_row w _ _ _ _ _ h]; rfl, by rw [cell_of_row w _ _ _ _ _ h]; rfl⟩
/-- they tell the same -/
structure RetDoes (w0 : World) (B P R : Nat) (room : Int) (l : List Lr.E) (e : Ending) (w' : World) : Prop where
  e : e = .returned (.bool true)
  s : ∃ v, TwoT w0 B P R room v l w'

set_option maxRecDepth 100000 in
set_option maxHeartbeats 8000000 in
theorem does0 (w0 : World) (B P R : Nat) (room : Int) (v : Value) (l : List Lr.E) (key : ByteArray) (x : Int) (w : World) (hk : key.size ≤ 140737488351232) (hl : l.length ≤ 1000) (hr : (l.length : Int) ≤ room) (hg : Lr.Good l) (h : TwoT w0 B P R room v l w) :
    Calls Try.prog 8 #[.pointer (some ⟨P, 0, none⟩), .pointer (some ⟨R, 0, none⟩), .agg #[.int .i64 0, .string key, .int .i64 x]] w (RetDoes w0 B P R room (Lr.put room l key x).1) := by
  have hV := Lib.hid (h.withQ (actO 0 key x))
  obtain ⟨c0, c1, c2⟩ := act_cells hV.out.q
  have K1 := Lib.hid (fun W (h : TwoQ w0 B P R room v l l w.heap.size (actO 0 key x) W) => by
    obtain ⟨F, h1, h2⟩ := h.s
    exact (putC B P room l F key x W h1 hk (by omega) hr h.size).mono (R' := fun e w' => e = .returned (goneV (Lr.put room l key x).2) ∧ TwoQ w0 B P R room v (Lr.put room l key x).1 l w.heap.size (actO 0 key x) w') fun e w' hr => h.real h1 h2 hr)
  have K2 := Lib.hid (fun W (h : TwoQ w0 B P R room v (Lr.put room l key x).1 l w.heap.size (actO 0 key x) W) =>
    (refPutC key x room B R v l W h.r hl hg).mono (R' := fun e w' => e = .returned (goneV (Lr.put room l key x).2) ∧ ∃ v', TwoQ w0 B P R room v' (Lr.put room l key x).1 (Lr.put room l key x).1 w.heap.size (actO 0 key x) w') fun e w' hr => h.ref hr)
  clear h hk hl hr hg
  unfold goneV at K1 K2

  generalize Lr.put room l key x = pr at *
  generalize pr.2.getD .empty = gs at *
  generalize pr.2.isSome = gb at *
  have t1 := eq_yesS gs
  go_enter Try.func8, Try.ntmps8
  go_wp2_with (first | (go_at_call 13; (with_reducible refine (K1.out _ hV.out).mono ?_); rintro e wA ⟨rfl, hT⟩; have hV2 := Lib.hid hT; clear hT; obtain ⟨y0, y1, y2⟩ := act_cells hV2.out.q) | (go_at_call 18; (with_reducible refine (K2.out _ hV2.out).mono ?_); rintro e wB ⟨rfl, v', hT⟩; have hV3 := Lib.hid hT; clear hT))
  go_ret
  exact ⟨rfl, v', hV3.out.two⟩
set_option maxRecDepth 100000 in
set_option maxHeartbeats 8000000 in
theorem does1 (w0 : World) (B P R : Nat) (room : Int) (v : Value) (l : List Lr.E) (key : ByteArray) (x : Int) (w : World) (hk : key.size ≤ 140737488351232) (hl : l.length ≤ 1000) (hr : (l.length : Int) ≤ room) (hg : Lr.Good l) (h : TwoT w0 B P R room v l w) :
    Calls Try.prog 8 #[.pointer (some ⟨P, 0, none⟩), .pointer (some ⟨R, 0, none⟩), .agg #[.int .i64 1, .string key, .int .i64 x]] w (RetDoes w0 B P R room (Lr.get l key)) := by
  have hV := Lib.hid (h.withQ (actO 1 key x))
  obtain ⟨c0, c1, c2⟩ := act_cells hV.out.q
  have K1 := Lib.hid (fun W (h : TwoQ w0 B P R room v l l w.heap.size (actO 1 key x) W) => by
    obtain ⟨F, h1, h2⟩ := h.s
    exact (getC B P room l F key W h1 hk).mono (R' := fun e w' => e = .returned (gotV (Lr.find l key)) ∧ TwoQ w0 B P R room v (Lr.get l key) l w.heap.size (actO 1 key x) w') fun e w' hr => h.real h1 h2 hr)
  have K2 := Lib.hid (fun W (h : TwoQ w0 B P R room v (Lr.get l key) l w.heap.size (actO 1 key x) W) =>
    (refGetC key room B R v l W h.r hl hg hr).mono (R' := fun e w' => e = .returned (gotV (Lr.find l key)) ∧ ∃ v', TwoQ w0 B P R room v' (Lr.get l key) (Lr.get l key) w.heap.size (actO 1 key x) w') fun e w' hr => h.ref hr)
  clear h hk hl hr hg
  unfold gotV at K1 K2

  generalize Lr.get l key = gl at *
  generalize (Lr.find l key).getD 0 = gs at *
  generalize (Lr.find l key).isSome = gb at *
  go_enter Try.func8, Try.ntmps8
  go_wp2_with (first | (go_at_call 14; (with_reducible refine (K1.out _ hV.out).mono ?_); rintro e wA ⟨rfl, hT⟩; have hV2 := Lib.hid hT; clear hT; obtain ⟨y0, y1, y2⟩ := act_cells hV2.out.q) | (go_at_call 19; (with_reducible refine (K2.out _ hV2.out).mono ?_); rintro e wB ⟨rfl, v', hT⟩; have hV3 := Lib.hid hT; clear hT))
  go_ret
  exact ⟨rfl, v', hV3.out.two⟩
set_option maxRecDepth 100000 in
set_option maxHeartbeats 8000000 in
theorem does2 (w0 : World) (B P R : Nat) (room : Int) (v : Value) (l : List Lr.E) (key : ByteArray) (x : Int) (w : World) (hk : key.size ≤ 140737488351232) (hl : l.length ≤ 1000) (hg : Lr.Good l) (h : TwoT w0 B P R room v l w) :
    Calls Try.prog 8 #[.pointer (some ⟨P, 0, none⟩), .pointer (some ⟨R, 0, none⟩), .agg #[.int .i64 2, .string key, .int .i64 x]] w (RetDoes w0 B P R room l) := by
  obtain ⟨a, cap, rfl⟩ := h.r.row.slice
  have hV := Lib.hid (h.withQ (actO 2 key x))
  obtain ⟨c0, c1, c2⟩ := act_cells hV.out.q
  have K1 := Lib.hid (fun W (h : TwoQ w0 B P R room (.slice a l.length cap) l l w.heap.size (actO 2 key x) W) => by
    obtain ⟨F, h1, h2⟩ := h.s
    exact peekC B P room l F key W h1 hk)
  have KP := Lib.hid (fun W (h : TwoQ w0 B P R room (.slice a l.length cap) l l w.heap.size (actO 2 key x) W) => by
    obtain ⟨a', cap', e, hf⟩ := h.r.row.flat
    cases e
    exact (refPeekC room key a cap l W (by omega) hg hf).mono (R' := fun e w' => e = .returned (gotV (Lr.find l key)) ∧ TwoQ w0 B P R room (.slice a l.length cap) l l w.heap.size (actO 2 key x) w') fun e w' hr => ⟨hr.e, h.below hr.b⟩)
  have HC := Lib.hid (fun W (h : TwoQ w0 B P R room (.slice a l.length cap) l l w.heap.size (actO 2 key x) W) => (show W.cell? ⟨w.heap.size, 1, none⟩ = some (.string key) ∧ W.cell? ⟨R, 0, none⟩ = some (.int .i64 room) ∧ W.cell? ⟨R, 1, none⟩ = some (.slice a l.length cap) from ⟨(act_cells h.q).2.1, h.r.c0, h.r.c1⟩))
  have HDR := Lib.hid (fun W (h : TwoQ w0 B P R room (.slice a l.length cap) l l w.heap.size (actO 2 key x) W) => h.below (Below.refl W.heap.size W).drew)
  clear h hk hl hg
  unfold gotV at K1 KP

  generalize (Lr.find l key).getD 0 = gs at *
  generalize (Lr.find l key).isSome = gb at *
  go_enter Try.func8, Try.ntmps8
  go_upto_region 12 with (go_at_call 15; (with_reducible refine (K1.out _ hV.out).mono ?_); rintro e wA ⟨rfl, rfl⟩)
  refine wp_region_any (by kernel_rfl) ?_
  change wpAny _ _ _ _ _ _ _ (World.drew _)
  refine wpAny_of_held (S := TwoQ w0 B P R room (.slice a l.length cap) l l w.heap.size (actO 2 key x)) _ _ _ _ ?_
  have hS := HDR.out _ hV.out
  refine takeH 0 83 ?_ rfl rfl (by kernel_rfl) (by kernel_rfl) (by kernel_rfl) (fun _ _ _ h => h) (Or.inl ⟨by kernel_rfl, ?_⟩) hS ?_; rotate_left; (intro w' hw; skip; first | (go_simp; done) | (go_simp; with_reducible rfl)); rotate_left
  try simp only [List.setIfInBounds_toArray, List.set_cons_zero, List.set_cons_succ]
  refine takeH 1 84 ?_ rfl rfl (by kernel_rfl) (by kernel_rfl) (by kernel_rfl) (fun _ _ _ h => h) (Or.inl ⟨by kernel_rfl, ?_⟩) hS ?_; rotate_left; (intro w' hw; skip; first | (go_simp; done) | (go_simp; with_reducible rfl)); rotate_left
  try simp only [List.setIfInBounds_toArray, List.set_cons_zero, List.set_cons_succ]
  refine takeH 2 85 ?_ rfl rfl (by kernel_rfl) (by kernel_rfl) (by kernel_rfl) (fun _ _ _ h => h) (Or.inl ⟨by kernel_rfl, ?_⟩) hS ?_; rotate_left; (intro w' hw; obtain ⟨z0, z1, z2⟩ := HC.out _ hw; first | (go_simp; done) | (go_simp; with_reducible rfl)); rotate_left
  try simp only [List.setIfInBounds_toArray, List.set_cons_zero, List.set_cons_succ]
  refine takeH 3 86 ?_ rfl rfl (by kernel_rfl) (by kernel_rfl) (by kernel_rfl) (fun _ _ _ h => h) (Or.inl ⟨by kernel_rfl, ?_⟩) hS ?_; rotate_left; (intro w' hw; skip; first | (go_simp; done) | (go_simp; with_reducible rfl)); rotate_left
  try simp only [List.setIfInBounds_toArray, List.set_cons_zero, List.set_cons_succ]
  refine takeH 4 87 ?_ rfl rfl (by kernel_rfl) (by kernel_rfl) (by kernel_rfl) (fun _ _ _ h => h) (Or.inl ⟨by kernel_rfl, ?_⟩) hS ?_; rotate_left; (intro w' hw; obtain ⟨z0, z1, z2⟩ := HC.out _ hw; first | (go_simp; done) | (go_simp; with_reducible rfl)); rotate_left
  try simp only [List.setIfInBounds_toArray, List.set_cons_zero, List.set_cons_succ]
  refine wpAnyH_ready (rs := [5]) (by kernel_rfl) (by simp) ?_; refine AllReadyH.cons rfl (fun K2 hK => ?_) AllReadyH.nil; go_simp; go_wp2_with (go_at_call 20; (with_reducible refine (KP.out _ hS).mono ?_); rintro e wB ⟨rfl, hT⟩; replace hS := hT; clear hT); refine hK.out _ _ ?_ (fun _ => ?_); (exact hS); clear hK K2
  refine takeH 6 82 ?_ rfl rfl (by kernel_rfl) (by kernel_rfl) (by kernel_rfl) (fun _ _ _ h => h) (Or.inl ⟨by kernel_rfl, ?_⟩) hS ?_; rotate_left; (intro w' hw; skip; first | (go_simp; done) | (go_simp; with_reducible rfl)); rotate_left
  try simp only [List.setIfInBounds_toArray, List.set_cons_zero, List.set_cons_succ]
  refine takeH 7 89 ?_ rfl rfl (by kernel_rfl) (by kernel_rfl) (by kernel_rfl) (fun _ _ _ h => h) (Or.inl ⟨by kernel_rfl, ?_⟩) hS ?_; rotate_left; (intro w' hw; skip; first | (go_simp; done) | (go_simp; with_reducible rfl)); rotate_left
  try simp only [List.setIfInBounds_toArray, List.set_cons_zero, List.set_cons_succ]
  refine takeH 8 90 ?_ rfl rfl (by kernel_rfl) (by kernel_rfl) (by kernel_rfl) (fun _ _ _ h => h) (Or.inl ⟨by kernel_rfl, ?_⟩) hS ?_; rotate_left; (intro w' hw; skip; first | (go_simp; done) | (go_simp; with_reducible rfl)); rotate_left
  try simp only [List.setIfInBounds_toArray, List.set_cons_zero, List.set_cons_succ]
  refine takeH 9 17 ?_ rfl rfl (by kernel_rfl) (by kernel_rfl) (by kernel_rfl) (fun _ _ _ h => h) (Or.inl ⟨by kernel_rfl, ?_⟩) hS ?_; rotate_left; (intro w' hw; skip; first | (go_simp; done) | (go_simp; with_reducible rfl)); rotate_left
  try simp only [List.setIfInBounds_toArray, List.set_cons_zero, List.set_cons_succ]
  refine takeH 10 18 ?_ rfl rfl (by kernel_rfl) (by kernel_rfl) (by kernel_rfl) (fun _ _ _ h => h) (Or.inl ⟨by kernel_rfl, ?_⟩) hS ?_; rotate_left; (intro w' hw; skip; first | (go_simp; done) | (go_simp; with_reducible rfl)); rotate_left
  try simp only [List.setIfInBounds_toArray, List.set_cons_zero, List.set_cons_succ]
  refine wpAnyH_done (by kernel_rfl) ?_ _
  go_wp2
  go_ret
  exact ⟨rfl, _, hS.two⟩
set_option maxRecDepth 100000 in
set_option maxHeartbeats 8000000 in
theorem does3 (w0 : World) (B P R : Nat) (room : Int) (v : Value) (l : List Lr.E) (kd : Int) (key : ByteArray) (x : Int) (w : World) (h0 : kd ≠ 0) (h1 : kd ≠ 1) (h2 : kd ≠ 2) (hk : key.size ≤ 140737488351232) (hl : l.length ≤ 1000) (hg : Lr.Good l) (h : TwoT w0 B P R room v l w) :
    Calls Try.prog 8 #[.pointer (some ⟨P, 0, none⟩), .pointer (some ⟨R, 0, none⟩), .agg #[.int .i64 kd, .string key, .int .i64 x]] w (RetDoes w0 B P R room (Lr.without l key)) := by
  have hV := Lib.hid (h.withQ (actO kd key x))
  obtain ⟨c0, c1, c2⟩ := act_cells hV.out.q
  have K1 := Lib.hid (fun W (h : TwoQ w0 B P R room v l l w.heap.size (actO kd key x) W) => by
    obtain ⟨F, h1, h2⟩ := h.s
    exact (dropC B P room l F key W h1 hk).mono (R' := fun e w' => e = .returned (.bool (Lr.has l key)) ∧ TwoQ w0 B P R room v (Lr.without l key) l w.heap.size (actO kd key x) w') fun e w' hr => h.real h1 h2 hr)
  have KR := Lib.hid (fun W (h : TwoQ w0 B P R room v (Lr.without l key) l w.heap.size (actO kd key x) W) =>
    (refDropC key room B R v l W h.r (by omega) hg).mono (R' := fun e w' => e = .returned (.bool (Lr.has l key)) ∧ ∃ v', TwoQ w0 B P R room v' (Lr.without l key) (Lr.without l key) w.heap.size (actO kd key x) w') fun e w' hr => h.ref hr)
  have HC := Lib.hid (fun (W : World) (h : W.heap[w.heap.size]? = some (actO kd key x)) => act_cells h)
  have t0 : (kd == 0) = false := by simpa using h0
  have t1 : (kd == 1) = false := by simpa using h1
  have t2 : (kd == 2) = false := by simpa using h2
  have hS0 := Lib.hid hV.out.q
  clear h hk hl hg h0 h1 h2

  generalize Lr.without l key = gl at *
  generalize Lr.has l key = gb at *
  go_enter Try.func8, Try.ntmps8
  go_upto_region 14 with fail
  replace hV := Lib.hid (hV.out.below (Below.refl _ _).drew)
  refine wp_region_any (by kernel_rfl) ?_
  change wpAny _ _ _ _ _ _ _ (World.drew _)
  refine wpAny_of_held (S := fun W : World => W.heap[w.heap.size]? = some (actO kd key x)) _ _ _ _ ?_
  have hS := hV.out.q
  refine takeH 0 99 ?_ rfl rfl (by kernel_rfl) (by kernel_rfl) (by kernel_rfl) (fun _ _ _ h => h) (Or.inl ⟨by kernel_rfl, ?_⟩) hS ?_; rotate_left; (intro w' hw; skip; first | (go_simp; done) | (go_simp; with_reducible rfl)); rotate_left
  try simp only [List.setIfInBounds_toArray, List.set_cons_zero, List.set_cons_succ]
  refine takeH 1 100 ?_ rfl rfl (by kernel_rfl) (by kernel_rfl) (by kernel_rfl) (fun _ _ _ h => h) (Or.inl ⟨by kernel_rfl, ?_⟩) hS ?_; rotate_left; (intro w' hw; skip; first | (go_simp; done) | (go_simp; with_reducible rfl)); rotate_left
  try simp only [List.setIfInBounds_toArray, List.set_cons_zero, List.set_cons_succ]
  refine takeH 2 101 ?_ rfl rfl (by kernel_rfl) (by kernel_rfl) (by kernel_rfl) (fun _ _ _ h => h) (Or.inl ⟨by kernel_rfl, ?_⟩) hS ?_; rotate_left; (intro w' hw; obtain ⟨z0, z1, z2⟩ := HC.out _ hw; first | (go_simp; done) | (go_simp; with_reducible rfl)); rotate_left
  try simp only [List.setIfInBounds_toArray, List.set_cons_zero, List.set_cons_succ]
  refine takeH 4 103 ?_ rfl rfl (by kernel_rfl) (by kernel_rfl) (by kernel_rfl) (fun _ _ _ h => h) (Or.inl ⟨by kernel_rfl, ?_⟩) hS ?_; rotate_left; (intro w' hw; skip; first | (go_simp; done) | (go_simp; with_reducible rfl)); rotate_left
  try simp only [List.setIfInBounds_toArray, List.set_cons_zero, List.set_cons_succ]
  refine takeH 5 104 ?_ rfl rfl (by kernel_rfl) (by kernel_rfl) (by kernel_rfl) (fun _ _ _ h => h) (Or.inl ⟨by kernel_rfl, ?_⟩) hS ?_; rotate_left; (intro w' hw; skip; first | (go_simp; done) | (go_simp; with_reducible rfl)); rotate_left
  try simp only [List.setIfInBounds_toArray, List.set_cons_zero, List.set_cons_succ]
  refine takeH 6 105 ?_ rfl rfl (by kernel_rfl) (by kernel_rfl) (by kernel_rfl) (fun _ _ _ h => h) (Or.inl ⟨by kernel_rfl, ?_⟩) hS ?_; rotate_left; (intro w' hw; obtain ⟨z0, z1, z2⟩ := HC.out _ hw; first | (go_simp; done) | (go_simp; with_reducible rfl)); rotate_left
  try simp only [List.setIfInBounds_toArray, List.set_cons_zero, List.set_cons_succ]
  refine wpAnyH_ready (rs := [3]) (by kernel_rfl) (by simp) ?_; refine AllReadyH.cons rfl (fun K2 hK => ?_) AllReadyH.nil; go_simp; go_wp2_with (go_at_call 16; (with_reducible refine (K1.out _ hV.out).mono ?_); rintro e wB ⟨rfl, hT⟩; replace hV := Lib.hid hT; clear hT; replace hS := hV.out.q); refine hK.out _ _ ?_ (fun _ => ?_); (exact hS); clear hK K2
  refine wpAnyH_ready (rs := [7]) (by kernel_rfl) (by simp) ?_; refine AllReadyH.cons rfl (fun K2 hK => ?_) AllReadyH.nil; go_simp; go_wp2_with (go_at_call 21; (with_reducible refine (KR.out _ hV.out).mono ?_); rintro e wB ⟨rfl, v', hT⟩; have hV2 := Lib.hid hT; clear hT; replace hS := hV2.out.q); refine hK.out _ _ ?_ (fun _ => ?_); (exact hS); clear hK K2
  refine takeH 8 107 ?_ rfl rfl (by kernel_rfl) (by kernel_rfl) (by kernel_rfl) (fun _ _ _ h => h) (Or.inl ⟨by kernel_rfl, ?_⟩) hS ?_; rotate_left; (intro w' hw; skip; first | (go_simp; done) | (go_simp; with_reducible rfl)); rotate_left
  try simp only [List.setIfInBounds_toArray, List.set_cons_zero, List.set_cons_succ]
  refine takeH 9 6 ?_ rfl rfl (by kernel_rfl) (by kernel_rfl) (by kernel_rfl) (fun _ _ _ h => h) (Or.inl ⟨by kernel_rfl, ?_⟩) hS ?_; rotate_left; (intro w' hw; skip; first | (go_simp; done) | (go_simp; with_reducible rfl)); rotate_left
  try simp only [List.setIfInBounds_toArray, List.set_cons_zero, List.set_cons_succ]
  refine wpAnyH_done (by kernel_rfl) ?_ _
  go_wp2
  go_ret
  exact ⟨rfl, _, hV2.out.two⟩
theorem doesC (w0 : World) (B P R : Nat) (room : Int) (v : Value) (l : List Lr.E) (kd : Int) (key : ByteArray) (x : Int) (w : World) (hk : key.size ≤ 140737488351232) (hl : l.length ≤ 1000) (hr : (l.length : Int) ≤ room) (hg : Lr.Good l) (h : TwoT w0 B P R room v l w) :
    Calls Try.prog 8 #[.pointer (some ⟨P, 0, none⟩), .pointer (some ⟨R, 0, none⟩), .agg #[.int .i64 kd, .string key, .int .i64 x]] w (RetDoes w0 B P R room (Lr.step room l kd key x)) := by
  unfold Lr.step
  by_cases h0 : kd = 0
  · subst h0; rw [if_pos rfl]; exact does0 w0 B P R room v l key x w hk hl hr hg h
  · rw [if_neg h0]
    by_cases h1 : kd = 1
    · subst h1; rw [if_pos rfl]; exact does1 w0 B P R room v l key x w hk hl hr hg h
    · rw [if_neg h1]
      by_cases h2 : kd = 2
      · subst h2; rw [if_pos rfl]; exact does2 w0 B P R room v l key x w hk hl hg h
      · rw [if_neg h2]; exact does3 w0 B P R room v l kd key x w h0 h1 h2 hk hl hg h
end Go.Proofs.Ytmofjplojlobiaa
