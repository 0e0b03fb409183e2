/-
  The law's does, on the two.
-/
import Derived.Test.YtgeoebodlcbebaaFaS
namespace Go.Proofs.Ytgeoebodlcbebaa
open Go.RowKit
set_option linter.unusedVariables false
set_option linter.unusedSimpArgs false

abbrev actO (kd f wt id co : Int) : Obj := .cells #[.int .i64 kd, .int .i64 f, .int .i64 wt, .int .i64 id, .int .i64 co] 32
theorem act_cells {w : World} {Q : Nat} {kd f wt id co : Int} (h : w.heap[Q]? = some (actO kd f wt id co)) : w.cell? ⟨Q, 0, none⟩ = some (.int .i64 kd) ∧ w.cell? ⟨Q, 1, none⟩ = some (.int .i64 f) ∧ w.cell? ⟨Q, 2, none⟩ = some (.int .i64 wt) ∧ w.cell? ⟨Q, 3, none⟩ = some (.int .i64 id) ∧ w.cell? ⟨Q, 4, none⟩ = some (.int .i64 co) :=
  ⟨by rw [cell_of_row w _ _ _ _ _ h]; rfl, by rw [cell_of_row w _ _ _ _ _ h]; rfl, by rw [cell_of_row w _ _ _ _ _ h]; rfl, by rw [cell_of_row w _ _ _ _ _ h]; rfl, by rw [cell_of_row w _ _ _ _ _ h]; rfl⟩
/-- the first row's cells, where the first item is picked -/
theorem TwoR.top {w0 : World} {P V : Nat} {sp sr : Fl.St} {bx : List (Nat × Obj)} {W : World} {r : Fl.Rw} {t : List Fl.Rw} {id co : Int} {rest : List Ff.E} (h : TwoR w0 P V sp sr bx W) (hl : sr.l = r :: t) (hi : r.its = (id, co) :: rest) :
    ∃ g off N cap g2 off2 M oc, W.cell? ⟨V, 1, none⟩ = some (.slice (some ⟨g, off, none⟩) N cap) ∧ 0 < N ∧ W.cell? ⟨g, off, none⟩ = some (.int .i64 r.f) ∧ W.cell? ⟨g, off + 3, none⟩ = some (.slice (some ⟨g2, off2, none⟩) M oc) ∧ 0 < M ∧ W.cell? ⟨g2, off2, none⟩ = some (.int .i64 id) ∧ W.cell? ⟨g2, off2 + 1, none⟩ = some (.int .i64 co) := by
  obtain ⟨a, cap, ds, h1⟩ := h.ref
  cases ds with
  | nil => exact absurd h1.l.symm (by rw [hl]; simp)
  | cons o B =>
    have hor : o.r = r := by
      have := h1.l
      rw [hl] at this
      exact (List.cons.inj this).1
    subst hor
    obtain ⟨g, off, rfl, hg, hc⟩ := rows_at h1.v (by simp)
    obtain ⟨d0, d1, d2, d3⟩ := hc 0 (by simp)
    simp only [List.getElem_cons_zero, Nat.zero_mul, Nat.add_zero] at d0 d1 d2 d3
    have hi0 : 0 < o.r.its.length := by rw [hi]; simp
    obtain ⟨g2, off2, ha2, hg2, hc2⟩ := (h1.d o (by simp)).v.is hi0
    have i0 := hc2 0 hi0 0 (.int .i64 id) (by simp [hi]; rfl)
    have i1 := hc2 0 hi0 1 (.int .i64 co) (by simp [hi]; rfl)
    rw [Nat.zero_mul, Nat.add_zero] at i0 i1
    rw [ha2] at d3
    exact ⟨g, off, _, cap, g2, off2, _, _, h1.cs.2.1, by simp, d0, d3, hi0, i0, i1⟩
set_option maxRecDepth 100000 in
set_option maxHeartbeats 16000000 in
theorem doesC {w0 : World} {P V n : Nat} {s : Fl.St} {bx : List (Nat × Obj)} (x : Fl.Ac) (W : World) (h : TwoR w0 P V s s bx W) (hk : OkS n s) (hn : n ≤ 900) (hf : (Lit.int .i64 x.f).wf = true) (hid : (Lit.int .i64 x.id).wf = true) :
    Calls Try.prog 9 #[.pointer (some ⟨P, 0, none⟩), .pointer (some ⟨V, 0, none⟩), .agg #[.int .i64 x.kd, .int .i64 x.f, .int .i64 x.w, .int .i64 x.id, .int .i64 x.co]] W fun e W' => e = .returned (.bool true) ∧ TwoR w0 P V (s.act x) (s.act x) bx W' := by
  obtain ⟨kd, f, wt, id, co⟩ := x
  dsimp only at hf hid ⊢
  have HB := Lib.hid (h.box (actO kd f wt id co))
  have KN := Lib.hid (fun e W => numC e W)
  have HLS : Hid (∀ p ∈ bx, p ∈ ((W.heap.size, actO kd f wt id co) :: bx)) := Lib.hid (fun p hp => List.mem_cons_of_mem _ hp)
  obtain ⟨X, hX⟩ : ∃ X, X = W.heap.size := ⟨_, rfl⟩
  have HX := Lib.hid hX
  rw [← hX] at HB HLS
  obtain ⟨b0, b1, b2, b3, b4⟩ := act_cells (HB.out.at_ (List.mem_cons_self ..))
  clear h hX
  by_cases h0 : kd = 0
  · subst h0
    have HA : Hid (s.act ⟨0, f, wt, id, co⟩ = s.push f wt id co) := Lib.hid (by simp [Fl.St.act])
    rw [HA.out]
    obtain ⟨W1, hW1⟩ : ∃ W1, W1 = (W.alloc (.cells #[.int .i64 0, .int .i64 f, .int .i64 wt, .int .i64 id, .int .i64 co] 32)).drew := ⟨_, rfl⟩
    have HW1 := Lib.hid hW1
    have hT : TwoR w0 P V s s ((X, actO 0 f wt id co) :: bx) W1 := by rw [hW1]; exact HB.out.below (Below.refl _ _).drew
    have K1 := Lib.hid (two_push f wt id co _ hT hk hf hid (by omega))
    have KR2 := Lib.hid (fun W' (hW : TwoR w0 P V (s.push f wt id co) s ((X, actO 0 f wt id co) :: bx) W') => ref_push f wt id co W' hW hk (by omega))
    have hS := hT.at_ (List.mem_cons_self ..)
    clear hT hW1 HB hk hf hid
    generalize s.pushE f wt id co = pe at *
    generalize s.push f wt id co = s' at *
    go_enter Try.func9, Try.ntmps9
    go_upto_region 3 with fail
    rw [← HX.out]
    refine wp_region_any (by kernel_rfl) ?_
    change wpAny _ _ _ _ _ _ _ (World.drew _)
    rw [← HW1.out]
    clear b0 b1 b2 b3 b4
    refine wpAny_of_held (S := fun W' => W'.heap[X]? = some (actO 0 f wt id co)) _ _ _ _ ?_
    refine takeH 0 21 ?_ rfl rfl (by kernel_rfl) (by kernel_rfl) (by kernel_rfl) (fun _ _ _ h => h) (Or.inl ⟨by kernel_rfl, ?_⟩) hS ?_; rotate_left; (intro w' hw; skip; first | (go_simp; done) | (go_simp; with_reducible rfl)); rotate_left
    try simp only [List.setIfInBounds_toArray, List.set_cons_zero, List.set_cons_succ]
    refine takeH 1 22 ?_ rfl rfl (by kernel_rfl) (by kernel_rfl) (by kernel_rfl) (fun _ _ _ h => h) (Or.inl ⟨by kernel_rfl, ?_⟩) hS ?_; rotate_left; (intro w' hw; skip; first | (go_simp; done) | (go_simp; with_reducible rfl)); rotate_left
    try simp only [List.setIfInBounds_toArray, List.set_cons_zero, List.set_cons_succ]
    refine takeH 2 23 ?_ rfl rfl (by kernel_rfl) (by kernel_rfl) (by kernel_rfl) (fun _ _ _ h => h) (Or.inl ⟨by kernel_rfl, ?_⟩) hS ?_; rotate_left; (intro w' hw; obtain ⟨z0, z1, z2, z3, z4⟩ := act_cells hw; first | (go_simp; done) | (go_simp; with_reducible rfl)); rotate_left
    try simp only [List.setIfInBounds_toArray, List.set_cons_zero, List.set_cons_succ]
    refine takeH 3 24 ?_ rfl rfl (by kernel_rfl) (by kernel_rfl) (by kernel_rfl) (fun _ _ _ h => h) (Or.inl ⟨by kernel_rfl, ?_⟩) hS ?_; rotate_left; (intro w' hw; skip; first | (go_simp; done) | (go_simp; with_reducible rfl)); rotate_left
    try simp only [List.setIfInBounds_toArray, List.set_cons_zero, List.set_cons_succ]
    refine takeH 4 25 ?_ rfl rfl (by kernel_rfl) (by kernel_rfl) (by kernel_rfl) (fun _ _ _ h => h) (Or.inl ⟨by kernel_rfl, ?_⟩) hS ?_; rotate_left; (intro w' hw; obtain ⟨z0, z1, z2, z3, z4⟩ := act_cells hw; first | (go_simp; done) | (go_simp; with_reducible rfl)); rotate_left
    try simp only [List.setIfInBounds_toArray, List.set_cons_zero, List.set_cons_succ]
    refine takeH 5 26 ?_ rfl rfl (by kernel_rfl) (by kernel_rfl) (by kernel_rfl) (fun _ _ _ h => h) (Or.inl ⟨by kernel_rfl, ?_⟩) hS ?_; rotate_left; (intro w' hw; skip; first | (go_simp; done) | (go_simp; with_reducible rfl)); rotate_left
    try simp only [List.setIfInBounds_toArray, List.set_cons_zero, List.set_cons_succ]
    refine takeH 6 27 ?_ rfl rfl (by kernel_rfl) (by kernel_rfl) (by kernel_rfl) (fun _ _ _ h => h) (Or.inl ⟨by kernel_rfl, ?_⟩) hS ?_; rotate_left; (intro w' hw; obtain ⟨z0, z1, z2, z3, z4⟩ := act_cells hw; first | (go_simp; done) | (go_simp; with_reducible rfl)); rotate_left
    try simp only [List.setIfInBounds_toArray, List.set_cons_zero, List.set_cons_succ]
    refine takeH 7 28 ?_ rfl rfl (by kernel_rfl) (by kernel_rfl) (by kernel_rfl) (fun _ _ _ h => h) (Or.inl ⟨by kernel_rfl, ?_⟩) hS ?_; rotate_left; (intro w' hw; skip; first | (go_simp; done) | (go_simp; with_reducible rfl)); rotate_left
    try simp only [List.setIfInBounds_toArray, List.set_cons_zero, List.set_cons_succ]
    refine takeH 8 29 ?_ rfl rfl (by kernel_rfl) (by kernel_rfl) (by kernel_rfl) (fun _ _ _ h => h) (Or.inl ⟨by kernel_rfl, ?_⟩) hS ?_; rotate_left; (intro w' hw; obtain ⟨z0, z1, z2, z3, z4⟩ := act_cells hw; first | (go_simp; done) | (go_simp; with_reducible rfl)); rotate_left
    try simp only [List.setIfInBounds_toArray, List.set_cons_zero, List.set_cons_succ]
    refine takeH 9 30 ?_ rfl rfl (by kernel_rfl) (by kernel_rfl) (by kernel_rfl) (fun _ _ _ h => h) (Or.inl ⟨by kernel_rfl, ?_⟩) hS ?_; rotate_left; (intro w' hw; skip; first | (go_simp; done) | (go_simp; with_reducible rfl)); rotate_left
    try simp only [List.setIfInBounds_toArray, List.set_cons_zero, List.set_cons_succ]
    refine takeH 12 33 ?_ rfl rfl (by kernel_rfl) (by kernel_rfl) (by kernel_rfl) (fun _ _ _ h => h) (Or.inl ⟨by kernel_rfl, ?_⟩) hS ?_; rotate_left; (intro w' hw; skip; first | (go_simp; done) | (go_simp; with_reducible rfl)); rotate_left
    try simp only [List.setIfInBounds_toArray, List.set_cons_zero, List.set_cons_succ]
    refine takeH 13 34 ?_ rfl rfl (by kernel_rfl) (by kernel_rfl) (by kernel_rfl) (fun _ _ _ h => h) (Or.inl ⟨by kernel_rfl, ?_⟩) hS ?_; rotate_left; (intro w' hw; skip; first | (go_simp; done) | (go_simp; with_reducible rfl)); rotate_left
    try simp only [List.setIfInBounds_toArray, List.set_cons_zero, List.set_cons_succ]
    refine takeH 14 35 ?_ rfl rfl (by kernel_rfl) (by kernel_rfl) (by kernel_rfl) (fun _ _ _ h => h) (Or.inl ⟨by kernel_rfl, ?_⟩) hS ?_; rotate_left; (intro w' hw; obtain ⟨z0, z1, z2, z3, z4⟩ := act_cells hw; first | (go_simp; done) | (go_simp; with_reducible rfl)); rotate_left
    try simp only [List.setIfInBounds_toArray, List.set_cons_zero, List.set_cons_succ]
    refine takeH 15 36 ?_ rfl rfl (by kernel_rfl) (by kernel_rfl) (by kernel_rfl) (fun _ _ _ h => h) (Or.inl ⟨by kernel_rfl, ?_⟩) hS ?_; rotate_left; (intro w' hw; skip; first | (go_simp; done) | (go_simp; with_reducible rfl)); rotate_left
    try simp only [List.setIfInBounds_toArray, List.set_cons_zero, List.set_cons_succ]
    refine takeH 16 37 ?_ rfl rfl (by kernel_rfl) (by kernel_rfl) (by kernel_rfl) (fun _ _ _ h => h) (Or.inl ⟨by kernel_rfl, ?_⟩) hS ?_; rotate_left; (intro w' hw; obtain ⟨z0, z1, z2, z3, z4⟩ := act_cells hw; first | (go_simp; done) | (go_simp; with_reducible rfl)); rotate_left
    try simp only [List.setIfInBounds_toArray, List.set_cons_zero, List.set_cons_succ]
    refine takeH 17 38 ?_ rfl rfl (by kernel_rfl) (by kernel_rfl) (by kernel_rfl) (fun _ _ _ h => h) (Or.inl ⟨by kernel_rfl, ?_⟩) hS ?_; rotate_left; (intro w' hw; skip; first | (go_simp; done) | (go_simp; with_reducible rfl)); rotate_left
    try simp only [List.setIfInBounds_toArray, List.set_cons_zero, List.set_cons_succ]
    refine takeH 18 39 ?_ rfl rfl (by kernel_rfl) (by kernel_rfl) (by kernel_rfl) (fun _ _ _ h => h) (Or.inl ⟨by kernel_rfl, ?_⟩) hS ?_; rotate_left; (intro w' hw; obtain ⟨z0, z1, z2, z3, z4⟩ := act_cells hw; first | (go_simp; done) | (go_simp; with_reducible rfl)); rotate_left
    try simp only [List.setIfInBounds_toArray, List.set_cons_zero, List.set_cons_succ]
    refine takeH 19 40 ?_ rfl rfl (by kernel_rfl) (by kernel_rfl) (by kernel_rfl) (fun _ _ _ h => h) (Or.inl ⟨by kernel_rfl, ?_⟩) hS ?_; rotate_left; (intro w' hw; skip; first | (go_simp; done) | (go_simp; with_reducible rfl)); rotate_left
    try simp only [List.setIfInBounds_toArray, List.set_cons_zero, List.set_cons_succ]
    refine takeH 20 41 ?_ rfl rfl (by kernel_rfl) (by kernel_rfl) (by kernel_rfl) (fun _ _ _ h => h) (Or.inl ⟨by kernel_rfl, ?_⟩) hS ?_; rotate_left; (intro w' hw; obtain ⟨z0, z1, z2, z3, z4⟩ := act_cells hw; first | (go_simp; done) | (go_simp; with_reducible rfl)); rotate_left
    try simp only [List.setIfInBounds_toArray, List.set_cons_zero, List.set_cons_succ]
    refine takeH 21 42 ?_ rfl rfl (by kernel_rfl) (by kernel_rfl) (by kernel_rfl) (fun _ _ _ h => h) (Or.inl ⟨by kernel_rfl, ?_⟩) hS ?_; rotate_left; (intro w' hw; skip; first | (go_simp; done) | (go_simp; with_reducible rfl)); rotate_left
    try simp only [List.setIfInBounds_toArray, List.set_cons_zero, List.set_cons_succ]
    refine wpAnyH_ready (rs := [10]) (by kernel_rfl) (by simp) ?_; refine AllReadyH.cons rfl (fun K2 hK => ?_) AllReadyH.nil; go_simp; go_wp2_with (go_at_call 15; (with_reducible refine K1.out.mono ?_); rintro e wA ⟨rfl, hA⟩); have hS1 := hA.at_ (List.mem_cons_self ..); refine hK.out _ _ ?_ (fun _ => ?_); (exact hS1); clear hK K2 hS; have hS := hS1; clear hS1
    refine wpAnyH_ready (rs := [11]) (by kernel_rfl) (by simp) ?_; refine AllReadyH.cons rfl (fun K2 hK => ?_) AllReadyH.nil; go_simp; go_wp2_with (go_at_call 14; (with_reducible refine (KN.out _ _).mono ?_); rintro e wN ⟨rfl, rfl⟩); have hS1 := hS; refine hK.out _ _ ?_ (fun _ => ?_); (exact hS1); clear hK K2 hS; have hS := hS1; clear hS1
    refine wpAnyH_ready (rs := [22]) (by kernel_rfl) (by simp) ?_; refine AllReadyH.cons rfl (fun K2 hK => ?_) AllReadyH.nil; go_simp; go_wp2_with (go_at_call 26; (with_reducible refine (KR2.out _ hA).mono ?_); rintro e wB ⟨rfl, hB⟩); have hS1 := hB.at_ (List.mem_cons_self ..); refine hK.out _ _ ?_ (fun _ => ?_); (exact hS1); clear hK K2 hS; have hS := hS1; clear hS1
    refine takeH 23 44 (.bool true) rfl rfl (by kernel_rfl) (by kernel_rfl) (by kernel_rfl) (fun _ _ _ h => h) (Or.inl ⟨by kernel_rfl, ?_⟩) hS ?_; focus (intro w' hw; skip; first | (go_simp; done) | (go_simp; with_reducible rfl))
    try simp only [List.setIfInBounds_toArray, List.set_cons_zero, List.set_cons_succ]
    refine takeH 24 6 ?_ rfl rfl (by kernel_rfl) (by kernel_rfl) (by kernel_rfl) (fun _ _ _ h => h) (Or.inl ⟨by kernel_rfl, ?_⟩) hS ?_; rotate_left; (intro w' hw; skip; first | (go_simp; done) | (go_simp; with_reducible rfl)); rotate_left
    try simp only [List.setIfInBounds_toArray, List.set_cons_zero, List.set_cons_succ]
    refine wpAnyH_done (by kernel_rfl) ?_ _
    have HE := Lib.hid (hB.fewer HLS.out)
    clear hS hB hA K1 KR2
    go_wp2
    go_ret
    exact ⟨rfl, HE.out⟩
  · by_cases h1 : kd = 1
    · subst h1
      have HA : Hid (s.act ⟨1, f, wt, id, co⟩ = s.take) := Lib.hid (by simp [Fl.St.act])
      rw [HA.out]
      have K1 := Lib.hid (two_take _ HB.out hk (by omega))
      have K2 := Lib.hid (fun W' bx' (hW : TwoR w0 P V s.take s bx' W') => ref_take W' hW hk (by omega))
      clear HB hk hf hid h0
      generalize s.take = s' at *
      cases hv : s.takeV with
      | none =>
        rw [hv] at K1 K2
        unfold tkV at K1 K2
        clear hv
        go_enter Try.func9, Try.ntmps9
        go_wp2_with (first | (go_at_call 16; (with_reducible refine K1.out.mono ?_); rintro e wA ⟨rfl, hA⟩; have HA1 := Lib.hid (hA.box (itO 0 0)); clear hA) | (go_at_call 27; (with_reducible refine (K2.out _ _ HA1.out).mono ?_); rintro e wB ⟨rfl, hB⟩; have HB1 := Lib.hid (hB.below ((Below.refl _ _).alloc (Nat.le_refl _) (itO 0 0))); obtain ⟨y0, y1⟩ := it_cells (HB1.out.at_ (List.mem_cons_self ..)); clear hB))
        go_ret
        exact ⟨rfl, HB1.out.fewer (fun p hp => List.mem_cons_of_mem _ (HLS.out p hp))⟩
      | some v =>
        obtain ⟨f2, i2, c2⟩ := v
        rw [hv] at K1 K2
        unfold tkV at K1 K2
        clear hv
        go_enter Try.func9, Try.ntmps9
        go_wp2_with (first | (go_at_call 16; (with_reducible refine K1.out.mono ?_); rintro e wA ⟨rfl, hA⟩; have HA1 := Lib.hid (hA.box (itO i2 c2)); clear hA) | (go_at_call 27; (with_reducible refine (K2.out _ _ HA1.out).mono ?_); rintro e wB ⟨rfl, hB⟩; have HB1 := Lib.hid (hB.below ((Below.refl _ _).alloc (Nat.le_refl _) (itO i2 c2))); obtain ⟨y0, y1⟩ := it_cells (HB1.out.at_ (List.mem_cons_self ..)); clear hB))
        go_ret
        exact ⟨rfl, HB1.out.fewer (fun p hp => List.mem_cons_of_mem _ (HLS.out p hp))⟩
    · by_cases h2 : kd = 2
      · subst h2
        have HA : Hid (s.act ⟨2, f, wt, id, co⟩ = s.pick) := Lib.hid (by simp [Fl.St.act])
        rw [HA.out]
        have K1 := Lib.hid (two_pick _ HB.out hk (by omega))
        have K2 := Lib.hid (fun W' bx' (hW : TwoR w0 P V s.pick s bx' W') => ref_pick W' hW hk (by omega))
        rcases Fl.picked hk.g hk.l with ⟨hv, _⟩ | ⟨f2, i2, c2, r, t, rest, hv, hl, rfl, hi, _⟩
        · rw [hv] at K1 K2
          unfold tkV at K1
          simp only [Option.isSome_none] at K2
          clear hv HB hk hf hid h0 h1
          generalize s.pick = s' at *
          go_enter Try.func9, Try.ntmps9
          go_upto_region 11 with (first | (go_at_call 17; (with_reducible refine K1.out.mono ?_); rintro e wA ⟨rfl, hA⟩; have HA1 := Lib.hid (hA.box (itO 0 0)); clear hA) | (go_at_call 28; (with_reducible refine (K2.out _ _ HA1.out).mono ?_); rintro e wB ⟨rfl, hB⟩; obtain ⟨y0, y1⟩ := it_cells (hB.at_ (List.mem_cons_self ..)); have HB1 := Lib.hid hB; clear hB))
          go_quiet (fail)
          have HE := Lib.hid ((HB1.out.fewer (fun p hp => List.mem_cons_of_mem _ (HLS.out p hp))).below (below_drewN (Below.refl _ _) nq))
          go_wp2
          go_ret
          exact ⟨rfl, HE.out⟩
        · rw [hv] at K1 K2
          unfold tkV at K1
          simp only [Option.isSome_some] at K2
          have HTOP := Lib.hid (fun W' bx' (hW : TwoR w0 P V s.pick s.pick bx' W') => hW.top hl hi)
          clear hv HB hk hf hid h0 h1 hl hi
          generalize s.pick = s' at *
          generalize r.f = f2 at *
          go_enter Try.func9, Try.ntmps9
          go_upto_region 11 with (first | (go_at_call 17; (with_reducible refine K1.out.mono ?_); rintro e wA ⟨rfl, hA⟩; have HA1 := Lib.hid (hA.box (itO i2 c2)); clear hA) | (go_at_call 28; (with_reducible refine (K2.out _ _ HA1.out).mono ?_); rintro e wB ⟨rfl, hB⟩; obtain ⟨y0, y1⟩ := it_cells (hB.at_ (List.mem_cons_self ..)); obtain ⟨g, off, N, cap, g2, off2, M, oc, v0, v1, v2, v3, v4, v5, v6⟩ := HTOP.out _ _ hB; have HB1 := Lib.hid hB; clear hB))
          go_quiet (fail)
          have HE := Lib.hid ((HB1.out.fewer (fun p hp => List.mem_cons_of_mem _ (HLS.out p hp))).below (below_drewN (Below.refl _ _) nq))
          go_wp2
          go_ret
          exact ⟨rfl, HE.out⟩
      · have HA : Hid (s.act ⟨kd, f, wt, id, co⟩ = s.drop f id) := Lib.hid (by simp [Fl.St.act, h0, h1, h2])
        rw [HA.out]
        obtain ⟨W1, hW1⟩ : ∃ W1, W1 = (W.alloc (.cells #[.int .i64 kd, .int .i64 f, .int .i64 wt, .int .i64 id, .int .i64 co] 32)).drew := ⟨_, rfl⟩
        have HW1 := Lib.hid hW1
        have hT : TwoR w0 P V s s ((X, actO kd f wt id co) :: bx) W1 := by rw [hW1]; exact HB.out.below (Below.refl _ _).drew
        have K1 := Lib.hid (two_drop f id _ hT hk hf hid (by omega))
        have KR2 := Lib.hid (fun W' (hW : TwoR w0 P V (s.drop f id) s ((X, actO kd f wt id co) :: bx) W') => ref_drop f id W' hW hk (by omega))
        have hS := hT.at_ (List.mem_cons_self ..)
        have t0 : (kd == 0) = false := by simpa using h0
        have t1 : (kd == 1) = false := by simpa using h1
        have t2 : (kd == 2) = false := by simpa using h2
        clear hT hW1 HB hk hf hid h0 h1 h2
        generalize s.dropB f id = pe at *
        generalize s.drop f id = s' at *
        go_enter Try.func9, Try.ntmps9
        go_upto_region 12 with fail
        rw [← HX.out]
        refine wp_region_any (by kernel_rfl) ?_
        change wpAny _ _ _ _ _ _ _ (World.drew _)
        rw [← HW1.out]
        clear b0 b1 b2 b3 b4
        refine wpAny_of_held (S := fun W' => W'.heap[X]? = some (actO kd f wt id co)) _ _ _ _ ?_
        refine takeH 0 125 ?_ rfl rfl (by kernel_rfl) (by kernel_rfl) (by kernel_rfl) (fun _ _ _ h => h) (Or.inl ⟨by kernel_rfl, ?_⟩) hS ?_; rotate_left; (intro w' hw; skip; first | (go_simp; done) | (go_simp; with_reducible rfl)); rotate_left
        try simp only [List.setIfInBounds_toArray, List.set_cons_zero, List.set_cons_succ]
        refine takeH 1 126 ?_ rfl rfl (by kernel_rfl) (by kernel_rfl) (by kernel_rfl) (fun _ _ _ h => h) (Or.inl ⟨by kernel_rfl, ?_⟩) hS ?_; rotate_left; (intro w' hw; skip; first | (go_simp; done) | (go_simp; with_reducible rfl)); rotate_left
        try simp only [List.setIfInBounds_toArray, List.set_cons_zero, List.set_cons_succ]
        refine takeH 2 127 ?_ rfl rfl (by kernel_rfl) (by kernel_rfl) (by kernel_rfl) (fun _ _ _ h => h) (Or.inl ⟨by kernel_rfl, ?_⟩) hS ?_; rotate_left; (intro w' hw; obtain ⟨z0, z1, z2, z3, z4⟩ := act_cells hw; first | (go_simp; done) | (go_simp; with_reducible rfl)); rotate_left
        try simp only [List.setIfInBounds_toArray, List.set_cons_zero, List.set_cons_succ]
        refine takeH 3 128 ?_ rfl rfl (by kernel_rfl) (by kernel_rfl) (by kernel_rfl) (fun _ _ _ h => h) (Or.inl ⟨by kernel_rfl, ?_⟩) hS ?_; rotate_left; (intro w' hw; skip; first | (go_simp; done) | (go_simp; with_reducible rfl)); rotate_left
        try simp only [List.setIfInBounds_toArray, List.set_cons_zero, List.set_cons_succ]
        refine takeH 4 129 ?_ rfl rfl (by kernel_rfl) (by kernel_rfl) (by kernel_rfl) (fun _ _ _ h => h) (Or.inl ⟨by kernel_rfl, ?_⟩) hS ?_; rotate_left; (intro w' hw; obtain ⟨z0, z1, z2, z3, z4⟩ := act_cells hw; first | (go_simp; done) | (go_simp; with_reducible rfl)); rotate_left
        try simp only [List.setIfInBounds_toArray, List.set_cons_zero, List.set_cons_succ]
        refine takeH 6 131 ?_ rfl rfl (by kernel_rfl) (by kernel_rfl) (by kernel_rfl) (fun _ _ _ h => h) (Or.inl ⟨by kernel_rfl, ?_⟩) hS ?_; rotate_left; (intro w' hw; skip; first | (go_simp; done) | (go_simp; with_reducible rfl)); rotate_left
        try simp only [List.setIfInBounds_toArray, List.set_cons_zero, List.set_cons_succ]
        refine takeH 7 132 ?_ rfl rfl (by kernel_rfl) (by kernel_rfl) (by kernel_rfl) (fun _ _ _ h => h) (Or.inl ⟨by kernel_rfl, ?_⟩) hS ?_; rotate_left; (intro w' hw; skip; first | (go_simp; done) | (go_simp; with_reducible rfl)); rotate_left
        try simp only [List.setIfInBounds_toArray, List.set_cons_zero, List.set_cons_succ]
        refine takeH 8 133 ?_ rfl rfl (by kernel_rfl) (by kernel_rfl) (by kernel_rfl) (fun _ _ _ h => h) (Or.inl ⟨by kernel_rfl, ?_⟩) hS ?_; rotate_left; (intro w' hw; obtain ⟨z0, z1, z2, z3, z4⟩ := act_cells hw; first | (go_simp; done) | (go_simp; with_reducible rfl)); rotate_left
        try simp only [List.setIfInBounds_toArray, List.set_cons_zero, List.set_cons_succ]
        refine takeH 9 134 ?_ rfl rfl (by kernel_rfl) (by kernel_rfl) (by kernel_rfl) (fun _ _ _ h => h) (Or.inl ⟨by kernel_rfl, ?_⟩) hS ?_; rotate_left; (intro w' hw; skip; first | (go_simp; done) | (go_simp; with_reducible rfl)); rotate_left
        try simp only [List.setIfInBounds_toArray, List.set_cons_zero, List.set_cons_succ]
        refine takeH 10 135 ?_ rfl rfl (by kernel_rfl) (by kernel_rfl) (by kernel_rfl) (fun _ _ _ h => h) (Or.inl ⟨by kernel_rfl, ?_⟩) hS ?_; rotate_left; (intro w' hw; obtain ⟨z0, z1, z2, z3, z4⟩ := act_cells hw; first | (go_simp; done) | (go_simp; with_reducible rfl)); rotate_left
        try simp only [List.setIfInBounds_toArray, List.set_cons_zero, List.set_cons_succ]
        refine wpAnyH_ready (rs := [5]) (by kernel_rfl) (by simp) ?_; refine AllReadyH.cons rfl (fun K2 hK => ?_) AllReadyH.nil; go_simp; go_wp2_with (go_at_call 18; (with_reducible refine K1.out.mono ?_); rintro e wA ⟨rfl, hA⟩); have hS1 := hA.at_ (List.mem_cons_self ..); refine hK.out _ _ ?_ (fun _ => ?_); (exact hS1); clear hK K2 hS; have hS := hS1; clear hS1
        refine wpAnyH_ready (rs := [11]) (by kernel_rfl) (by simp) ?_; refine AllReadyH.cons rfl (fun K2 hK => ?_) AllReadyH.nil; go_simp; go_wp2_with (go_at_call 29; (with_reducible refine (KR2.out _ hA).mono ?_); rintro e wB ⟨rfl, hB⟩); have hS1 := hB.at_ (List.mem_cons_self ..); refine hK.out _ _ ?_ (fun _ => ?_); (exact hS1); clear hK K2 hS; have hS := hS1; clear hS1
        refine takeH 12 137 (.bool true) rfl rfl (by kernel_rfl) (by kernel_rfl) (by kernel_rfl) (fun _ _ _ h => h) (Or.inl ⟨by kernel_rfl, ?_⟩) hS ?_; focus (intro w' hw; skip; first | (go_simp; done) | (go_simp; with_reducible rfl))
        try simp only [List.setIfInBounds_toArray, List.set_cons_zero, List.set_cons_succ]
        refine takeH 13 6 ?_ rfl rfl (by kernel_rfl) (by kernel_rfl) (by kernel_rfl) (fun _ _ _ h => h) (Or.inl ⟨by kernel_rfl, ?_⟩) hS ?_; rotate_left; (intro w' hw; skip; first | (go_simp; done) | (go_simp; with_reducible rfl)); rotate_left
        try simp only [List.setIfInBounds_toArray, List.set_cons_zero, List.set_cons_succ]
        refine wpAnyH_done (by kernel_rfl) ?_ _
        have HE := Lib.hid (hB.fewer HLS.out)
        clear hS hB hA K1 KR2
        go_wp2
        go_ret
        exact ⟨rfl, HE.out⟩
end Go.Proofs.Ytgeoebodlcbebaa
