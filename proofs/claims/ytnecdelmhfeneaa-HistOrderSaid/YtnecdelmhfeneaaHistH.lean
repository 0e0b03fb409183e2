/-
  The law HistAdds, walked.
-/
import Derived.Test.YtnecdelmhfeneaaHistT
namespace Go.Proofs.Ytnecdelmhfeneaa
open Go.RowKit
set_option linter.unusedVariables false

set_option maxRecDepth 100000 in
set_option maxHeartbeats 8000000 in
theorem histAdds_false (l m : List Int) (v T M : Int) (hl : l.length = 16) (hm : m.length = 16) (w : World)
    (C0 : Hid (∀ W, Calls Try.prog 11 #[.agg (Hi.cells l), .int .u64 v] W (Ret (.agg (Hi.cells m)) W)))
    (C1 : Hid (∀ W, Calls Try.prog 12 #[.agg (Hi.cells l)] W (Ret (.bool false) W)))
    (C2 : Hid (∀ W, Calls Try.prog 13 #[.agg (Hi.cells l)] W (Ret (.bool false) W)))
    (C3 : Hid (∀ W, Calls Try.prog 14 #[.agg (Hi.cells l), .int .u64 v] W (Ret (.agg (Hi.cells m)) W)))
    (H4 : Hid ((∀ x ∈ l, -1125899906842624 ≤ x ∧ x ≤ 1125899906842624) → (∀ W, Calls Try.prog 15 #[.agg (Hi.cells l)] W (Ret (.int .i64 T) W)) ∧ ∀ W, Calls Try.prog 16 #[.agg (Hi.cells l)] W (Ret (.int .i64 T) W)))
    (C6 : Hid (∀ W, Calls Try.prog 12 #[.agg (Hi.cells m)] W (Ret (.bool true) W)))
    (C7 : Hid (∀ W, Calls Try.prog 15 #[.agg (Hi.cells m)] W (Ret (.int .i64 M) W))) (hM : M = M) :
    Calls Try.prog 4 #[.agg (Hi.cells l), .int .u64 v] w (Ret (.bool true) w) := by
  have KL := Lib.hid liveOk
  have hq := fun W => run_same m hm W
  have B0 := Lib.hid (Bx.new w hl)
  go_enter Try.func4, Try.ntmps4
  go_wp2
  go_loop [5] (fun i => ∃ (k : Nat), k ≤ 16 ∧ i = .int .i64 (k : Int) ∧ Hid (∀ j, j < k → -1125899906842624 ≤ l.getD j 0 ∧ l.getD j 0 ≤ 1125899906842624)) (fun i => 16 - (intOf i).toNat)
  case atStart => exact ⟨0, by omega, rfl, Lib.hid (fun j hj => by omega)⟩
  case round =>
    obtain ⟨k, hk, rfl, HU⟩ := hrel
    by_cases hlt : k < 16
    · have hc := B0.out.cell hlt
      have HJ := Lib.hid (fun (h : -1125899906842624 ≤ l.getD k 0 ∧ l.getD k 0 ≤ 1125899906842624) (j : Nat) (hj : j < k + 1) => (show j < k ∨ j = k by omega).elim (HU.out j) (fun e => by rw [e]; exact h))
      generalize l.getD k 0 = x at *
      by_cases h1 : x < -1125899906842624
      · go_wp2_with (go_at_call 10; (with_reducible refine (KL.out _).mono ?_); rintro e wA ⟨rfl, hbA⟩)
        go_ret
        exact ⟨rfl, ((Below.refl _ _).alloc (Nat.le_refl _) _).trans (hbA.mono (by simp))⟩
      · by_cases h2 : x > 1125899906842624
        · go_wp2_with (go_at_call 10; (with_reducible refine (KL.out _).mono ?_); rintro e wA ⟨rfl, hbA⟩)
          go_ret
          exact ⟨rfl, ((Below.refl _ _).alloc (Nat.le_refl _) _).trans (hbA.mono (by simp))⟩
        · go_wp2
          go_round
          case rel => exact ⟨k + 1, by omega, by go_num, Lib.hid (HJ.out ⟨by omega, by omega⟩)⟩
          case measure => simp [intOf]; omega
    · obtain rfl : k = 16 := by omega
      obtain ⟨C4, C5⟩ := H4.out (fun x hx => by
        obtain ⟨j, hj, rfl⟩ := List.mem_iff_getElem.1 hx
        have := HU.out j (by omega)
        rwa [List.getD_eq_getElem?_getD, List.getElem?_eq_getElem hj] at this)
      replace C4 := Lib.hid C4
      replace C5 := Lib.hid C5
      clear H4 HU
      go_upto_region 7 with (first
        | (refine loadB B0.out _ rfl rfl rfl ?_)
        | (go_at_call 11; (with_reducible refine (C0.out _).mono ?_); rintro e w1 ⟨rfl, hb1⟩; have hB0 := B0.out.below hb1; have hB1 := ((Below.refl w.heap.size w).alloc (Nat.le_refl _) (boxH l)).trans (hb1.mono (by simp)); clear hb1; have hZ := zeros_new w1; have hS := Held2.made hB0 hB1 hm)
        | (refine storeB hZ hm rfl _ _ rfl rfl rfl ?_))
      obtain ⟨q, hqq⟩ : ∃ q, q = w1.heap.size := ⟨_, rfl⟩
      rw [← hqq] at hS ⊢
      clear hqq hZ hB0 hB1
      refine wp_region_any (by kernel_rfl) ?_
      change wpAny _ _ _ _ _ _ _ (World.drew _)
      refine wpAny_of_held (S := Held2 w q l m) _ _ _ _ ?_
      replace hS := hS.drew
      refine takeH 0 25 (.agg (Hi.cells l)) rfl rfl (by kernel_rfl) (by kernel_rfl) (by kernel_rfl) (fun _ _ _ h => h) (Or.inl ⟨by kernel_rfl, fun w' hw => yieldH rfl _ rfl hw.bl⟩) hS ?_
      try simp only [List.setIfInBounds_toArray, List.set_cons_zero, List.set_cons_succ]
      refine takeH 2 27 (.agg (Hi.cells l)) rfl rfl (by kernel_rfl) (by kernel_rfl) (by kernel_rfl) (fun _ _ _ h => h) (Or.inl ⟨by kernel_rfl, fun w' hw => yieldH rfl _ rfl hw.bl⟩) hS ?_
      refine wpAnyH_ready (rs := [1]) (by kernel_rfl) (by simp) ?_; refine AllReadyH.cons rfl (fun K2 hK => ?_) AllReadyH.nil; go_simp; go_wp2_with ((go_at_call 12; (with_reducible refine (C1.out _).mono ?_); rintro e wA ⟨rfl, hbA⟩; replace hS := hS.next hbA; clear hbA)); refine hK.out _ _ ?_ (fun _ => ?_); (exact hS); clear hK K2
      refine wpAnyH_ready (rs := [3]) (by kernel_rfl) (by simp) ?_; refine AllReadyH.cons rfl (fun K2 hK => ?_) AllReadyH.nil; go_simp; go_wp2_with ((go_at_call 13; (with_reducible refine (C2.out _).mono ?_); rintro e wA ⟨rfl, hbA⟩; replace hS := hS.next hbA; clear hbA)); refine hK.out _ _ ?_ (fun _ => ?_); (exact hS); clear hK K2
      refine takeH 4 29 ?_ rfl rfl (by kernel_rfl) (by kernel_rfl) (by kernel_rfl) (fun _ _ _ h => h) (Or.inl ⟨by kernel_rfl, ?_⟩) hS ?_; rotate_left; (intro w' hw; first | (go_simp; done) | (go_simp; with_reducible rfl)); rotate_left
      try simp only [List.setIfInBounds_toArray, List.set_cons_zero, List.set_cons_succ]
      refine takeH 5 30 ?_ rfl rfl (by kernel_rfl) (by kernel_rfl) (by kernel_rfl) (fun _ _ _ h => h) (Or.inl ⟨by kernel_rfl, ?_⟩) hS ?_; rotate_left; (intro w' hw; first | (go_simp; done) | (go_simp; with_reducible rfl)); rotate_left
      try simp only [List.setIfInBounds_toArray, List.set_cons_zero, List.set_cons_succ]
      refine takeH 6 31 (.agg (Hi.cells m)) rfl rfl (by kernel_rfl) (by kernel_rfl) (by kernel_rfl) (fun _ _ _ h => h) (Or.inl ⟨by kernel_rfl, fun w' hw => yieldH rfl _ rfl hw.bm⟩) hS ?_
      try simp only [List.setIfInBounds_toArray, List.set_cons_zero, List.set_cons_succ]
      refine takeH 7 32 (.agg (Hi.cells l)) rfl rfl (by kernel_rfl) (by kernel_rfl) (by kernel_rfl) (fun _ _ _ h => h) (Or.inl ⟨by kernel_rfl, fun w' hw => yieldH rfl _ rfl hw.bl⟩) hS ?_
      try simp only [List.setIfInBounds_toArray, List.set_cons_zero, List.set_cons_succ]
      refine takeH 8 33 ?_ rfl rfl (by kernel_rfl) (by kernel_rfl) (by kernel_rfl) (fun _ _ _ h => h) (Or.inl ⟨by kernel_rfl, ?_⟩) hS ?_; rotate_left; (intro w' hw; first | (go_simp; done) | (go_simp; with_reducible rfl)); rotate_left
      try simp only [List.setIfInBounds_toArray, List.set_cons_zero, List.set_cons_succ]
      refine wpAnyH_ready (rs := [9]) (by kernel_rfl) (by simp) ?_; refine AllReadyH.cons rfl (fun K2 hK => ?_) AllReadyH.nil; go_simp; go_wp2_with ((go_at_call 14; (with_reducible refine (C3.out _).mono ?_); rintro e wA ⟨rfl, hbA⟩; replace hS := hS.next hbA; clear hbA)); refine hK.out _ _ ?_ (fun _ => ?_); (exact hS); clear hK K2
      refine takeH 10 35 ?_ rfl rfl (by kernel_rfl) (by kernel_rfl) (by kernel_rfl) (fun _ _ _ h => h) (Or.inl ⟨by kernel_rfl, ?_⟩) hS ?_; rotate_left; (intro w' hw; first | (go_simp; done) | (go_simp; with_reducible rfl)); rotate_left
      try simp only [List.setIfInBounds_toArray, List.set_cons_zero, List.set_cons_succ]
      refine takeH 11 36 ?_ rfl rfl (by kernel_rfl) (by kernel_rfl) (by kernel_rfl) (fun _ _ _ h => h) (Or.inl ⟨by kernel_rfl, ?_⟩) hS ?_; rotate_left; (intro w' hw; first | (go_simp; done) | (go_simp; with_reducible rfl)); rotate_left
      try simp only [List.setIfInBounds_toArray, List.set_cons_zero, List.set_cons_succ]
      refine takeH 12 37 ?_ rfl rfl (by kernel_rfl) (by kernel_rfl) (by kernel_rfl) (fun _ _ _ h => h) (Or.inl ⟨by kernel_rfl, ?_⟩) hS ?_; rotate_left; (intro w' hw; first | (go_simp; done) | (go_simp; with_reducible rfl)); rotate_left
      try simp only [List.setIfInBounds_toArray, List.set_cons_zero, List.set_cons_succ]
      refine takeH 13 38 (.agg (Hi.cells l)) rfl rfl (by kernel_rfl) (by kernel_rfl) (by kernel_rfl) (fun _ _ _ h => h) (Or.inl ⟨by kernel_rfl, fun w' hw => yieldH rfl _ rfl hw.bl⟩) hS ?_
      try simp only [List.setIfInBounds_toArray, List.set_cons_zero, List.set_cons_succ]
      refine takeH 15 40 (.agg (Hi.cells l)) rfl rfl (by kernel_rfl) (by kernel_rfl) (by kernel_rfl) (fun _ _ _ h => h) (Or.inl ⟨by kernel_rfl, fun w' hw => yieldH rfl _ rfl hw.bl⟩) hS ?_
      try simp only [List.setIfInBounds_toArray, List.set_cons_zero, List.set_cons_succ]
      refine wpAnyH_ready (rs := [14]) (by kernel_rfl) (by simp) ?_; refine AllReadyH.cons rfl (fun K2 hK => ?_) AllReadyH.nil; go_simp; go_wp2_with ((go_at_call 15; (with_reducible refine (C4.out _).mono ?_); rintro e wA ⟨rfl, hbA⟩; replace hS := hS.next hbA; clear hbA)); refine hK.out _ _ ?_ (fun _ => ?_); (exact hS); clear hK K2
      refine wpAnyH_ready (rs := [16]) (by kernel_rfl) (by simp) ?_; refine AllReadyH.cons rfl (fun K2 hK => ?_) AllReadyH.nil; go_simp; go_wp2_with ((go_at_call 16; (with_reducible refine (C5.out _).mono ?_); rintro e wA ⟨rfl, hbA⟩; replace hS := hS.next hbA; clear hbA)); refine hK.out _ _ ?_ (fun _ => ?_); (exact hS); clear hK K2
      refine takeH 17 42 ?_ rfl rfl (by kernel_rfl) (by kernel_rfl) (by kernel_rfl) (fun _ _ _ h => h) (Or.inl ⟨by kernel_rfl, ?_⟩) hS ?_; rotate_left; (intro w' hw; first | (go_simp; done) | (go_simp; with_reducible rfl)); rotate_left
      try simp only [List.setIfInBounds_toArray, List.set_cons_zero, List.set_cons_succ]
      refine takeH 18 43 ?_ rfl rfl (by kernel_rfl) (by kernel_rfl) (by kernel_rfl) (fun _ _ _ h => h) (Or.inl ⟨by kernel_rfl, ?_⟩) hS ?_; rotate_left; (intro w' hw; first | (go_simp; done) | (go_simp; with_reducible rfl)); rotate_left
      try simp only [List.setIfInBounds_toArray, List.set_cons_zero, List.set_cons_succ]
      refine wpAnyH_done (by kernel_rfl) ?_ _
      go_wp2_with (first
        | (refine loadB hS.bl _ rfl rfl rfl ?_)
        | (refine loadB hS.bm _ rfl rfl rfl ?_)
        | (go_at_call 13; (with_reducible refine (C2.out _).mono ?_); rintro e wA ⟨rfl, hbA⟩; replace hS := hS.next hbA; clear hbA)
        | (go_at_call 12; (with_reducible refine (C6.out _).mono ?_); rintro e wA ⟨rfl, hbA⟩; replace hS := hS.next hbA; clear hbA)
        | (go_at_call 15; (with_reducible refine (C7.out _).mono ?_); rintro e wA ⟨rfl, hbA⟩; replace hS := hS.next hbA; clear hbA)
        | (go_at_call 10; (with_reducible refine (KL.out _).mono ?_); rintro e wA ⟨rfl, hbA⟩; replace hS := hS.next hbA; clear hbA))
      go_ret
      exact ⟨rfl, hS.b⟩

set_option maxRecDepth 100000 in
set_option maxHeartbeats 8000000 in
theorem histAdds_true (l m : List Int) (v T M : Int) (hl : l.length = 16) (hm : m.length = 16) (w : World)
    (C0 : Hid (∀ W, Calls Try.prog 11 #[.agg (Hi.cells l), .int .u64 v] W (Ret (.agg (Hi.cells m)) W)))
    (C1 : Hid (∀ W, Calls Try.prog 12 #[.agg (Hi.cells l)] W (Ret (.bool true) W)))
    (C2 : Hid (∀ W, Calls Try.prog 13 #[.agg (Hi.cells l)] W (Ret (.bool true) W)))
    (C3 : Hid (∀ W, Calls Try.prog 14 #[.agg (Hi.cells l), .int .u64 v] W (Ret (.agg (Hi.cells m)) W)))
    (H4 : Hid ((∀ x ∈ l, -1125899906842624 ≤ x ∧ x ≤ 1125899906842624) → (∀ W, Calls Try.prog 15 #[.agg (Hi.cells l)] W (Ret (.int .i64 T) W)) ∧ ∀ W, Calls Try.prog 16 #[.agg (Hi.cells l)] W (Ret (.int .i64 T) W)))
    (C6 : Hid (∀ W, Calls Try.prog 12 #[.agg (Hi.cells m)] W (Ret (.bool true) W)))
    (C7 : Hid (∀ W, Calls Try.prog 15 #[.agg (Hi.cells m)] W (Ret (.int .i64 M) W))) (hM : 1 ≤ M) :
    Calls Try.prog 4 #[.agg (Hi.cells l), .int .u64 v] w (Ret (.bool true) w) := by
  have KL := Lib.hid liveOk
  have hq := fun W => run_same m hm W
  have B0 := Lib.hid (Bx.new w hl)
  go_enter Try.func4, Try.ntmps4
  go_wp2
  go_loop [5] (fun i => ∃ (k : Nat), k ≤ 16 ∧ i = .int .i64 (k : Int) ∧ Hid (∀ j, j < k → -1125899906842624 ≤ l.getD j 0 ∧ l.getD j 0 ≤ 1125899906842624)) (fun i => 16 - (intOf i).toNat)
  case atStart => exact ⟨0, by omega, rfl, Lib.hid (fun j hj => by omega)⟩
  case round =>
    obtain ⟨k, hk, rfl, HU⟩ := hrel
    by_cases hlt : k < 16
    · have hc := B0.out.cell hlt
      have HJ := Lib.hid (fun (h : -1125899906842624 ≤ l.getD k 0 ∧ l.getD k 0 ≤ 1125899906842624) (j : Nat) (hj : j < k + 1) => (show j < k ∨ j = k by omega).elim (HU.out j) (fun e => by rw [e]; exact h))
      generalize l.getD k 0 = x at *
      by_cases h1 : x < -1125899906842624
      · go_wp2_with (go_at_call 10; (with_reducible refine (KL.out _).mono ?_); rintro e wA ⟨rfl, hbA⟩)
        go_ret
        exact ⟨rfl, ((Below.refl _ _).alloc (Nat.le_refl _) _).trans (hbA.mono (by simp))⟩
      · by_cases h2 : x > 1125899906842624
        · go_wp2_with (go_at_call 10; (with_reducible refine (KL.out _).mono ?_); rintro e wA ⟨rfl, hbA⟩)
          go_ret
          exact ⟨rfl, ((Below.refl _ _).alloc (Nat.le_refl _) _).trans (hbA.mono (by simp))⟩
        · go_wp2
          go_round
          case rel => exact ⟨k + 1, by omega, by go_num, Lib.hid (HJ.out ⟨by omega, by omega⟩)⟩
          case measure => simp [intOf]; omega
    · obtain rfl : k = 16 := by omega
      obtain ⟨C4, C5⟩ := H4.out (fun x hx => by
        obtain ⟨j, hj, rfl⟩ := List.mem_iff_getElem.1 hx
        have := HU.out j (by omega)
        rwa [List.getD_eq_getElem?_getD, List.getElem?_eq_getElem hj] at this)
      replace C4 := Lib.hid C4
      replace C5 := Lib.hid C5
      clear H4 HU
      go_upto_region 7 with (first
        | (refine loadB B0.out _ rfl rfl rfl ?_)
        | (go_at_call 11; (with_reducible refine (C0.out _).mono ?_); rintro e w1 ⟨rfl, hb1⟩; have hB0 := B0.out.below hb1; have hB1 := ((Below.refl w.heap.size w).alloc (Nat.le_refl _) (boxH l)).trans (hb1.mono (by simp)); clear hb1; have hZ := zeros_new w1; have hS := Held2.made hB0 hB1 hm)
        | (refine storeB hZ hm rfl _ _ rfl rfl rfl ?_))
      obtain ⟨q, hqq⟩ : ∃ q, q = w1.heap.size := ⟨_, rfl⟩
      rw [← hqq] at hS ⊢
      clear hqq hZ hB0 hB1
      refine wp_region_any (by kernel_rfl) ?_
      change wpAny _ _ _ _ _ _ _ (World.drew _)
      refine wpAny_of_held (S := Held2 w q l m) _ _ _ _ ?_
      replace hS := hS.drew
      refine takeH 0 25 (.agg (Hi.cells l)) rfl rfl (by kernel_rfl) (by kernel_rfl) (by kernel_rfl) (fun _ _ _ h => h) (Or.inl ⟨by kernel_rfl, fun w' hw => yieldH rfl _ rfl hw.bl⟩) hS ?_
      try simp only [List.setIfInBounds_toArray, List.set_cons_zero, List.set_cons_succ]
      refine takeH 2 27 (.agg (Hi.cells l)) rfl rfl (by kernel_rfl) (by kernel_rfl) (by kernel_rfl) (fun _ _ _ h => h) (Or.inl ⟨by kernel_rfl, fun w' hw => yieldH rfl _ rfl hw.bl⟩) hS ?_
      refine wpAnyH_ready (rs := [1]) (by kernel_rfl) (by simp) ?_; refine AllReadyH.cons rfl (fun K2 hK => ?_) AllReadyH.nil; go_simp; go_wp2_with ((go_at_call 12; (with_reducible refine (C1.out _).mono ?_); rintro e wA ⟨rfl, hbA⟩; replace hS := hS.next hbA; clear hbA)); refine hK.out _ _ ?_ (fun _ => ?_); (exact hS); clear hK K2
      refine wpAnyH_ready (rs := [3]) (by kernel_rfl) (by simp) ?_; refine AllReadyH.cons rfl (fun K2 hK => ?_) AllReadyH.nil; go_simp; go_wp2_with ((go_at_call 13; (with_reducible refine (C2.out _).mono ?_); rintro e wA ⟨rfl, hbA⟩; replace hS := hS.next hbA; clear hbA)); refine hK.out _ _ ?_ (fun _ => ?_); (exact hS); clear hK K2
      refine takeH 4 29 ?_ rfl rfl (by kernel_rfl) (by kernel_rfl) (by kernel_rfl) (fun _ _ _ h => h) (Or.inl ⟨by kernel_rfl, ?_⟩) hS ?_; rotate_left; (intro w' hw; first | (go_simp; done) | (go_simp; with_reducible rfl)); rotate_left
      try simp only [List.setIfInBounds_toArray, List.set_cons_zero, List.set_cons_succ]
      refine takeH 5 30 ?_ rfl rfl (by kernel_rfl) (by kernel_rfl) (by kernel_rfl) (fun _ _ _ h => h) (Or.inl ⟨by kernel_rfl, ?_⟩) hS ?_; rotate_left; (intro w' hw; first | (go_simp; done) | (go_simp; with_reducible rfl)); rotate_left
      try simp only [List.setIfInBounds_toArray, List.set_cons_zero, List.set_cons_succ]
      refine takeH 6 31 (.agg (Hi.cells m)) rfl rfl (by kernel_rfl) (by kernel_rfl) (by kernel_rfl) (fun _ _ _ h => h) (Or.inl ⟨by kernel_rfl, fun w' hw => yieldH rfl _ rfl hw.bm⟩) hS ?_
      try simp only [List.setIfInBounds_toArray, List.set_cons_zero, List.set_cons_succ]
      refine takeH 7 32 (.agg (Hi.cells l)) rfl rfl (by kernel_rfl) (by kernel_rfl) (by kernel_rfl) (fun _ _ _ h => h) (Or.inl ⟨by kernel_rfl, fun w' hw => yieldH rfl _ rfl hw.bl⟩) hS ?_
      try simp only [List.setIfInBounds_toArray, List.set_cons_zero, List.set_cons_succ]
      refine takeH 8 33 ?_ rfl rfl (by kernel_rfl) (by kernel_rfl) (by kernel_rfl) (fun _ _ _ h => h) (Or.inl ⟨by kernel_rfl, ?_⟩) hS ?_; rotate_left; (intro w' hw; first | (go_simp; done) | (go_simp; with_reducible rfl)); rotate_left
      try simp only [List.setIfInBounds_toArray, List.set_cons_zero, List.set_cons_succ]
      refine wpAnyH_ready (rs := [9]) (by kernel_rfl) (by simp) ?_; refine AllReadyH.cons rfl (fun K2 hK => ?_) AllReadyH.nil; go_simp; go_wp2_with ((go_at_call 14; (with_reducible refine (C3.out _).mono ?_); rintro e wA ⟨rfl, hbA⟩; replace hS := hS.next hbA; clear hbA)); refine hK.out _ _ ?_ (fun _ => ?_); (exact hS); clear hK K2
      refine takeH 10 35 ?_ rfl rfl (by kernel_rfl) (by kernel_rfl) (by kernel_rfl) (fun _ _ _ h => h) (Or.inl ⟨by kernel_rfl, ?_⟩) hS ?_; rotate_left; (intro w' hw; first | (go_simp; done) | (go_simp; with_reducible rfl)); rotate_left
      try simp only [List.setIfInBounds_toArray, List.set_cons_zero, List.set_cons_succ]
      refine takeH 11 36 ?_ rfl rfl (by kernel_rfl) (by kernel_rfl) (by kernel_rfl) (fun _ _ _ h => h) (Or.inl ⟨by kernel_rfl, ?_⟩) hS ?_; rotate_left; (intro w' hw; first | (go_simp; done) | (go_simp; with_reducible rfl)); rotate_left
      try simp only [List.setIfInBounds_toArray, List.set_cons_zero, List.set_cons_succ]
      refine takeH 12 37 ?_ rfl rfl (by kernel_rfl) (by kernel_rfl) (by kernel_rfl) (fun _ _ _ h => h) (Or.inl ⟨by kernel_rfl, ?_⟩) hS ?_; rotate_left; (intro w' hw; first | (go_simp; done) | (go_simp; with_reducible rfl)); rotate_left
      try simp only [List.setIfInBounds_toArray, List.set_cons_zero, List.set_cons_succ]
      refine takeH 13 38 (.agg (Hi.cells l)) rfl rfl (by kernel_rfl) (by kernel_rfl) (by kernel_rfl) (fun _ _ _ h => h) (Or.inl ⟨by kernel_rfl, fun w' hw => yieldH rfl _ rfl hw.bl⟩) hS ?_
      try simp only [List.setIfInBounds_toArray, List.set_cons_zero, List.set_cons_succ]
      refine takeH 15 40 (.agg (Hi.cells l)) rfl rfl (by kernel_rfl) (by kernel_rfl) (by kernel_rfl) (fun _ _ _ h => h) (Or.inl ⟨by kernel_rfl, fun w' hw => yieldH rfl _ rfl hw.bl⟩) hS ?_
      try simp only [List.setIfInBounds_toArray, List.set_cons_zero, List.set_cons_succ]
      refine wpAnyH_ready (rs := [14]) (by kernel_rfl) (by simp) ?_; refine AllReadyH.cons rfl (fun K2 hK => ?_) AllReadyH.nil; go_simp; go_wp2_with ((go_at_call 15; (with_reducible refine (C4.out _).mono ?_); rintro e wA ⟨rfl, hbA⟩; replace hS := hS.next hbA; clear hbA)); refine hK.out _ _ ?_ (fun _ => ?_); (exact hS); clear hK K2
      refine wpAnyH_ready (rs := [16]) (by kernel_rfl) (by simp) ?_; refine AllReadyH.cons rfl (fun K2 hK => ?_) AllReadyH.nil; go_simp; go_wp2_with ((go_at_call 16; (with_reducible refine (C5.out _).mono ?_); rintro e wA ⟨rfl, hbA⟩; replace hS := hS.next hbA; clear hbA)); refine hK.out _ _ ?_ (fun _ => ?_); (exact hS); clear hK K2
      refine takeH 17 42 ?_ rfl rfl (by kernel_rfl) (by kernel_rfl) (by kernel_rfl) (fun _ _ _ h => h) (Or.inl ⟨by kernel_rfl, ?_⟩) hS ?_; rotate_left; (intro w' hw; first | (go_simp; done) | (go_simp; with_reducible rfl)); rotate_left
      try simp only [List.setIfInBounds_toArray, List.set_cons_zero, List.set_cons_succ]
      refine takeH 18 43 ?_ rfl rfl (by kernel_rfl) (by kernel_rfl) (by kernel_rfl) (fun _ _ _ h => h) (Or.inl ⟨by kernel_rfl, ?_⟩) hS ?_; rotate_left; (intro w' hw; first | (go_simp; done) | (go_simp; with_reducible rfl)); rotate_left
      try simp only [List.setIfInBounds_toArray, List.set_cons_zero, List.set_cons_succ]
      refine wpAnyH_done (by kernel_rfl) ?_ _
      go_wp2_with (first
        | (refine loadB hS.bl _ rfl rfl rfl ?_)
        | (refine loadB hS.bm _ rfl rfl rfl ?_)
        | (go_at_call 13; (with_reducible refine (C2.out _).mono ?_); rintro e wA ⟨rfl, hbA⟩; replace hS := hS.next hbA; clear hbA)
        | (go_at_call 12; (with_reducible refine (C6.out _).mono ?_); rintro e wA ⟨rfl, hbA⟩; replace hS := hS.next hbA; clear hbA)
        | (go_at_call 15; (with_reducible refine (C7.out _).mono ?_); rintro e wA ⟨rfl, hbA⟩; replace hS := hS.next hbA; clear hbA)
        | (go_at_call 10; (with_reducible refine (KL.out _).mono ?_); rintro e wA ⟨rfl, hbA⟩; replace hS := hS.next hbA; clear hbA))
      go_ret
      exact ⟨rfl, hS.b⟩

end Go.Proofs.Ytnecdelmhfeneaa
