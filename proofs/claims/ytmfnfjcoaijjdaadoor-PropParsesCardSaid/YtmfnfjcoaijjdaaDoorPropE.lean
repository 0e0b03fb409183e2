/-
  The document's Parse.
-/
import Derived.Test.YtmfnfjcoaijjdaaDoorPropD
import Derived.StillTailTactics
import Derived.BigRegion
namespace Go.Proofs.YtmfnfjcoaijjdaaDoor
open Go.RowKit
set_option linter.unusedVariables false

theorem eqOne (x : Pr.B) (c : UInt8) : ((mk x).toList == [c]) = decide (x = [c]) := by
  rw [toList_bl, bl_mk', Bool.eq_iff_iff]; simp
theorem two_of {l : List Pr.B} (h : l.length = 2) : ∃ k v, l = [k, v] := by
  match l, h with
  | [k, v], _ => exact ⟨k, v, rfl⟩

theorem strs_two {w : World} {v : Value} {x y : Pr.B} (h : Strs w v [x, y]) : ∃ g cap, v = .slice (some ⟨g, 0, none⟩) 2 cap ∧ g < w.heap.size ∧ w.cell? ⟨g, 0, none⟩ = some (.string (mk x)) ∧ w.cell? ⟨g, 1, none⟩ = some (.string (mk y)) := by
  obtain ⟨g, cap, cur, rfl, hg, hc⟩ := h.ex
  exact ⟨g, cap, rfl, lt_block hg, by rw [cell_of_row w g 0 cur _ _ hg]; exact hc 0 (by simp), by rw [cell_of_row w g 1 cur _ _ hg]; exact hc 1 (by simp)⟩

set_option maxHeartbeats 8000000 in
set_option maxRecDepth 1000000 in
theorem refParseC (s : ByteArray) (w : World) (hs : s.size ≤ 1000000) :
    Calls Tryd.prog 8 #[.string s] w (RetRow (Pr.parse (bl s)) w) := by
  by_cases hn : bl s = []
  · rw [hn, Pr.parse_nil]
    have he : s = .empty := bl_inj (by rw [hn]; rfl)
    subst he
    go_enter Tryd.func8, Tryd.ntmps8
    go_wp2
    go_ret2
    exact ⟨⟨_, rfl, Row.lit w w.heap.size (Nat.le_refl _)⟩, (Below.refl _ _).alloc (Nat.le_refl _) _⟩
  · have hne : (s.toList == []) = false := by rw [toList_bl]; simpa using hn
    have C := Lib.hid (fun W => show Calls Tryd.prog 19 #[.string s, .int .u8 44] W (RetStrs (Pr.pieces 44 (bl s)) W) from refSplitC s 44 W hs)
    have hmany := fun h => Pr.parse_many hn h
    have hfew := fun h => Pr.parse_step hn h
    have hpl := Pr.pieces_length 44 (bl s)
    have hpc : (bl s).count 44 ≤ s.size := by rw [← bl_length]; exact List.count_le_length
    have hsub : ∀ p ∈ Pr.pieces 44 (bl s), p.length ≤ s.size := fun p hp => by
      rw [← bl_length]
      exact Pr.pieces_len 44 _ p hp
    generalize Pr.parse (bl s) = R at *
    generalize Pr.pieces 44 (bl s) = ps at *
    have hp1 : 1 ≤ ps.length := by omega
    have hp2 : ps.length ≤ 1000001 := by omega
    clear hn hpl hpc
    by_cases h6 : 6 < ps.length
    · have hR := hmany h6
      subst hR
      clear hmany hfew hsub
      go_enter Tryd.func8, Tryd.ntmps8
      go_wp2_with (go_at_call 19; (with_reducible refine (C.out _).mono ?_); rintro e w1 ⟨⟨v, rfl, ⟨g, cap, cur, rfl, hg, hc⟩⟩, hb⟩)
      go_ret2
      exact ⟨⟨_, rfl, Row.nil _ _⟩, ((Below.refl _ _).alloc (Nat.le_refl _) _).trans (hb.mono (by simp))⟩
    · have hR := Lib.hid (hfew (by omega))
      have h6' : ps.length ≤ 6 := by omega
      clear hmany hfew h6
      have HSUB := Lib.hid hsub; clear hsub
      go_enter Tryd.func8, Tryd.ntmps8
      go_wp2_with (go_at_call 19; (with_reducible refine (C.out _).mono ?_); rintro e w1 ⟨⟨v, rfl, ⟨g, cap, cur, rfl, hg, hc⟩⟩, hb⟩)
      have hrow : Row w1 w.heap.size (.slice (some ⟨w.heap.size, 0, none⟩) 0 0) [] := (Row.lit w w.heap.size (Nat.le_refl _)).below hb
      have hb0 : Below w.heap.size w w1 := ((Below.refl _ _).alloc (Nat.le_refl _) _).trans (hb.mono (by simp))
      have HG := Lib.hid hg; clear hg
      have HC := Lib.hid hc; clear hc
      clear hb
      go_wp2
      go_loopw [4, 6] (fun v i wr => ∃ (acc : List Pr.Pair), i = .int .i64 (acc.length : Int) ∧ acc.length ≤ ps.length ∧ Row wr w.heap.size v acc ∧ Below w.heap.size w wr ∧ Hid (wr.heap[g]? = some (.cells cur 9 (0, 0))) ∧ Hid (R = Pr.stepAll (ps.drop acc.length) acc)) (fun _ i _ => ps.length - (intOf i).toNat)
      case atStart => exact ⟨[], rfl, by simp, hrow, hb0, HG, by simpa using hR⟩
      case round =>
        obtain ⟨acc, rfl, hk, hrow, hbw, hgw, hst⟩ := hrel
        clear hb0 HG hR
        obtain ⟨a, cap2, rfl, hV⟩ := hrow.view
        by_cases hlt : acc.length < ps.length
        · have hcell : wr.cell? ⟨g, acc.length, none⟩ = some (.string (mk ps[acc.length])) := by rw [cell_of_row wr g acc.length cur _ _ hgw.out]; exact HC.out acc.length hlt
          have hx := HSUB.out ps[acc.length] (List.getElem_mem hlt)
          have hst2 := hst.out
          rw [List.drop_eq_getElem_cons hlt] at hst2
          generalize ps[acc.length] = x at *
          have C2 := Lib.hid (fun W => show Calls Tryd.prog 19 #[.string (mk x), .int .u8 61] W (RetStrs (Pr.pieces 61 x) W) from by
            have := refSplitC (mk x) 61 W (by rw [size_mk']; omega)
            rwa [bl_mk'] at this)
          have hz : (Pr.pieces 61 x).length ≤ 1000001 := by
            have : x.count 61 ≤ x.length := List.count_le_length
            rw [Pr.pieces_length]; omega
          by_cases h2 : (Pr.pieces 61 x).length = 2
          · obtain ⟨kk, vv, hkv⟩ := two_of h2
            have hpo := Pr.pairOf_of hkv
            have hkl : kk.length ≤ x.length := Pr.pieces_len 61 x kk (by rw [hkv]; simp)
            have hvl : vv.length ≤ x.length := Pr.pieces_len 61 x vv (by rw [hkv]; simp)
            rw [hkv] at C2
            clear hz h2 hkv
            have CK := Lib.hid (fun W => refNameC (mk kk) W (by rw [size_mk']; omega))
            have CV := Lib.hid (fun W => refNameC (mk vv) W (by rw [size_mk']; omega))
            rw [bl_mk'] at CK CV
            have hok : Pr.okP (kk, vv) = (Tx.nameL kk && (vv == [42] || Tx.nameL vv)) := rfl
            have e42 := eqOne vv 42
            have HST := Lib.hid hst2; clear hst2 hst
            have hacc1 : acc.length ≤ 1000000 := by omega
            have HP := Lib.hid hpo; clear hpo
            have HROW := Lib.hid hrow; clear hrow
            have HV := Lib.hid hV; clear hV
            cases hk1 : Tx.nameL kk with
            | false =>
              rw [hk1] at CK hok
              have hR : R = (5, []) := by
                rw [HST.out, Pr.stepAll_bad (by rw [HP.out, hok]; simp), HP.out, hok]; simp
              subst hR
              clear hok e42
              go_wp2_with (first | (go_at_call 19; (with_reducible refine (C2.out _).mono ?_); rintro e wA ⟨⟨v1, rfl, hst1⟩, hbA⟩; obtain ⟨g1, cap1, rfl, hgl, k0, k1⟩ := strs_two hst1; clear hst1) | (go_at_call 20; (with_reducible refine (CK.out _).mono ?_); rintro e wB ⟨rfl, hbB⟩; replace k0 := (hbB.cell (p := ⟨g1, 0, none⟩) hgl).trans k0; replace k1 := (hbB.cell (p := ⟨g1, 1, none⟩) hgl).trans k1; replace hbA := hbA.trans (hbB.mono hbA.size); replace hgl := Nat.lt_of_lt_of_le hgl hbB.size; clear hbB))
              go_ret2
              exact ⟨⟨_, rfl, Row.nil _ _⟩, hbw.trans (hbA.mono hbw.size)⟩
            | true =>
              rw [hk1] at CK hok
              by_cases h42 : vv = [42]
              · rw [decide_eq_true h42] at e42
                have hvb : (vv == [42]) = true := by simp [h42]
                rw [hvb] at hok
                clear h42 hvb
                have hp0 : Pr.pairOf x = (0, (kk, vv)) := by rw [HP.out, hok]; simp
                clear hok
                cases hth : Pr.hasKey acc kk with
                | true =>
                  have hR : R = (8, []) := by rw [HST.out, Pr.stepAll_there (by rw [hp0]) (by rw [hp0]; exact hth)]
                  subst hR
                  have FK := Lib.hid (Pr.findK_has acc kk)
                  have TH := Lib.hid hth
                  clear hth hp0
                  go_wp2_with (first | (go_at_call 19; (with_reducible refine (C2.out _).mono ?_); rintro e wA ⟨⟨v1, rfl, hst1⟩, hbA⟩; obtain ⟨g1, cap1, rfl, hgl, k0, k1⟩ := strs_two hst1; clear hst1) | (go_at_call 20; (with_reducible refine (CK.out _).mono ?_); rintro e wB ⟨rfl, hbB⟩; replace k0 := (hbB.cell (p := ⟨g1, 0, none⟩) hgl).trans k0; replace k1 := (hbB.cell (p := ⟨g1, 1, none⟩) hgl).trans k1; replace hbA := hbA.trans (hbB.mono hbA.size); replace hgl := Nat.lt_of_lt_of_le hgl hbB.size; clear hbB) | (go_at_call 20; (with_reducible refine (CV.out _).mono ?_); rintro e wB ⟨rfl, hbB⟩; replace k0 := (hbB.cell (p := ⟨g1, 0, none⟩) hgl).trans k0; replace k1 := (hbB.cell (p := ⟨g1, 1, none⟩) hgl).trans k1; replace hbA := hbA.trans (hbB.mono hbA.size); replace hgl := Nat.lt_of_lt_of_le hgl hbB.size; clear hbB) | (go_at_call 21; refine (refFindC a cap2 acc kk _ (HV.out.below hbA) hacc1).mono ?_; rw [FK.out, TH.out]; rintro e wB ⟨rfl, hbB⟩; replace k0 := (hbB.cell (p := ⟨g1, 0, none⟩) hgl).trans k0; replace k1 := (hbB.cell (p := ⟨g1, 1, none⟩) hgl).trans k1; replace hbA := hbA.trans (hbB.mono hbA.size); replace hgl := Nat.lt_of_lt_of_le hgl hbB.size; clear hbB))
                  go_ret2
                  exact ⟨⟨_, rfl, Row.nil _ _⟩, hbw.trans (hbA.mono hbw.size)⟩
                | false =>
                  have hR : R = Pr.stepAll (ps.drop (acc.length + 1)) (acc ++ [(kk, vv)]) := by rw [HST.out, Pr.stepAll_good (by rw [hp0]) (by rw [hp0]; exact hth), hp0]
                  have HR := Lib.hid hR
                  have FK := Lib.hid (Pr.findK_has acc kk)
                  have TH := Lib.hid hth
                  clear hth hp0 hR
                  go_wp2_with (first | (go_at_call 19; (with_reducible refine (C2.out _).mono ?_); rintro e wA ⟨⟨v1, rfl, hst1⟩, hbA⟩; obtain ⟨g1, cap1, rfl, hgl, k0, k1⟩ := strs_two hst1; clear hst1) | (go_at_call 20; (with_reducible refine (CK.out _).mono ?_); rintro e wB ⟨rfl, hbB⟩; replace k0 := (hbB.cell (p := ⟨g1, 0, none⟩) hgl).trans k0; replace k1 := (hbB.cell (p := ⟨g1, 1, none⟩) hgl).trans k1; replace hbA := hbA.trans (hbB.mono hbA.size); replace hgl := Nat.lt_of_lt_of_le hgl hbB.size; clear hbB) | (go_at_call 20; (with_reducible refine (CV.out _).mono ?_); rintro e wB ⟨rfl, hbB⟩; replace k0 := (hbB.cell (p := ⟨g1, 0, none⟩) hgl).trans k0; replace k1 := (hbB.cell (p := ⟨g1, 1, none⟩) hgl).trans k1; replace hbA := hbA.trans (hbB.mono hbA.size); replace hgl := Nat.lt_of_lt_of_le hgl hbB.size; clear hbB) | (go_at_call 21; refine (refFindC a cap2 acc kk _ (HV.out.below hbA) hacc1).mono ?_; rw [FK.out, TH.out]; rintro e wB ⟨rfl, hbB⟩; replace k0 := (hbB.cell (p := ⟨g1, 0, none⟩) hgl).trans k0; replace k1 := (hbB.cell (p := ⟨g1, 1, none⟩) hgl).trans k1; replace hbA := hbA.trans (hbB.mono hbA.size); replace hgl := Nat.lt_of_lt_of_le hgl hbB.size; clear hbB))
                  have hD : Row wB.drew w.heap.size (.slice a acc.length cap2) acc := (HROW.out.below hbA).drew
                  have k0D : wB.drew.cell? ⟨g1, 0, none⟩ = some (.string (mk kk)) := k0
                  have k1D : wB.drew.cell? ⟨g1, 1, none⟩ = some (.string (mk vv)) := k1
                  have hgD : wB.drew.heap[g]? = some (.cells cur 9 (0, 0)) := (hbA.block g (lt_block hgw.out)).trans hgw.out
                  have hbD : Below wr.heap.size wr wB.drew := hbA.drew
                  refine wp_region_any (by kernel_rfl) ?_
                  change wpAny _ _ _ _ _ _ _ (World.drew _)
                  clear k0 k1 hbA hgl
                  generalize wB.drew = wD at *
                  refine wpAny_take (i := 0) (v := ?_) rfl (by kernel_rfl) (by kernel_rfl) (by kernel_rfl) (fun _ _ _ h => h) (Or.inl ⟨by kernel_rfl, ?_⟩) ?_; rotate_left; (intro w; first | (go_simp; done) | (go_simp; with_reducible rfl)); rotate_left
                  refine wpAny_take (i := 1) (v := ?_) rfl (by kernel_rfl) (by kernel_rfl) (by kernel_rfl) (fun _ _ _ h => h) (Or.inl ⟨by kernel_rfl, ?_⟩) ?_; rotate_left; (intro w; first | (go_simp; done) | (go_simp; with_reducible rfl)); rotate_left
                  refine wpAny_take (i := 2) (v := ?_) rfl (by kernel_rfl) (by kernel_rfl) (by kernel_rfl) (fun _ _ _ h => h) (Or.inl ⟨by kernel_rfl, ?_⟩) ?_; rotate_left; (intro w; first | (go_simp; done) | (go_simp; with_reducible rfl)); rotate_left
                  refine wpAny_take (i := 4) (v := ?_) rfl (by kernel_rfl) (by kernel_rfl) (by kernel_rfl) (fun _ _ _ h => h) (Or.inl ⟨by kernel_rfl, ?_⟩) ?_; rotate_left; (intro w; first | (go_simp; done) | (go_simp; with_reducible rfl)); rotate_left
                  refine wpAny_take (i := 5) (v := ?_) rfl (by kernel_rfl) (by kernel_rfl) (by kernel_rfl) (fun _ _ _ h => h) (Or.inl ⟨by kernel_rfl, ?_⟩) ?_; rotate_left; (intro w; first | (go_simp; done) | (go_simp; with_reducible rfl)); rotate_left
                  refine wpAny_ready (rs := [3, 6]) (by kernel_rfl) (by simp) ?_
                  refine AllReady.cons rfl (fun K hK => ?_) (AllReady.cons rfl (fun K hK => ?_) AllReady.nil)
                  · go_simp; refine hK _ _ ?_; clear hK K
                    refine wpAny_ready (rs := [6]) (by kernel_rfl) (by simp) ?_; refine AllReady.cons rfl (fun K hK => ?_) AllReady.nil; go_simp; refine hK _ _ ?_; clear hK K
                    refine wpAny_take (i := 7) (v := ?_) rfl (by kernel_rfl) (by kernel_rfl) (by kernel_rfl) (fun _ _ _ h => h) (Or.inl ⟨by kernel_rfl, ?_⟩) ?_; rotate_left; (intro w; first | (go_simp; done) | (go_simp; with_reducible rfl)); rotate_left
                    refine wpAny_ready (rs := [8]) (by kernel_rfl) (by simp) ?_; refine AllReady.cons rfl (fun K hK => ?_) AllReady.nil; go_simp; refine hK _ _ ?_; clear hK K
                    refine wpAny_ready (rs := [9]) (by kernel_rfl) (by simp) ?_; refine AllReady.cons rfl (fun K hK => ?_) AllReady.nil
                    refine stepApp wD rfl _ _ 23 rfl w.heap.size 39 _ 2 32 Tryd.underlying23 infoPair rfl (by decide) (by decide) (.slice a acc.length cap2) acc.length (cellsP acc) rfl hD #[.string (mk kk), .string (mk vv)] _ rfl rfl (fun u hu => by simp at hu; rcases hu with rfl | rfl <;> rfl) (by omega) (Nat.le_trans hbw.size hbD.size) ?_
                    intro v' w2 hown' hb1 hkeep
                    refine hK _ _ ?_; clear hK K
                    refine wpAny_take (i := 10) (v := ?_) rfl (by kernel_rfl) (by kernel_rfl) (by kernel_rfl) (fun _ _ _ h => h) (Or.inl ⟨by kernel_rfl, ?_⟩) ?_; rotate_left; (intro w; first | (go_simp; done) | (go_simp; with_reducible rfl)); rotate_left
                    refine wpAny_done (by kernel_rfl) ?_ _
                    have hrow2 := Row.snoc (n := 0) (p := (kk, vv)) hown'
                    have hg2 := Lib.hid ((hkeep g (lt_block hgD) (own_ne hD hgD (by decide))).trans hgD)
                    have hb2 : Below w.heap.size w w2 := hbw.trans ((hbD.mono hbw.size).trans hb1)
                    clear hown' hb1 hkeep
                    go_wp2
                    go_roundw
                    case rel => exact ⟨acc ++ [(kk, vv)], by rw [List.length_append]; go_num, by simp; omega, hrow2, hb2, hg2, by rw [List.length_append]; exact HR⟩
                    case measure => simp [intOf]; omega
                  · go_simp; refine hK _ _ ?_; clear hK K
                    refine wpAny_ready (rs := [3]) (by kernel_rfl) (by simp) ?_; refine AllReady.cons rfl (fun K hK => ?_) AllReady.nil; go_simp; refine hK _ _ ?_; clear hK K
                    refine wpAny_take (i := 7) (v := ?_) rfl (by kernel_rfl) (by kernel_rfl) (by kernel_rfl) (fun _ _ _ h => h) (Or.inl ⟨by kernel_rfl, ?_⟩) ?_; rotate_left; (intro w; first | (go_simp; done) | (go_simp; with_reducible rfl)); rotate_left
                    refine wpAny_ready (rs := [8]) (by kernel_rfl) (by simp) ?_; refine AllReady.cons rfl (fun K hK => ?_) AllReady.nil; go_simp; refine hK _ _ ?_; clear hK K
                    refine wpAny_ready (rs := [9]) (by kernel_rfl) (by simp) ?_; refine AllReady.cons rfl (fun K hK => ?_) AllReady.nil
                    refine stepApp wD rfl _ _ 23 rfl w.heap.size 39 _ 2 32 Tryd.underlying23 infoPair rfl (by decide) (by decide) (.slice a acc.length cap2) acc.length (cellsP acc) rfl hD #[.string (mk kk), .string (mk vv)] _ rfl rfl (fun u hu => by simp at hu; rcases hu with rfl | rfl <;> rfl) (by omega) (Nat.le_trans hbw.size hbD.size) ?_
                    intro v' w2 hown' hb1 hkeep
                    refine hK _ _ ?_; clear hK K
                    refine wpAny_take (i := 10) (v := ?_) rfl (by kernel_rfl) (by kernel_rfl) (by kernel_rfl) (fun _ _ _ h => h) (Or.inl ⟨by kernel_rfl, ?_⟩) ?_; rotate_left; (intro w; first | (go_simp; done) | (go_simp; with_reducible rfl)); rotate_left
                    refine wpAny_done (by kernel_rfl) ?_ _
                    have hrow2 := Row.snoc (n := 0) (p := (kk, vv)) hown'
                    have hg2 := Lib.hid ((hkeep g (lt_block hgD) (own_ne hD hgD (by decide))).trans hgD)
                    have hb2 : Below w.heap.size w w2 := hbw.trans ((hbD.mono hbw.size).trans hb1)
                    clear hown' hb1 hkeep
                    go_wp2
                    go_roundw
                    case rel => exact ⟨acc ++ [(kk, vv)], by rw [List.length_append]; go_num, by simp; omega, hrow2, hb2, hg2, by rw [List.length_append]; exact HR⟩
                    case measure => simp [intOf]; omega
              · rw [decide_eq_false h42] at e42
                have hvb : (vv == [42]) = false := by simp [h42]
                rw [hvb] at hok
                clear h42 hvb
                cases hv1 : Tx.nameL vv with
                | false =>
                  rw [hv1] at CV hok
                  have hR : R = (5, []) := by
                    rw [HST.out, Pr.stepAll_bad (by rw [HP.out, hok]; simp), HP.out, hok]; simp
                  subst hR
                  clear hok
                  go_wp2_with (first | (go_at_call 19; (with_reducible refine (C2.out _).mono ?_); rintro e wA ⟨⟨v1, rfl, hst1⟩, hbA⟩; obtain ⟨g1, cap1, rfl, hgl, k0, k1⟩ := strs_two hst1; clear hst1) | (go_at_call 20; (with_reducible refine (CK.out _).mono ?_); rintro e wB ⟨rfl, hbB⟩; replace k0 := (hbB.cell (p := ⟨g1, 0, none⟩) hgl).trans k0; replace k1 := (hbB.cell (p := ⟨g1, 1, none⟩) hgl).trans k1; replace hbA := hbA.trans (hbB.mono hbA.size); replace hgl := Nat.lt_of_lt_of_le hgl hbB.size; clear hbB) | (go_at_call 20; (with_reducible refine (CV.out _).mono ?_); rintro e wB ⟨rfl, hbB⟩; replace k0 := (hbB.cell (p := ⟨g1, 0, none⟩) hgl).trans k0; replace k1 := (hbB.cell (p := ⟨g1, 1, none⟩) hgl).trans k1; replace hbA := hbA.trans (hbB.mono hbA.size); replace hgl := Nat.lt_of_lt_of_le hgl hbB.size; clear hbB))
                  go_ret2
                  exact ⟨⟨_, rfl, Row.nil _ _⟩, hbw.trans (hbA.mono hbw.size)⟩
                | true =>
                  rw [hv1] at CV hok
                  have hp0 : Pr.pairOf x = (0, (kk, vv)) := by rw [HP.out, hok]; simp
                  clear hok
                  cases hth : Pr.hasKey acc kk with
                  | true =>
                    have hR : R = (8, []) := by rw [HST.out, Pr.stepAll_there (by rw [hp0]) (by rw [hp0]; exact hth)]
                    subst hR
                    have FK := Lib.hid (Pr.findK_has acc kk)
                    have TH := Lib.hid hth
                    clear hth hp0
                    go_wp2_with (first | (go_at_call 19; (with_reducible refine (C2.out _).mono ?_); rintro e wA ⟨⟨v1, rfl, hst1⟩, hbA⟩; obtain ⟨g1, cap1, rfl, hgl, k0, k1⟩ := strs_two hst1; clear hst1) | (go_at_call 20; (with_reducible refine (CK.out _).mono ?_); rintro e wB ⟨rfl, hbB⟩; replace k0 := (hbB.cell (p := ⟨g1, 0, none⟩) hgl).trans k0; replace k1 := (hbB.cell (p := ⟨g1, 1, none⟩) hgl).trans k1; replace hbA := hbA.trans (hbB.mono hbA.size); replace hgl := Nat.lt_of_lt_of_le hgl hbB.size; clear hbB) | (go_at_call 20; (with_reducible refine (CV.out _).mono ?_); rintro e wB ⟨rfl, hbB⟩; replace k0 := (hbB.cell (p := ⟨g1, 0, none⟩) hgl).trans k0; replace k1 := (hbB.cell (p := ⟨g1, 1, none⟩) hgl).trans k1; replace hbA := hbA.trans (hbB.mono hbA.size); replace hgl := Nat.lt_of_lt_of_le hgl hbB.size; clear hbB) | (go_at_call 21; refine (refFindC a cap2 acc kk _ (HV.out.below hbA) hacc1).mono ?_; rw [FK.out, TH.out]; rintro e wB ⟨rfl, hbB⟩; replace k0 := (hbB.cell (p := ⟨g1, 0, none⟩) hgl).trans k0; replace k1 := (hbB.cell (p := ⟨g1, 1, none⟩) hgl).trans k1; replace hbA := hbA.trans (hbB.mono hbA.size); replace hgl := Nat.lt_of_lt_of_le hgl hbB.size; clear hbB))
                    go_ret2
                    exact ⟨⟨_, rfl, Row.nil _ _⟩, hbw.trans (hbA.mono hbw.size)⟩
                  | false =>
                    have hR : R = Pr.stepAll (ps.drop (acc.length + 1)) (acc ++ [(kk, vv)]) := by rw [HST.out, Pr.stepAll_good (by rw [hp0]) (by rw [hp0]; exact hth), hp0]
                    have HR := Lib.hid hR
                    have FK := Lib.hid (Pr.findK_has acc kk)
                    have TH := Lib.hid hth
                    clear hth hp0 hR
                    go_wp2_with (first | (go_at_call 19; (with_reducible refine (C2.out _).mono ?_); rintro e wA ⟨⟨v1, rfl, hst1⟩, hbA⟩; obtain ⟨g1, cap1, rfl, hgl, k0, k1⟩ := strs_two hst1; clear hst1) | (go_at_call 20; (with_reducible refine (CK.out _).mono ?_); rintro e wB ⟨rfl, hbB⟩; replace k0 := (hbB.cell (p := ⟨g1, 0, none⟩) hgl).trans k0; replace k1 := (hbB.cell (p := ⟨g1, 1, none⟩) hgl).trans k1; replace hbA := hbA.trans (hbB.mono hbA.size); replace hgl := Nat.lt_of_lt_of_le hgl hbB.size; clear hbB) | (go_at_call 20; (with_reducible refine (CV.out _).mono ?_); rintro e wB ⟨rfl, hbB⟩; replace k0 := (hbB.cell (p := ⟨g1, 0, none⟩) hgl).trans k0; replace k1 := (hbB.cell (p := ⟨g1, 1, none⟩) hgl).trans k1; replace hbA := hbA.trans (hbB.mono hbA.size); replace hgl := Nat.lt_of_lt_of_le hgl hbB.size; clear hbB) | (go_at_call 21; refine (refFindC a cap2 acc kk _ (HV.out.below hbA) hacc1).mono ?_; rw [FK.out, TH.out]; rintro e wB ⟨rfl, hbB⟩; replace k0 := (hbB.cell (p := ⟨g1, 0, none⟩) hgl).trans k0; replace k1 := (hbB.cell (p := ⟨g1, 1, none⟩) hgl).trans k1; replace hbA := hbA.trans (hbB.mono hbA.size); replace hgl := Nat.lt_of_lt_of_le hgl hbB.size; clear hbB))
                    have hD : Row wB.drew w.heap.size (.slice a acc.length cap2) acc := (HROW.out.below hbA).drew
                    have k0D : wB.drew.cell? ⟨g1, 0, none⟩ = some (.string (mk kk)) := k0
                    have k1D : wB.drew.cell? ⟨g1, 1, none⟩ = some (.string (mk vv)) := k1
                    have hgD : wB.drew.heap[g]? = some (.cells cur 9 (0, 0)) := (hbA.block g (lt_block hgw.out)).trans hgw.out
                    have hbD : Below wr.heap.size wr wB.drew := hbA.drew
                    refine wp_region_any (by kernel_rfl) ?_
                    change wpAny _ _ _ _ _ _ _ (World.drew _)
                    clear k0 k1 hbA hgl
                    generalize wB.drew = wD at *
                    refine wpAny_take (i := 0) (v := ?_) rfl (by kernel_rfl) (by kernel_rfl) (by kernel_rfl) (fun _ _ _ h => h) (Or.inl ⟨by kernel_rfl, ?_⟩) ?_; rotate_left; (intro w; first | (go_simp; done) | (go_simp; with_reducible rfl)); rotate_left
                    refine wpAny_take (i := 1) (v := ?_) rfl (by kernel_rfl) (by kernel_rfl) (by kernel_rfl) (fun _ _ _ h => h) (Or.inl ⟨by kernel_rfl, ?_⟩) ?_; rotate_left; (intro w; first | (go_simp; done) | (go_simp; with_reducible rfl)); rotate_left
                    refine wpAny_take (i := 2) (v := ?_) rfl (by kernel_rfl) (by kernel_rfl) (by kernel_rfl) (fun _ _ _ h => h) (Or.inl ⟨by kernel_rfl, ?_⟩) ?_; rotate_left; (intro w; first | (go_simp; done) | (go_simp; with_reducible rfl)); rotate_left
                    refine wpAny_take (i := 4) (v := ?_) rfl (by kernel_rfl) (by kernel_rfl) (by kernel_rfl) (fun _ _ _ h => h) (Or.inl ⟨by kernel_rfl, ?_⟩) ?_; rotate_left; (intro w; first | (go_simp; done) | (go_simp; with_reducible rfl)); rotate_left
                    refine wpAny_take (i := 5) (v := ?_) rfl (by kernel_rfl) (by kernel_rfl) (by kernel_rfl) (fun _ _ _ h => h) (Or.inl ⟨by kernel_rfl, ?_⟩) ?_; rotate_left; (intro w; first | (go_simp; done) | (go_simp; with_reducible rfl)); rotate_left
                    refine wpAny_ready (rs := [3, 6]) (by kernel_rfl) (by simp) ?_
                    refine AllReady.cons rfl (fun K hK => ?_) (AllReady.cons rfl (fun K hK => ?_) AllReady.nil)
                    · go_simp; refine hK _ _ ?_; clear hK K
                      refine wpAny_ready (rs := [6]) (by kernel_rfl) (by simp) ?_; refine AllReady.cons rfl (fun K hK => ?_) AllReady.nil; go_simp; refine hK _ _ ?_; clear hK K
                      refine wpAny_take (i := 7) (v := ?_) rfl (by kernel_rfl) (by kernel_rfl) (by kernel_rfl) (fun _ _ _ h => h) (Or.inl ⟨by kernel_rfl, ?_⟩) ?_; rotate_left; (intro w; first | (go_simp; done) | (go_simp; with_reducible rfl)); rotate_left
                      refine wpAny_ready (rs := [8]) (by kernel_rfl) (by simp) ?_; refine AllReady.cons rfl (fun K hK => ?_) AllReady.nil; go_simp; refine hK _ _ ?_; clear hK K
                      refine wpAny_ready (rs := [9]) (by kernel_rfl) (by simp) ?_; refine AllReady.cons rfl (fun K hK => ?_) AllReady.nil
                      refine stepApp wD rfl _ _ 23 rfl w.heap.size 39 _ 2 32 Tryd.underlying23 infoPair rfl (by decide) (by decide) (.slice a acc.length cap2) acc.length (cellsP acc) rfl hD #[.string (mk kk), .string (mk vv)] _ rfl rfl (fun u hu => by simp at hu; rcases hu with rfl | rfl <;> rfl) (by omega) (Nat.le_trans hbw.size hbD.size) ?_
                      intro v' w2 hown' hb1 hkeep
                      refine hK _ _ ?_; clear hK K
                      refine wpAny_take (i := 10) (v := ?_) rfl (by kernel_rfl) (by kernel_rfl) (by kernel_rfl) (fun _ _ _ h => h) (Or.inl ⟨by kernel_rfl, ?_⟩) ?_; rotate_left; (intro w; first | (go_simp; done) | (go_simp; with_reducible rfl)); rotate_left
                      refine wpAny_done (by kernel_rfl) ?_ _
                      have hrow2 := Row.snoc (n := 0) (p := (kk, vv)) hown'
                      have hg2 := Lib.hid ((hkeep g (lt_block hgD) (own_ne hD hgD (by decide))).trans hgD)
                      have hb2 : Below w.heap.size w w2 := hbw.trans ((hbD.mono hbw.size).trans hb1)
                      clear hown' hb1 hkeep
                      go_wp2
                      go_roundw
                      case rel => exact ⟨acc ++ [(kk, vv)], by rw [List.length_append]; go_num, by simp; omega, hrow2, hb2, hg2, by rw [List.length_append]; exact HR⟩
                      case measure => simp [intOf]; omega
                    · go_simp; refine hK _ _ ?_; clear hK K
                      refine wpAny_ready (rs := [3]) (by kernel_rfl) (by simp) ?_; refine AllReady.cons rfl (fun K hK => ?_) AllReady.nil; go_simp; refine hK _ _ ?_; clear hK K
                      refine wpAny_take (i := 7) (v := ?_) rfl (by kernel_rfl) (by kernel_rfl) (by kernel_rfl) (fun _ _ _ h => h) (Or.inl ⟨by kernel_rfl, ?_⟩) ?_; rotate_left; (intro w; first | (go_simp; done) | (go_simp; with_reducible rfl)); rotate_left
                      refine wpAny_ready (rs := [8]) (by kernel_rfl) (by simp) ?_; refine AllReady.cons rfl (fun K hK => ?_) AllReady.nil; go_simp; refine hK _ _ ?_; clear hK K
                      refine wpAny_ready (rs := [9]) (by kernel_rfl) (by simp) ?_; refine AllReady.cons rfl (fun K hK => ?_) AllReady.nil
                      refine stepApp wD rfl _ _ 23 rfl w.heap.size 39 _ 2 32 Tryd.underlying23 infoPair rfl (by decide) (by decide) (.slice a acc.length cap2) acc.length (cellsP acc) rfl hD #[.string (mk kk), .string (mk vv)] _ rfl rfl (fun u hu => by simp at hu; rcases hu with rfl | rfl <;> rfl) (by omega) (Nat.le_trans hbw.size hbD.size) ?_
                      intro v' w2 hown' hb1 hkeep
                      refine hK _ _ ?_; clear hK K
                      refine wpAny_take (i := 10) (v := ?_) rfl (by kernel_rfl) (by kernel_rfl) (by kernel_rfl) (fun _ _ _ h => h) (Or.inl ⟨by kernel_rfl, ?_⟩) ?_; rotate_left; (intro w; first | (go_simp; done) | (go_simp; with_reducible rfl)); rotate_left
                      refine wpAny_done (by kernel_rfl) ?_ _
                      have hrow2 := Row.snoc (n := 0) (p := (kk, vv)) hown'
                      have hg2 := Lib.hid ((hkeep g (lt_block hgD) (own_ne hD hgD (by decide))).trans hgD)
                      have hb2 : Below w.heap.size w w2 := hbw.trans ((hbD.mono hbw.size).trans hb1)
                      clear hown' hb1 hkeep
                      go_wp2
                      go_roundw
                      case rel => exact ⟨acc ++ [(kk, vv)], by rw [List.length_append]; go_num, by simp; omega, hrow2, hb2, hg2, by rw [List.length_append]; exact HR⟩
                      case measure => simp [intOf]; omega
          · have hR : R = (3, []) := by
              rw [hst2, Pr.stepAll_bad (by rw [Pr.pairOf_len h2]; simp), Pr.pairOf_len h2]
            subst hR
            clear hst hst2 hV hrow
            generalize Pr.pieces 61 x = q at *
            have h2b : ((q.length : Int) == 2) = false := by simp only [beq_eq_false_iff_ne]; omega
            go_wp2_with (go_at_call 19; (with_reducible refine (C2.out _).mono ?_); rintro e wA ⟨⟨v1, rfl, ⟨g1, cap1, cur1, rfl, hg1, hc1⟩⟩, hbA⟩)
            go_ret2
            exact ⟨⟨_, rfl, Row.nil _ _⟩, hbw.trans (hbA.mono hbw.size)⟩
        · have hR : R = (0, acc) := by
            rw [hst.out, List.drop_eq_nil_of_le (by omega)]; rfl
          subst hR
          clear hst
          have HROW := Lib.hid hrow; clear hrow hV
          go_wp2
          go_ret2
          exact ⟨⟨_, rfl, HROW.out⟩, hbw⟩
end Go.Proofs.YtmfnfjcoaijjdaaDoor
