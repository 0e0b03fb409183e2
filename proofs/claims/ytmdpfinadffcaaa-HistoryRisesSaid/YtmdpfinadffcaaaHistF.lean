/-
  The document's Add.
-/
import Derived.Test.YtmdpfinadffcaaaHistE
namespace Go.Proofs.Ytmdpfinadffcaaa
open Go.RowKit
set_option linter.unusedVariables false

theorem copy_step {a b : List Int} (ha : a.length = 16) (hb : b.length = 16) {k : Nat} (hk : k < 16) : (a.take k ++ b.drop k).set k (a.getD k 0) = a.take (k + 1) ++ b.drop (k + 1) := by
  have h1 : (a.take k).length = k := by rw [List.length_take]; omega
  rw [List.set_append, if_neg (by omega), h1, Nat.sub_self, List.drop_eq_getElem_cons (by omega), List.set_cons_zero, List.take_add_one, List.append_assoc]
  congr 1
  have h2 : a[k]? = some (a.getD k 0) := by
    simp [List.getD_eq_getElem?_getD, List.getElem?_eq_getElem (show k < a.length by omega)]
  rw [h2]
  rfl
theorem copy_end {a b : List Int} (ha : a.length = 16) (hb : b.length = 16) : a.take 16 ++ b.drop 16 = a := by
  rw [List.take_of_length_le (by omega), List.drop_of_length_le (by omega), List.append_nil]

set_option maxRecDepth 100000 in
set_option maxHeartbeats 2000000 in
theorem refAddC (l : List Int) (hl : l.length = 16) (v : Int) (h0 : 0 ≤ v) (h1 : v < 18446744073709551616) (w : World) :
    Calls Try.prog 19 #[.agg (Hi.cells l), .int .u64 v] w (Ret (.agg (Hi.cells (Hi.add l (Hi.bk v.toNat)))) w) := by
  have A0 := Lib.hid (((Bx.new w hl).old (boxH Hi.zeros)).old (boxH Hi.zeros))
  have A1 : Hid (Bx (((w.alloc (boxH l)).alloc (boxH Hi.zeros)).alloc (boxH Hi.zeros)) (w.heap.size + 1) Hi.zeros) := Lib.hid (by
    have := (zeros_new (w.alloc (boxH l))).old (boxH Hi.zeros)
    rwa [alloc_size] at this)
  have A2 : Hid (Bx (((w.alloc (boxH l)).alloc (boxH Hi.zeros)).alloc (boxH Hi.zeros)) (w.heap.size + 1 + 1) Hi.zeros) := Lib.hid (by
    have := zeros_new ((w.alloc (boxH l)).alloc (boxH Hi.zeros))
    rwa [alloc_size, alloc_size] at this)
  have HA := Lib.hid ((((Below.refl w.heap.size w).alloc (Nat.le_refl _) (boxH l)).alloc (by simp) (boxH Hi.zeros)).alloc (by simp; omega) (boxH Hi.zeros))
  have B0 := Lib.hid (A0.out.rowO (w.heap.size + 1 + 1) (Hi.cells Hi.zeros) (by omega))
  have B1 := Lib.hid (A1.out.rowO (w.heap.size + 1 + 1) (Hi.cells Hi.zeros) (by omega))
  have B2 := Lib.hid (A2.out.row (m := Hi.zeros) rfl)
  have HB := Lib.hid (below_row HA.out (show w.heap.size ≤ w.heap.size + 1 + 1 by omega) (Hi.cells Hi.zeros))
  have CR := Lib.hid (fun W => refRightC l hl W)
  have CK := Lib.hid (fun W => refBucketC v h0 h1 W)
  have hb := Hi.bk_lt v.toNat
  cases ho : Hi.ok l with
  | false =>
    rw [ho] at CR
    rw [add_no ho]
    clear ho
    go_enter Try.func19, Try.ntmps19
    go_wp2_with (first
      | (refine storeB A2.out (l := Hi.zeros) rfl rfl _ _ rfl rfl rfl ?_)
      | (refine loadB B0.out _ rfl rfl rfl ?_)
      | (go_at_call 26; (with_reducible refine (CR.out _).mono ?_); rintro e w1 ⟨rfl, hb1⟩; have C1 := Lib.hid (B1.out.below hb1); have C2 := Lib.hid (B2.out.below hb1); have D1 := Lib.hid (HB.out.trans (hb1.mono HB.out.size)); clear hb1)
      | (refine loadB C2.out _ rfl rfl rfl ?_)
      | (refine storeB C1.out (l := Hi.zeros) rfl rfl _ _ rfl rfl rfl ?_))
    (try simp only [Exit.inBlock, Exit.then])
    refine bodyPost_ret (v := .agg (Hi.cells Hi.zeros)) ?_ rfl ⟨rfl, below_row D1.out (by omega) _⟩
    exact results_cell_row rfl _ _ _ _ _ _ _ rfl (C1.out.row (m := Hi.zeros) rfl).h Try.underlying49 rfl infoH
  | true =>
    have hsm := (Hi.ok_iff.1 ho).1
    have CT := Lib.hid (fun W => refTotalC l hl (Hi.small.wide hsm) W)
    rw [ho] at CR
    have hadd : Hi.add l (Hi.bk v.toNat) = (Hi.base l).set (Hi.bk v.toNat) ((Hi.base l).getD (Hi.bk v.toNat) 0 + 1) := by unfold Hi.add Hi.inc; rw [if_pos ho]
    rw [hadd]
    clear hadd
    have HBS : Hid ((Hi.tot l = 64 → Hi.base l = Hi.half l) ∧ (¬ Hi.tot l = 64 → Hi.base l = l)) := Lib.hid ⟨fun h => by unfold Hi.base; rw [if_pos h], fun h => by unfold Hi.base; rw [if_neg h]⟩
    have hmsm : Hi.small (Hi.base l) := by
      unfold Hi.base
      split
      · exact half_small hsm
      · exact hsm
    have hm : (Hi.base l).length = 16 := by rw [Hi.base_length, hl]
    clear ho
    generalize Hi.base l = m at *
    generalize Hi.bk v.toNat = b at *
    generalize Hi.tot l = T at *
    go_enter Try.func19, Try.ntmps19
    go_wp2_with (first
      | (refine storeB A2.out (l := Hi.zeros) rfl rfl _ _ rfl rfl rfl ?_)
      | (refine loadB B0.out _ rfl rfl rfl ?_)
      | (go_at_call 26; (with_reducible refine (CR.out _).mono ?_); rintro e w1 ⟨rfl, hb1⟩; have C0 := Lib.hid (B0.out.below hb1); have C1 := Lib.hid (B1.out.below hb1); have C2 := Lib.hid (B2.out.below hb1); have D1 := Lib.hid (HB.out.trans (hb1.mono HB.out.size)); clear hb1))
    go_loopw [6] (fun i wr => ∃ (k : Nat), k ≤ 16 ∧ i = .int .i64 (k : Int) ∧ Hid (Bx wr w.heap.size l) ∧ Hid (Bx wr (w.heap.size + 1) Hi.zeros) ∧ Hid (Bx wr (w.heap.size + 1 + 1) (m.take k ++ Hi.zeros.drop k)) ∧ Hid (Below w.heap.size w wr)) (fun i _ => 16 - (intOf i).toNat)
    case atStart => exact ⟨0, by omega, rfl, C0, C1, C2, D1⟩
    case round =>
      clear A0 A1 A2 HA B0 B1 B2 HB C0 C1 C2 D1
      obtain ⟨k, hk, rfl, H0, H1, H2, HB⟩ := hrel
      by_cases hlt : k < 16
      · have HS := Lib.hid (copy_step hm (b := Hi.zeros) rfl hlt)
        by_cases ht : T = 64
        · have hx := hsm.getD (k := k) (by omega)
          have HM : Hid (m.getD k 0 = l.getD k 0 / 2) := Lib.hid (by rw [HBS.out.1 ht, Hi.half_get])
          have HC := Lib.hid (fun W (h : Bx W w.heap.size l) => h.cell hlt)
          generalize l.getD k 0 = x at *
          obtain ⟨hx0, hx1⟩ := hx
          subst ht
          go_wp2_with (first
            | (refine loadB H0.out _ rfl rfl rfl ?_)
            | (go_at_call 27; (with_reducible refine (CT.out _).mono ?_); rintro e w2 ⟨rfl, hb2⟩; have G0 := Lib.hid (H0.out.below hb2); have G1 := Lib.hid (H1.out.below hb2); have G2 := Lib.hid (H2.out.below hb2); have D2 := Lib.hid (HB.out.trans (hb2.mono HB.out.size)); clear hb2; have hc := HC.out _ G0.out; have hc2 := G2.out.cell hlt; have hfz := G2.out.frozen k))
          go_round
          case rel => exact ⟨k + 1, by omega, by go_num, Lib.hid (G0.out.setO _ _ _ (by omega)), Lib.hid (G1.out.setO _ _ _ (by omega)), Lib.hid (by have := G2.out.set k (x / 2); rwa [← HM.out, HS.out, HM.out] at this), Lib.hid (D2.out.setCell (show w.heap.size ≤ w.heap.size + 1 + 1 by omega) _)⟩
          case measure => simp [intOf]; omega
        · have HM : Hid (m.getD k 0 = l.getD k 0) := Lib.hid (by rw [HBS.out.2 ht])
          have HC := Lib.hid (fun W (h : Bx W w.heap.size l) => h.cell hlt)
          generalize l.getD k 0 = x at *
          go_wp2_with (first
            | (refine loadB H0.out _ rfl rfl rfl ?_)
            | (go_at_call 27; (with_reducible refine (CT.out _).mono ?_); rintro e w2 ⟨rfl, hb2⟩; have G0 := Lib.hid (H0.out.below hb2); have G1 := Lib.hid (H1.out.below hb2); have G2 := Lib.hid (H2.out.below hb2); have D2 := Lib.hid (HB.out.trans (hb2.mono HB.out.size)); clear hb2; have hc := HC.out _ G0.out; have hc2 := G2.out.cell hlt; have hfz := G2.out.frozen k))
          go_round
          case rel => exact ⟨k + 1, by omega, by go_num, Lib.hid (G0.out.setO _ _ _ (by omega)), Lib.hid (G1.out.setO _ _ _ (by omega)), Lib.hid (by have := G2.out.set k x; rwa [← HM.out, HS.out, HM.out] at this), Lib.hid (D2.out.setCell (show w.heap.size ≤ w.heap.size + 1 + 1 by omega) _)⟩
          case measure => simp [intOf]; omega
      · obtain rfl : k = 16 := by omega
        have E2 := H2.out
        rw [copy_end hm rfl] at E2
        clear H2 HBS
        have hx := hmsm.getD (k := b) (by omega)
        have hc := E2.cell hb
        have hfz := E2.frozen b
        have E2 := Lib.hid E2
        generalize m.getD b 0 = x at *
        obtain ⟨hx0, hx1⟩ := hx
        go_wp2_with (first
          | (go_at_call 43; (with_reducible refine (CK.out _).mono ?_); rintro e w5 ⟨rfl, rfl⟩)
          | (refine loadB (E2.out.set b (x + 1)) _ rfl rfl rfl ?_)
          | (refine storeB (H1.out.setO (w.heap.size + 1 + 1) b (.int .i64 (x + 1)) (by omega)) (l := m.set b (x + 1)) (by rw [List.length_set, hm]) rfl _ _ rfl rfl rfl ?_))
        (try simp only [Exit.inBlock, Exit.then])
        refine bodyPost_ret (v := .agg (Hi.cells (m.set b (x + 1)))) ?_ rfl ⟨rfl, below_row (HB.out.setCell (show w.heap.size ≤ w.heap.size + 1 + 1 by omega) _) (by omega) _⟩
        exact results_cell_row rfl _ _ _ _ _ _ _ rfl ((H1.out.setO (w.heap.size + 1 + 1) b (.int .i64 (x + 1)) (by omega)).row (m := m.set b (x + 1)) (by rw [List.length_set, hm])).h Try.underlying49 rfl (by rw [infoH, Hi.cells_size, List.length_set, hm])
end Go.Proofs.Ytmdpfinadffcaaa
