/-
  Add, both sides.
-/
import Derived.Test.YtmdpfinadffcaaaHistD
namespace Go.Proofs.Ytmdpfinadffcaaa
open Go.RowKit
set_option linter.unusedVariables false

theorem add_no {l : List Int} (h : Hi.ok l = false) (k : Nat) : Hi.add l k = Hi.zeros := by unfold Hi.add; rw [h]; rfl
theorem add_full {l : List Int} (h : Hi.ok l = true) (ht : Hi.tot l = 64) (k : Nat) : Hi.add l k = (Hi.half l).set k ((Hi.half l).getD k 0 + 1) := by unfold Hi.add Hi.base Hi.inc; rw [if_pos h, if_pos ht]
theorem add_more {l : List Int} (h : Hi.ok l = true) (ht : ¬ Hi.tot l = 64) (k : Nat) : Hi.add l k = l.set k (l.getD k 0 + 1) := by unfold Hi.add Hi.base Hi.inc; rw [if_pos h, if_neg ht]
theorem half_small {l : List Int} (h : Hi.small l) : Hi.small (Hi.half l) := by
  intro x hx
  obtain ⟨y, hy, rfl⟩ := List.mem_map.1 hx
  have := h y hy
  omega

set_option maxRecDepth 100000 in
set_option maxHeartbeats 2000000 in
theorem addC (l : List Int) (hl : l.length = 16) (v : Int) (h0 : 0 ≤ v) (h1 : v < 18446744073709551616) (w : World) :
    Calls Try.prog 17 #[.agg (Hi.cells l), .int .u64 v] w (Ret (.agg (Hi.cells (Hi.add l (Hi.bk v.toNat)))) w) := by
  have B0 := Lib.hid ((Bx.new w hl).old (boxH Hi.zeros))
  have B1 := Lib.hid (zeros_new (w.alloc (boxH l)))
  rw [alloc_size] at B1
  have HB := Lib.hid (((Below.refl w.heap.size w).alloc (Nat.le_refl _) (boxH l)).alloc (by simp) (boxH Hi.zeros))
  have CR := Lib.hid (fun W => rightC l hl W)
  have CK := Lib.hid (fun W => bucketC v h0 h1 W)
  have hb := Hi.bk_lt v.toNat
  cases ho : Hi.ok l with
  | false =>
    rw [ho] at CR
    rw [add_no ho]
    clear ho
    go_enter Try.func17, Try.ntmps17
    go_wp2_with (first
      | (refine loadB B0.out _ rfl rfl rfl ?_)
      | (go_at_call 38; (with_reducible refine (CR.out _).mono ?_); rintro e w1 ⟨rfl, hb1⟩; have C1 := Lib.hid (B1.out.below (hb1.mono (Nat.le_refl _))); have D1 := Lib.hid (HB.out.trans (hb1.mono (by simp; omega))); clear hb1)
      | (refine storeB C1.out (l := Hi.zeros) rfl rfl _ _ rfl rfl rfl ?_))
    (try simp only [Exit.inBlock, Exit.then])
    refine bodyPost_ret (v := .agg (Hi.cells Hi.zeros)) ?_ rfl ⟨rfl, below_row D1.out (by omega) _⟩
    exact results_cell_row rfl _ _ _ _ _ _ _ rfl (C1.out.row (m := Hi.zeros) rfl).h Try.underlying49 rfl infoH
  | true =>
    have hsm := (Hi.ok_iff.1 ho).1
    have CT := Lib.hid (fun W => totalC l hl (Hi.small.wide hsm) W)
    have CH := Lib.hid (fun W => halvedC l hl hsm W)
    rw [ho] at CR
    by_cases ht : Hi.tot l = 64
    · rw [add_full ho ht]
      have hh := half_small hsm
      have hln := Hi.half_length l
      rw [ht] at CT
      clear ho ht hsm
      generalize Hi.half l = m at *
      generalize Hi.bk v.toNat = k at *
      have hx := hh.getD (k := k) (by omega)
      have hm : m.length = 16 := by omega
      obtain ⟨hx0, hx1⟩ := hx
      clear hh hln
      obtain ⟨x, hX⟩ : ∃ x, x = m.getD k 0 := ⟨_, rfl⟩
      rw [← hX] at hx0 hx1 ⊢
      have HX := Lib.hid hX; clear hX
      go_enter Try.func17, Try.ntmps17
      go_wp2_with (first
        | (refine loadB B0.out _ rfl rfl rfl ?_)
        | (go_at_call 38; (with_reducible refine (CR.out _).mono ?_); rintro e w1 ⟨rfl, hb1⟩; have C0 := Lib.hid (B0.out.below hb1); have C1 := Lib.hid (B1.out.below hb1); have D1 := Lib.hid (HB.out.trans (hb1.mono (by simp; omega))); clear hb1)
        | (refine loadB C0.out _ rfl rfl rfl ?_)
        | (go_at_call 39; (with_reducible refine (CT.out _).mono ?_); rintro e w2 ⟨rfl, hb2⟩; have E0 := Lib.hid (C0.out.below hb2); have E1 := Lib.hid (C1.out.below hb2); have D2 := Lib.hid (D1.out.trans (hb2.mono (D1.out.size))); clear hb2)
        | (refine loadB E0.out _ rfl rfl rfl ?_)
        | (go_at_call 40; (with_reducible refine (CH.out _).mono ?_); rintro e w3 ⟨rfl, hb3⟩; have F0 := Lib.hid (E0.out.below hb3); have F1 := Lib.hid (E1.out.below hb3); have D3 := Lib.hid (D2.out.trans (hb3.mono (D2.out.size))); clear hb3)
        | (refine storeB F0.out hm rfl _ _ rfl rfl rfl ?_; have G0 := Lib.hid (F0.out.row hm); have G1 := Lib.hid (F1.out.rowO w.heap.size (Hi.cells m) (by omega)); have D4 := Lib.hid (below_row D3.out (Nat.le_refl _) (Hi.cells m)); generalize w3.setRow w.heap.size (Hi.cells m) = w4 at *; have hc := G0.out.cell hb; have hfz := G0.out.frozen k; rw [← HX.out] at hc)
        | (go_at_call 41; (with_reducible refine (CK.out _).mono ?_); rintro e w5 ⟨rfl, rfl⟩)
        | (refine loadB (G0.out.set k (x + 1)) _ rfl rfl rfl ?_)
        | (refine storeB (G1.out.setO w.heap.size k (.int .i64 (x + 1)) (by omega)) (l := m.set k (x + 1)) (by rw [List.length_set, hm]) rfl _ _ rfl rfl rfl ?_))
      (try simp only [Exit.inBlock, Exit.then])
      refine bodyPost_ret (v := .agg (Hi.cells (m.set k (x + 1)))) ?_ rfl ⟨rfl, below_row (D4.out.setCell (Nat.le_refl _) _) (by omega) _⟩
      exact results_cell_row rfl _ _ _ _ _ _ _ rfl ((G1.out.setO w.heap.size k (.int .i64 (x + 1)) (by omega)).row (m := m.set k (x + 1)) (by rw [List.length_set, hm])).h Try.underlying49 rfl (by rw [infoH, Hi.cells_size, List.length_set, hm])
    · rw [add_more ho ht]
      clear ho CH
      generalize Hi.tot l = T at *
      generalize Hi.bk v.toNat = k at *
      have hx := hsm.getD (k := k) (by omega)
      obtain ⟨hx0, hx1⟩ := hx
      clear hsm
      obtain ⟨x, hX⟩ : ∃ x, x = l.getD k 0 := ⟨_, rfl⟩
      rw [← hX] at hx0 hx1 ⊢
      have HX := Lib.hid hX; clear hX
      go_enter Try.func17, Try.ntmps17
      go_wp2_with (first
        | (refine loadB B0.out _ rfl rfl rfl ?_)
        | (go_at_call 38; (with_reducible refine (CR.out _).mono ?_); rintro e w1 ⟨rfl, hb1⟩; have C0 := Lib.hid (B0.out.below hb1); have C1 := Lib.hid (B1.out.below hb1); have D1 := Lib.hid (HB.out.trans (hb1.mono (by simp; omega))); clear hb1)
        | (refine loadB C0.out _ rfl rfl rfl ?_)
        | (go_at_call 39; (with_reducible refine (CT.out _).mono ?_); rintro e w4 ⟨rfl, hb2⟩; have G0 := Lib.hid (C0.out.below hb2); have G1 := Lib.hid (C1.out.below hb2); have D4 := Lib.hid (D1.out.trans (hb2.mono (D1.out.size))); clear hb2; have hc := G0.out.cell hb; have hfz := G0.out.frozen k; rw [← HX.out] at hc)
        | (go_at_call 41; (with_reducible refine (CK.out _).mono ?_); rintro e w5 ⟨rfl, rfl⟩)
        | (refine loadB (G0.out.set k (x + 1)) _ rfl rfl rfl ?_)
        | (refine storeB (G1.out.setO w.heap.size k (.int .i64 (x + 1)) (by omega)) (l := l.set k (x + 1)) (by rw [List.length_set, hl]) rfl _ _ rfl rfl rfl ?_))
      (try simp only [Exit.inBlock, Exit.then])
      refine bodyPost_ret (v := .agg (Hi.cells (l.set k (x + 1)))) ?_ rfl ⟨rfl, below_row (D4.out.setCell (Nat.le_refl _) _) (by omega) _⟩
      exact results_cell_row rfl _ _ _ _ _ _ _ rfl ((G1.out.setO w.heap.size k (.int .i64 (x + 1)) (by omega)).row (m := l.set k (x + 1)) (by rw [List.length_set, hl])).h Try.underlying49 rfl (by rw [infoH, Hi.cells_size, List.length_set, hl])
end Go.Proofs.Ytmdpfinadffcaaa
