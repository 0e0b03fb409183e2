/-
  The document's wheel behind its pointer: Drop.
-/
import Derived.Test.YtmglpjbikknjgaaWhC
namespace Go.Proofs.Ytmglpjbikknjgaa
open Go.RowKit
set_option linter.unusedVariables false

theorem without_take (l : List Wh.E) (id : Int) (k : Nat) (h : k < l.length) : Wh.without (l.take (k + 1)) id = if l[k].1 = id then Wh.without (l.take k) id else Wh.without (l.take k) id ++ [l[k]] := by
  unfold Wh.without
  rw [List.take_add_one, List.getElem?_eq_getElem h]
  simp only [Option.toList_some, List.filter_append, List.filter_cons, List.filter_nil]
  split
  · rename_i h1; simp at h1; rw [if_neg h1]
  · rename_i h1; simp at h1; rw [if_pos h1]; simp
theorem without_le (l : List Wh.E) (id : Int) : (Wh.without l id).length ≤ l.length := List.length_filter_le _ _

set_option maxRecDepth 100000 in
set_option maxHeartbeats 4000000 in
theorem refDropC (id now : Int) (B R : Nat) (v : Value) (l : List Wh.E) (w : World) (h : Ref w B R now v l) (hl : l.length ≤ 1000000) :
    Calls Try.prog 12 #[.pointer (some ⟨R, 0, none⟩), .int .i64 id] w (RetRef (.bool (decide ((Wh.without l id).length < l.length))) B R now v (Wh.without l id) w) := by
  obtain ⟨a, cap, rfl, hv⟩ := h.row.view
  have hR := lt_block h.cell
  have hBR := h.base
  have hcell := Lib.hid h.cell
  have HV := Lib.hid hv; clear hv
  have H := Lib.hid h; clear h
  go_enter Try.func12, Try.ntmps12
  go_wp2
  go_loopw [5, 6] (fun u i wr => ∃ k : Nat, k ≤ l.length ∧ i = .int .i64 (k : Int) ∧ RowE wr w.heap.size u (Wh.without (l.take k) id) ∧ Below w.heap.size w wr) (fun _ i _ => l.length - (intOf i).toNat)
  case atStart => exact ⟨0, by omega, rfl, by simpa [Wh.without] using RowE.lit w w.heap.size (Nat.le_refl _), (Below.refl _ _).alloc (Nat.le_refl _) _⟩
  case round =>
    obtain ⟨k, hk, rfl, hrow, hb⟩ := hrel
    obtain ⟨a', c', rfl⟩ := own_some hrow
    have hcw := (hb.block R hR).trans hcell.out
    have c1 : wr.cell? ⟨R, 1, none⟩ = some (.slice a l.length cap) := by rw [cell_of_row wr R _ _ _ _ hcw]; rfl
    by_cases hlt : k < l.length
    · obtain ⟨g, rfl, hg, hc⟩ := HV.out.is (by omega)
      obtain ⟨d0, d1, d2⟩ := hc k hlt
      replace d0 := (hb.cell (p := ⟨g, k * 3, none⟩) hg).trans d0
      replace d1 := (hb.cell (p := ⟨g, k * 3 + 1, none⟩) hg).trans d1
      replace d2 := (hb.cell (p := ⟨g, k * 3 + 2, none⟩) hg).trans d2
      have hwt := without_take l id k hlt
      have hpr : l[k] = (l[k].1, l[k].2) := rfl
      have hlen : (Wh.without (l.take k) id).length ≤ 1000000 := by have := without_le (l.take k) id; rw [List.length_take] at this; omega
      rw [hpr] at hwt
      clear hc hpr
      generalize l[k].1 = x at *
      generalize l[k].2 = y at *
      have hb0 := hb.size
      by_cases e : x = id
      · rw [if_pos e] at hwt
        have HROW := Lib.hid hrow
        have HWT := Lib.hid hwt
        clear hrow hwt
        subst e
        go_wp2
        go_roundw
        case rel => exact ⟨k + 1, by omega, by go_num, by rw [HWT.out]; exact HROW.out, hb⟩
        case measure => simp [intOf]; omega
      · rw [if_neg e] at hwt
        have HWT := Lib.hid hwt
        have E : (x != id) = true := by simpa using e
        have hOA : wr.ownsRow w.heap.size 51 3 (.slice a' (Wh.without (l.take k) id).length c') (Wh.without (l.take k) id).length (cellsE (Wh.without (l.take k) id)) := hrow
        clear hrow hwt e
        generalize Wh.without (l.take k) id = m at *
        go_wp2_with (at_builtin; (refine wpApp wr rfl _ _ 28 rfl w.heap.size 51 _ 3 24 Try.underlying28 infoTimer rfl (by decide) (by decide) (.slice a' m.length c') m.length (cellsE m) rfl hOA #[.int .i64 0, .int .i64 x, .int .u64 y] _ rfl rfl (fun u hu => by simp at hu; rcases hu with rfl | rfl | rfl <;> rfl) (by omega) hb0 ?_); intro v' w2 hown hb2 hkeep)
        have hrow2 := RowE.snoc (l := m) (e := (x, y)) hown
        go_roundw
        case rel => exact ⟨k + 1, by omega, by go_num, by rw [HWT.out]; exact hrow2, hb.trans hb2⟩
        case measure => simp [intOf]; omega
    · obtain rfl : k = l.length := by omega
      simp only [List.take_length] at hrow ⊢
      have f1 := frozen_of wr R 1 _ _ hcw
      have hst := fun v' (hr : RowE wr B v' (Wh.without l id)) => ref_stored hcw hr hBR
      have HST := Lib.hid hst; clear hst
      have HROW := Lib.hid hrow; clear hrow
      generalize Wh.without l id = m at *
      go_wp2
      go_ret
      refine ⟨by simp, ⟨_, HST.out _ (own_base HROW.out (Nat.le_trans hBR (Nat.le_of_lt hR))), fun k e => Or.inr (World.ownsRow.lt HROW.out k e).1⟩, ?_⟩
      exact (Chg.of_below (F := RefF R (.slice a l.length cap)) hb).setCell (Or.inl (Or.inl rfl)) _
end Go.Proofs.Ytmglpjbikknjgaa
