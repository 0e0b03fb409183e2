/-
  slices.Insert of one element inside a slice of timers that has no room; all ways of it together.
-/
import Derived.Test.YtmmfmpnkjienfaaDuD
namespace Go.Proofs.Ytmmfmpnkjienfaa
open Go.RowKit
set_option linter.unusedVariables false

set_option maxRecDepth 100000 in
set_option maxHeartbeats 4000000 in
theorem insertGrow (w : World) (B g off cap vb i : Nat) (r : List Wh.E) (e : Wh.E) (hB : B ≤ w.heap.size) (hi : i < r.length) (hn : r.length ≤ 100000) (h : Rd w B (some ⟨g, off, none⟩) cap r) (hv : New1 w vb e) (hroom : cap = r.length) :
    Calls Try.prog 33 #[.slice (some ⟨g, off, none⟩) r.length cap, .int .i64 (i : Int), .slice (some ⟨vb, 0, none⟩) 1 1] w (RetIns (some ⟨g, off, none⟩) B (r.take i ++ e :: r.drop i) w) := by
  obtain ⟨w1, G, cur, hrun, hgr, hG, hc⟩ := growZ w B g off cap i r hi hn h hroom
  obtain ⟨g', off', cur0, e', hBg, hg, hs, hc0⟩ := h.is _ rfl
  cases e'
  have hmx := h.mx
  have hdl : (cellsE (r.drop i)).length = (r.length - i) * 3 := by rw [cellsE_length, List.length_drop]
  have hgl := lt_block hg
  have hvl := lt_block hv.c
  have hle1 : i * 3 + (pvE e).length ≤ cur.length := by rw [show (pvE e).length = 3 from rfl, hgr.l]; omega
  have hl1 := length_splice _ _ _ hle1
  have hle2 : (i + 1) * 3 + (cellsE (r.drop i)).length ≤ (splice cur (i * 3) (pvE e)).length := by rw [hl1, hdl, hgr.l]; omega
  have hv1 : New1 w1 vb e := ⟨(hgr.b.block vb hvl).trans hv.c⟩
  obtain ⟨w2, hcp, hg2, hc2⟩ := run_copy1 (P := Try.prog) w1 28 28 39 3 Try.underlying28 sizeTimer w.heap.size (i * 3) (r.length + 1 - i) ⟨vb, 0, none⟩ 1 cur 39 hgr.c (pvE e) (by rw [show Nat.min 1 (r.length + 1 - i) = 1 from by show min _ _ = _; omega]; rfl) hv1.src hle1 (pvE_ones e)
  have hsrc : ∀ j v, (cellsE (r.drop i))[j]? = some v → w2.drew.cell? ((⟨g, off + i * 3, none⟩ : Addr).add j) = some v := by
    intro j v hj
    have hjl : j < (r.length - i) * 3 := by rw [← hdl]; exact (List.getElem?_eq_some_iff.1 hj).1
    have hgw : w2.drew.heap[g]? = some (.cells cur0.toArray 39 (0, 0)) := (hc2.block g (Nat.lt_of_lt_of_le hgl hgr.b.size) (by omega)).trans ((hgr.b.block g hgl).trans hg)
    rw [Addr.add_lit, cell_of_row _ g _ _ _ _ hgw]
    have := hc0 (i * 3 + j) (by omega)
    rw [← cellsE_drop, List.getElem?_drop] at hj
    rw [hj] at this
    rw [show off + i * 3 + j = off + (i * 3 + j) by omega]
    simpa using this
  have hfin : ∀ w3, w3.heap[w.heap.size]? = some (.cells (splice (splice cur (i * 3) (pvE e)) ((i + 1) * 3) (cellsE (r.drop i))).toArray 39 (0, 0)) → Chg (fun k => k = w.heap.size) w2.drew w3 →
      RetIns (some ⟨g, off, none⟩) B (r.take i ++ e :: r.drop i) w (.returned (.slice (some ⟨w.heap.size, 0, none⟩) (r.length + 1) G)) w3 := fun w3 hw3 hc3 => by
    have hb1 : Chg (fun _ => False) w w1 := Chg.of_below hgr.b
    have hb2 : Chg (fun k => k = w.heap.size) w w2 := hb1.mono (fun k hk => hk.elim) |>.trans hc2 (fun k hk => Or.inl hk)
    have hb3 : Chg (fun k => k = w.heap.size) w w3 := hb2.drew.trans hc3 (fun k hk => Or.inl hk)
    exact ⟨⟨_, G, by rw [ins_length (by omega)], fill_new hB hi hG hgr.m hgr.l hc hw3, fun x hx => Or.inr (by cases hx; exact Nat.le_refl _)⟩, hb3.mono (fun k hk => Or.inr (by omega))⟩
  have hmin : (cellsE (r.drop i)).length = Nat.min (r.length - i) (r.length + 1 - (i + 1)) * 3 := by
    rw [hdl, show Nat.min (r.length - i) (r.length + 1 - (i + 1)) = r.length - i from by show min _ _ = _; omega]
  have HF := Lib.hid hfin
  have HR := Lib.hid hrun
  have HSRC := Lib.hid hsrc
  have HM := Lib.hid hmin
  have HLE2 := Lib.hid hle2
  have H1 := Lib.hid (cellsE_one (r.drop i))
  have HG2 := Lib.hid (show w2.drew.heap[w.heap.size]? = _ from hg2.out)
  have hGm := hgr.m
  subst hroom
  obtain ⟨n, hn⟩ : ∃ n, n = r.length := ⟨_, rfl⟩
  obtain ⟨X, hX⟩ : ∃ X, X = cellsE (r.drop i) := ⟨_, rfl⟩
  obtain ⟨Z, hZ⟩ : ∃ Z, Z = splice cur (i * 3) (pvE e) := ⟨_, rfl⟩
  obtain ⟨S, hS⟩ : ∃ S, S = w.heap.size := ⟨_, rfl⟩
  have hns : r.length ≤ 100000 := by assumption
  rw [← hX, ← hZ] at HF HLE2
  rw [← hX] at HSRC HM H1
  rw [← hZ] at HG2
  rw [← hS] at HF HR HG2 hcp
  rw [← hn] at HF HR HM hcp hi hG hns ⊢
  clear hfin hrun hsrc hmin hle1 hle2 hl1 hdl hc hc0 hs h hv hv1 hgr hg2 hc2 hg hn hX hZ hS hgl hvl hB hBg
  have hin : i ≤ n := by omega
  have ein : ((i : Int) == (n : Int)) = false := by simp; omega
  have hGi : ¬ G = i := by omega
  have hGi1 : ¬ G = i + 1 := by omega
  have hni : ¬ n = i := by omega
  have hw1 : IntKind.i64.wrap ((i : Int) + 1) = (i : Int) + 1 := by rw [IntKind.wrap_i64]; omega
  have hb1 : (0 : Int) ≤ (i : Int) + 1 := by omega
  have hb2 : (i : Int) ≤ (n : Int) := by omega
  have htn : ((i : Int) + 1).toNat = i + 1 := by omega
  have hb5 : (i : Int) ≤ (n : Int) + 1 := by omega
  go_enter Try.func33, Try.ntmps33
  go_wp2_with (at_builtin; refine Lib.wpList_append_run _ rfl _ _ _ _ rfl _ _ rfl rfl _ _ (HR.out _) ?_)
  go_region_law (refine stepCopyK rfl (.tmp 50) (.tmp 53) 28 28 rfl 39 3 Try.underlying28 sizeTimer S ((i + 1) * 3) (n + 1 - (i + 1)) (G - (i + 1)) ⟨g, off + i * 3, none⟩ (n - i) (n - i) (by simp [Act.eval, Act.put]) (by simp [Act.eval, Act.put]) Z 39 HG2.out X HM.out HSRC.out HLE2.out H1.out ?_; intro w3 hg3 hc3)
  go_wp2
  go_ret
  exact HF.out w3 hg3.out hc3

/-- slices.Insert, all ways -/
theorem insertC (w : World) (B : Nat) (a : Option Addr) (cap vb i : Nat) (r : List Wh.E) (e : Wh.E) (hB : B ≤ w.heap.size) (hi : i ≤ r.length) (hn : r.length ≤ 100000) (h : Rd w B a cap r) (hv : New1 w vb e) (hne : ∀ x, a = some x → vb ≠ x.block) :
    Calls Try.prog 33 #[.slice a r.length cap, .int .i64 (i : Int), .slice (some ⟨vb, 0, none⟩) 1 1] w (RetIns a B (r.take i ++ e :: r.drop i) w) := by
  have hle := h.le
  by_cases h1 : i = r.length
  · subst h1
    rw [List.take_length, List.drop_length]
    by_cases h2 : r.length + 1 ≤ cap
    · cases a with
      | none => have := h.nil rfl; omega
      | some x =>
        obtain ⟨g, off, cur, rfl, _⟩ := h.is x rfl
        exact insertEndRoom w B g off cap vb r e h hv h2
    · exact insertEndGrow w B a cap vb r e hB hn h hv (by omega)
  · obtain ⟨g, off, cur, rfl, _⟩ := h.got (by omega)
    by_cases h2 : r.length + 1 ≤ cap
    · exact insertShift w B g off cap vb i r e (by omega) h hv (hne _ rfl) h2
    · exact insertGrow w B g off cap vb i r e hB (by omega) hn h hv (by omega)
end Go.Proofs.Ytmmfmpnkjienfaa
