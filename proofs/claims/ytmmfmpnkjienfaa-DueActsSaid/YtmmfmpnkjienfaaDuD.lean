/-
  slices.Insert of one element inside a slice of timers.
-/
import Derived.Test.YtmmfmpnkjienfaaDuC
namespace Go.Proofs.Ytmmfmpnkjienfaa
open Go.RowKit
set_option linter.unusedVariables false

theorem sizeOfTimer : ∀ w, (Go.sizeOf 39).run Try.prog w = .ok 3 w := Try.sizeOf39
/-- the new element's block is not the slice's -/
theorem overlapsNot (w : World) (g o vb lb cb : Nat) (e : Wh.E) (cur : List Value) (hg : w.heap[g]? = some (.cells cur.toArray 39 (0, 0))) (hv : New1 w vb e) (hne : vb ≠ g) (h0 : cur.length ≠ 0) :
    (callFunc 48 #[.slice (some ⟨vb, 0, none⟩) 1 1, .slice (some ⟨g, o, none⟩) lb cb]).run Try.prog w = .ok (.value (.bool false)) w := by
  have hsa : w.shape? vb = some (39, 3) := by simp [World.shape?, hv.c, pvE]
  have hsb : w.shape? g = some (39, cur.length) := by simp [World.shape?, hg]
  have hf : ∀ k, w.frozen? ⟨vb, k, none⟩ = false := fun k => frozen_of w vb k _ _ hv.c
  rw [run_callFunc_extern Try.func48 (by kernel_rfl) (by kernel_rfl) (by kernel_rfl) (e := Extern.SlicesOverlaps.overlaps #[28, 28] #[4]) (by kernel_rfl),
    Lib.run_overlaps_apart w 28 4 39 Try.underlying28 3 sizeOfTimer ⟨vb, 0, none⟩ ⟨g, o, none⟩ 1 1 lb cb hne _ _ _ _ hsa hsb h0 (hf 0) (hf 3)]
  rfl

set_option maxRecDepth 100000 in
set_option maxHeartbeats 4000000 in
theorem insertShift (w : World) (B g off cap vb i : Nat) (r : List Wh.E) (e : Wh.E) (hi : i < r.length) (h : Rd w B (some ⟨g, off, none⟩) cap r) (hv : New1 w vb e) (hne : vb ≠ g) (hroom : r.length + 1 ≤ cap) :
    Calls Try.prog 33 #[.slice (some ⟨g, off, none⟩) r.length cap, .int .i64 (i : Int), .slice (some ⟨vb, 0, none⟩) 1 1] w (RetIns (some ⟨g, off, none⟩) B (r.take i ++ e :: r.drop i) w) := by
  obtain ⟨g', off', cur, e', hB, hg, hs, hc⟩ := h.is _ rfl
  cases e'
  have hmx := h.mx
  have hdl : (cellsE (r.drop i)).length = (r.length - i) * 3 := by rw [cellsE_length, List.length_drop]
  have hov : ∀ o lb cb, (callFunc 48 #[.slice (some ⟨vb, 0, none⟩) 1 1, .slice (some ⟨g, o, none⟩) lb cb]).run Try.prog w = .ok (.value (.bool false)) w := fun o lb cb => overlapsNot w g o vb lb cb e cur hg hv hne (by omega)
  have hle1 : off + (i + 1) * 3 + (cellsE (r.drop i)).length ≤ cur.length := by rw [hdl]; omega
  have hl1 := length_splice _ _ _ hle1
  have hle2 : off + i * 3 + (pvE e).length ≤ (splice cur (off + (i + 1) * 3) (cellsE (r.drop i))).length := by rw [hl1]; simp [pvE]; omega
  have hsrc : ∀ j v, (cellsE (r.drop i))[j]? = some v → w.drew.cell? ((⟨g, off + i * 3, none⟩ : Addr).add j) = some v := by
    intro j v hj
    have hjl : j < (r.length - i) * 3 := by rw [← hdl]; exact (List.getElem?_eq_some_iff.1 hj).1
    rw [Addr.add_lit]
    show w.cell? _ = _
    rw [cell_of_row w g _ _ _ _ hg]
    have := hc (i * 3 + j) (by omega)
    rw [← cellsE_drop, List.getElem?_drop] at hj
    rw [hj] at this
    rw [show off + i * 3 + j = off + (i * 3 + j) by omega]
    simpa using this
  have hsv : ∀ w1, Chg (fun k => k = g) w.drew w1 → ∀ j v, (pvE e)[j]? = some v → w1.cell? ((⟨vb, 0, none⟩ : Addr).add j) = some v := fun w1 hc1 j v hj => by
    have h1 : New1 w1 vb e := ⟨hc1.keep (show w.drew.heap[vb]? = _ from hv.c) hne⟩
    exact h1.src j v hj
  have hfin : ∀ w', w'.heap[g]? = some (.cells (splice (splice cur (off + (i + 1) * 3) (cellsE (r.drop i))) (off + i * 3) (pvE e)).toArray 39 (0, 0)) → Rd w' B (some ⟨g, off, none⟩) cap (r.take i ++ e :: r.drop i) := fun w' hw' => ins_shift h hg hi hroom hw'
  have HF := Lib.hid hfin
  have HOV := Lib.hid hov
  have HG := Lib.hid (show w.drew.heap[g]? = _ from hg)
  have HSRC := Lib.hid hsrc
  have HSV := Lib.hid hsv
  have HLE1 := Lib.hid hle1
  have HLE2 := Lib.hid hle2
  have HDL := Lib.hid hdl
  have H1 := Lib.hid (cellsE_one (r.drop i))
  have HE1 := Lib.hid (pvE_ones e)
  have HEL := Lib.hid (show (pvE e).length = 3 from rfl)
  have HLEN := Lib.hid (ins_length (r := r) (e := e) (i := i) (by omega))
  obtain ⟨n, hn⟩ : ∃ n, n = r.length := ⟨_, rfl⟩
  obtain ⟨X, hX⟩ : ∃ X, X = cellsE (r.drop i) := ⟨_, rfl⟩
  obtain ⟨Y, hY⟩ : ∃ Y, Y = pvE e := ⟨_, rfl⟩
  rw [← hX, ← hY] at HF HLE2
  rw [← hX] at HSRC HLE1 HDL H1
  rw [← hY] at HSV HE1 HEL
  rw [← hn] at HDL HLEN hi hroom ⊢
  clear hfin hov hg hsrc hsv hle1 hle2 hl1 hdl hc hs h hv hn hX hY
  go_enter Try.func33, Try.ntmps33
  go_wp2_with (simp only [HOV.out])
  have hmin1 : X.length = Nat.min (n + 1 - i) (n + 1 - (i + 1)) * 3 := by
    rw [HDL.out, show Nat.min (n + 1 - i) (n + 1 - (i + 1)) = n - i from by show min _ _ = _; omega]
  have hmin2 : Y.length = Nat.min 1 (n + 1 - i) * 3 := by
    rw [HEL.out, show Nat.min 1 (n + 1 - i) = 1 from by show min _ _ = _; omega]
  have HM1 := Lib.hid hmin1
  have HM2 := Lib.hid hmin2
  clear hmin1 hmin2
  have hw1 : IntKind.i64.wrap ((i : Int) + 1) = (i : Int) + 1 := by rw [IntKind.wrap_i64]; omega
  have hb1 : (0 : Int) ≤ (i : Int) + 1 := by omega
  have hb2 : (i : Int) ≤ (n : Int) := by omega
  have hin : i ≤ n := by omega
  have htn : ((i : Int) + 1).toNat = i + 1 := by omega
  have hb3 : ¬ cap = i + 1 := by omega
  have hb4 : ¬ cap = i := by omega
  have hb5 : (i : Int) ≤ (n : Int) + 1 := by omega
  go_region_law (refine stepCopyK rfl (.tmp 73) (.tmp 76) 28 28 rfl 39 3 Try.underlying28 sizeTimer g (off + (i + 1) * 3) (n + 1 - (i + 1)) (cap - (i + 1)) ⟨g, off + i * 3, none⟩ (n + 1 - i) (cap - i) (by simp [Act.eval, Act.put]) (by simp [Act.eval, Act.put]) cur 39 HG.out X HM1.out HSRC.out HLE1.out H1.out ?_; intro w1 hg1 hc1)
  have HC1 := Lib.hid hc1
  clear hc1
  obtain ⟨w2, hcp, hg2, hc2⟩ := run_copy1 (P := Try.prog) w1 28 28 39 3 Try.underlying28 sizeTimer g (off + i * 3) (n + 1 - i) ⟨vb, 0, none⟩ 1 (splice cur (off + (i + 1) * 3) X) 39 hg1.out Y HM2.out (HSV.out w1 HC1.out) HLE2.out HE1.out
  go_wp2
  go_ret
  have hcw : Chg (fun k => k = g) w w1 := ⟨HC1.out.os, HC1.out.tape, HC1.out.output, HC1.out.size, HC1.out.block⟩
  exact ⟨⟨_, _, by rw [HLEN.out]; rfl, HF.out w2 hg2.out, fun x hx => Or.inl ⟨_, rfl, by cases hx; rfl⟩⟩, (hcw.trans hc2 (fun k hk => Or.inl hk)).mono (fun k hk => Or.inl ⟨_, rfl, hk⟩)⟩

/-- inside, where there is no room -/
theorem growZ (w : World) (B g off cap i : Nat) (r : List Wh.E) (hi : i < r.length) (hn : r.length ≤ 100000) (h : Rd w B (some ⟨g, off, none⟩) cap r) (hroom : cap = r.length) :
    ∃ w1 G cur, (∀ ty, (Builtin.append_ #[28, 3] ty #[.slice (some ⟨g, off, none⟩) i cap, .int .i64 ((r.length : Int) + 1 - (i : Int))]).run Try.prog w = .ok (.slice (some ⟨w.heap.size, 0, none⟩) (r.length + 1) G) w1) ∧ Grown w w1 G cur ∧ r.length + 1 ≤ G ∧ ∀ k, k < i * 3 → cur[k]? = (cellsE r)[k]? := by
  obtain ⟨ii, hii, hz0, hz1, hz2⟩ := info_parts infoTimer
  obtain ⟨g', off', cur, e', hB, hg, hs, hc⟩ := h.is _ rfl
  cases e'
  have hold : (Builtin.firstCells ii.size i (.slice (some ⟨g, off, none⟩) i cap)).run Try.prog w.drew = .ok (cellsE (r.take i)).toArray w.drew := by
    rw [hz1]
    refine run_firstCells_some w.drew 3 i _ _ _ (cellsE (r.take i)) (by rw [cellsE_length, List.length_take]; omega) (fun j v hj => ?_)
    have hjl : j < i * 3 := by
      have := (List.getElem?_eq_some_iff.1 hj).1
      rw [cellsE_length, List.length_take] at this
      omega
    rw [Addr.add_lit]
    show w.cell? _ = _
    rw [cell_of_row w g _ _ _ _ hg]
    have := hc j (by omega)
    rw [← cellsE_take, List.getElem?_take_of_lt hjl] at hj
    rw [hj] at this
    simpa using this
  obtain ⟨G, hG⟩ : ∃ G, G = grownCap w (r.length + 1) cap 39 := ⟨_, rfl⟩
  have hik : i + (r.length + 1 - i) = r.length + 1 := by omega
  have hkk : (r.length : Int) + 1 - (i : Int) = ((r.length + 1 - i : Nat) : Int) := by omega
  have hrun : ∀ ty, (Builtin.append_ #[28, 3] ty #[.slice (some ⟨g, off, none⟩) i cap, .int .i64 ((r.length : Int) + 1 - (i : Int))]).run Try.prog w = .ok (.slice (some ⟨w.heap.size, 0, none⟩) (r.length + 1) G) (w.drew.alloc (.cells ((cellsE (r.take i)).toArray ++ Builtin.zeroCells (Value.agg #[.int .i64 0, .int .i64 0, .int .u64 0]).cells (r.length + 1 - i) ++ Builtin.zeroCells (Value.agg #[.int .i64 0, .int .i64 0, .int .u64 0]).cells (G - (r.length + 1))) 39)) := fun ty => by
    have h := Lib.run_append_grow_zeros w 28 3 ty 39 ii _ .i64 .i64 Try.underlying28 Try.underlying3 hii hz0 (some ⟨g, off, none⟩) i cap (cellsE (r.take i)).toArray.toList (by simpa using hold) (r.length + 1 - i) (by omega) (by omega) (by omega) (by omega) (by rw [hz2]; omega) (by rw [hz2, hik]; exact growslice_fits (by omega) (by omega))
    rw [hik, ← hG] at h
    rw [hkk]
    simpa using h
  have hGe : r.length + 1 ≤ G := by rw [hG]; exact grownCap_ge _ _ _ _
  have hsz : ((cellsE (r.take i)).toArray ++ Builtin.zeroCells (Value.agg #[.int .i64 0, .int .i64 0, .int .u64 0]).cells (r.length + 1 - i) ++ Builtin.zeroCells (Value.agg #[.int .i64 0, .int .i64 0, .int .u64 0]).cells (G - (r.length + 1))).size = G * 3 := by
    rw [Array.size_append, Array.size_append, size_zeroCells, size_zeroCells]
    simp only [List.size_toArray, cellsE_length, List.length_take]
    rw [show (Value.agg #[.int .i64 0, .int .i64 0, .int .u64 0]).cells.size = 3 from rfl]
    omega
  have hgr := grown_alloc w (r.length + 1) cap G _ (by omega) hG hsz
  refine ⟨_, G, _, hrun, hgr.2, hGe, fun k hk => ?_⟩
  rw [Array.toList_append, Array.toList_append, List.getElem?_append_left (by rw [List.length_append, List.toList_toArray, cellsE_length, List.length_take]; omega), List.getElem?_append_left (by rw [List.toList_toArray, cellsE_length, List.length_take]; omega), List.toList_toArray, ← cellsE_take, List.getElem?_take_of_lt hk]

/-- the new row, filled -/
theorem fill_new {w' : World} {B g G i : Nat} {r : List Wh.E} {e : Wh.E} {cur : List Value} (hB : B ≤ g) (hi : i < r.length) (hG : r.length + 1 ≤ G) (hmx : G ≤ 9223372036854775807) (hl : cur.length = G * 3) (hc : ∀ k, k < i * 3 → cur[k]? = (cellsE r)[k]?)
    (hw' : w'.heap[g]? = some (.cells (splice (splice cur (i * 3) (pvE e)) ((i + 1) * 3) (cellsE (r.drop i))).toArray 39 (0, 0))) : Rd w' B (some ⟨g, 0, none⟩) G (r.take i ++ e :: r.drop i) := by
  have hdl : (cellsE (r.drop i)).length = (r.length - i) * 3 := by rw [cellsE_length, List.length_drop]
  have hle1 : i * 3 + (pvE e).length ≤ cur.length := by rw [show (pvE e).length = 3 from rfl]; omega
  have hl1 := length_splice _ _ _ hle1
  have hle2 : (i + 1) * 3 + (cellsE (r.drop i)).length ≤ (splice cur (i * 3) (pvE e)).length := by rw [hl1, hdl]; omega
  have hil := ins_length (r := r) (e := e) (i := i) (by omega)
  refine ins_new hB hw' (by rw [hil]; exact hG) hmx (by rw [length_splice _ _ _ hle2, hl1]; omega) (fun k hk => ?_)
  rw [hil] at hk
  rw [ins_get (by omega), splice_get _ _ _ hle2]
  by_cases h1 : k < i * 3
  · rw [if_pos (by omega), if_pos h1, splice_get _ _ _ hle1, if_pos (by omega), hc k (by omega)]
  · by_cases h2 : k < i * 3 + 3
    · rw [if_pos (by omega), if_neg h1, if_pos h2, splice_get _ _ _ hle1, if_neg (by omega), if_pos (by rw [show (pvE e).length = 3 from rfl]; omega)]
    · rw [if_neg (by omega), if_pos (by rw [hdl]; omega), if_neg h1, if_neg h2, ← cellsE_drop, List.getElem?_drop]
      congr 1
      omega
end Go.Proofs.Ytmmfmpnkjienfaa
