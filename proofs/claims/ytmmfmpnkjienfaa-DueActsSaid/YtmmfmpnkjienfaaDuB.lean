/-
  slices.Delete of one element of a slice of timers.
-/
import Derived.Test.YtmmfmpnkjienfaaDuA
namespace Go.Proofs.Ytmmfmpnkjienfaa
open Go.RowKit
set_option linter.unusedVariables false

theorem sizeTimer : (Try.prog.info? 39).map (·.size) = some 3 := by kernel_rfl
/-- the cells behind a removal -/
theorem del_cells {cur : List Value} {off cap i : Nat} {r : List Wh.E} {z : List Value} (hz : z.length = 3) (hi : i < r.length) (hcap : r.length ≤ cap) (hs : off + cap * 3 ≤ cur.length) (hc : ∀ k, k < r.length * 3 → cur[off + k]? = (cellsE r)[k]?) :
    ∀ k, k < (r.eraseIdx i).length * 3 → (splice (splice cur (off + i * 3) (cellsE (r.drop (i + 1)))) (off + (r.length - 1) * 3) z)[off + k]? = (cellsE (r.eraseIdx i))[k]? := by
  intro k hk
  have hl : (r.eraseIdx i).length = r.length - 1 := List.length_eraseIdx_of_lt hi
  rw [hl] at hk
  have hdl : (cellsE (r.drop (i + 1))).length = (r.length - (i + 1)) * 3 := by rw [cellsE_length, List.length_drop]
  have hl1 : (splice cur (off + i * 3) (cellsE (r.drop (i + 1)))).length = cur.length := length_splice _ _ _ (by rw [hdl]; omega)
  rw [splice_get _ _ _ (by rw [hl1, hz]; omega), if_pos (by omega), splice_get _ _ _ (by rw [hdl]; omega)]
  have e : r.eraseIdx i = r.take i ++ r.drop (i + 1) := List.eraseIdx_eq_take_drop_succ r i
  rw [e, cellsE_append]
  have htl : (cellsE (r.take i)).length = i * 3 := by rw [cellsE_length, List.length_take]; omega
  by_cases h1 : k < i * 3
  · rw [if_pos (by omega), hc k (by omega), List.getElem?_append_left (by omega), ← cellsE_take, List.getElem?_take_of_lt h1]
  · rw [if_neg (by omega), if_pos (by rw [hdl]; omega), List.getElem?_append_right (by omega), htl]
    congr 1
    omega
theorem zeroTimer : ∀ w, (zeroValue 39).run Try.prog w = .ok (.agg #[.int .i64 0, .int .i64 0, .int .u64 0]) w := Try.zeroValue39

set_option maxRecDepth 100000 in
set_option maxHeartbeats 4000000 in
theorem deleteA (w : World) (B g off cap i j : Nat) (r : List Wh.E) (hj : j = i + 1) (hi : i < r.length) (h : Rd w B (some ⟨g, off, none⟩) cap r) (A : Addr) (hA : (if cap = j then (some ⟨g, off, none⟩ : Option Addr) else some ⟨g, off + j * 3, none⟩) = some A) :
    Calls Try.prog 38 #[.slice (some ⟨g, off, none⟩) r.length cap, .int .i64 (i : Int), .int .i64 (j : Int)] w fun e w' => e = .returned (.slice (some ⟨g, off, none⟩) (r.length - 1) cap) ∧ Rd w' B (some ⟨g, off, none⟩) cap (r.eraseIdx i) ∧ Chg (fun k => k = g) w w' := by
  obtain ⟨g', off', cur, e', hB, hg, hs, hc⟩ := h.is _ rfl
  cases e'
  have hle := h.le
  have hmx := h.mx
  have hdl : (cellsE (r.drop j)).length = (r.length - j) * 3 := by rw [cellsE_length, List.length_drop]
  have hsrc : ∀ t u, (cellsE (r.drop j))[t]? = some u → w.drew.cell? (A.add t) = some u := by
    intro t u hu
    have ht : t < (r.length - j) * 3 := by rw [← hdl]; exact (List.getElem?_eq_some_iff.1 hu).1
    rw [if_neg (by omega)] at hA
    cases hA
    rw [Addr.add_lit]
    show w.cell? _ = _
    rw [cell_of_row w g _ _ _ _ hg]
    have := hc (j * 3 + t) (by omega)
    rw [show off + j * 3 + t = off + (j * 3 + t) by omega]
    rw [← cellsE_drop, List.getElem?_drop] at hu
    rw [hu] at this
    simpa using this
  have hone := cellsE_one (r.drop j)
  have hfin : ∀ w', w'.heap[g]? = some (.cells (splice (splice cur (off + i * 3) (cellsE (r.drop j))) (off + (r.length - 1) * 3) [.int .i64 0, .int .i64 0, .int .u64 0]).toArray 39 (0, 0)) → Rd w' B (some ⟨g, off, none⟩) cap (r.eraseIdx i) := by
    intro w' hw'
    subst hj
    have hl : (r.eraseIdx i).length = r.length - 1 := List.length_eraseIdx_of_lt hi
    have hl1 : (splice cur (off + i * 3) (cellsE (r.drop (i + 1)))).length = cur.length := length_splice _ _ _ (by rw [hdl]; omega)
    refine ⟨by omega, hmx, fun hx => (by cases hx), fun x hx => ?_⟩
    cases hx
    exact ⟨g, off, _, rfl, hB, hw', by rw [length_splice _ _ _ (by rw [hl1]; simp; omega), hl1]; exact hs, del_cells rfl hi hle hs hc⟩
  have hfit : off + i * 3 + (cellsE (r.drop j)).length ≤ cur.length := by rw [hdl]; omega
  have HFIT := Lib.hid hfit
  have HG := Lib.hid (show w.drew.heap[g]? = _ from hg)
  have HF := Lib.hid hfin
  have HS := Lib.hid hsrc
  have H1 := Lib.hid hone
  have HD := Lib.hid hdl
  have HC := Lib.hid hs
  obtain ⟨n, hn⟩ : ∃ n, n = r.length := ⟨_, rfl⟩
  have hin : i < n := by omega
  have hjn : j ≤ n := by omega
  have hnc : n ≤ cap := by omega
  obtain ⟨X, hX⟩ : ∃ X, X = cellsE (r.drop j) := ⟨_, rfl⟩
  rw [← hn] at HF HD ⊢
  rw [← hX] at HF HS H1 HD HFIT
  have ej : ((i : Int) == (j : Int)) = false := by simp; omega
  have hic : i ≤ cap := by omega
  have hij : i ≤ j := by omega
  have hjc : j ≤ cap := by omega
  have HJ := Lib.hid hj
  clear hg hfit hfin hsrc hone hdl hc hle h hn hX hj hs hi
  go_enter Try.func38, Try.ntmps38
  go_wp2_with fail
  go_region_law (refine stepAppRoomO rfl (.tmp 22) (.tmp 25) 28 rfl 39 3 Try.underlying28 sizeTimer g off i cap (by simp [Act.eval, Act.put]) cur HG.out A (n - j) (cap - j) X (by simp [Act.eval, Act.put]) HD.out HS.out H1.out (by omega) HFIT.out ?_; intro w1 hg1 hc1)
  have hj := HJ.out
  have e2 : i + (n - j) = n - 1 := by omega
  have e3 : n - (n - 1) = 1 := by omega
  clear hj
  have hfit2 : off + (n - 1) * 3 + (Value.agg #[.int .i64 0, .int .i64 0, .int .u64 0]).cells.size ≤ (splice cur (off + i * 3) X).length := by
    rw [length_splice _ _ _ HFIT.out, show (Value.agg #[.int .i64 0, .int .i64 0, .int .u64 0]).cells.size = 3 from rfl]
    have := HC.out
    omega
  obtain ⟨w2, hcl, hg2, hc2⟩ := run_clear1 (P := Try.prog) w1 28 39 _ Try.underlying28 zeroTimer g (off + (n - 1) * 3) (splice cur (off + i * 3) X) 39 hg1.out hfit2 (by decide)
  clear hfit2
  go_wp2
  go_ret
  refine ⟨rfl, HF.out w2 hg2.out, ?_⟩
  exact (show Chg (fun k => k = g) w w1 from ⟨hc1.os, hc1.tape, hc1.output, hc1.size, hc1.block⟩).trans hc2 (fun k hk => Or.inl hk)
theorem deleteC (w : World) (B g off cap i : Nat) (r : List Wh.E) (hi : i < r.length) (h : Rd w B (some ⟨g, off, none⟩) cap r) :
    Calls Try.prog 38 #[.slice (some ⟨g, off, none⟩) r.length cap, .int .i64 (i : Int), .int .i64 ((i : Int) + 1)] w fun e w' => e = .returned (.slice (some ⟨g, off, none⟩) (r.length - 1) cap) ∧ Rd w' B (some ⟨g, off, none⟩) cap (r.eraseIdx i) ∧ Chg (fun k => k = g) w w' := by
  by_cases hc : cap = i + 1
  · exact deleteA w B g off cap i (i + 1) r rfl hi h ⟨g, off, none⟩ (by rw [if_pos hc])
  · exact deleteA w B g off cap i (i + 1) r rfl hi h ⟨g, off + (i + 1) * 3, none⟩ (by rw [if_neg hc])
end Go.Proofs.Ytmmfmpnkjienfaa
