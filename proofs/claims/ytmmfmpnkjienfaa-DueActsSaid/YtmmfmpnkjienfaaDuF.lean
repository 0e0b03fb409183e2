/-
  How the program finds a place in the slice: its comparison, slices.BinarySearchFunc.
-/
import Derived.Test.YtmmfmpnkjienfaaDuE
import Derived.Test.YtmmfmpnkjienfaaWhS2
import Derived.StillTailTactics
import Derived.Deep.RegionHeld3
namespace Go.Proofs.Ytmmfmpnkjienfaa
open Go.RowKit
set_option linter.unusedVariables false

theorem cfE_less (x y : Wh.E) : cfE x y < 0 ↔ Wh.less x y := by
  unfold cfE orI Wh.less
  rcases Int.lt_trichotomy x.2 y.2 with h | h | h
  · rw [cmpI_lt h, if_neg (by decide)]
    omega
  · rw [h, cmpI_eq, if_pos rfl]
    rcases Int.lt_trichotomy x.1 y.1 with g | g | g
    · rw [cmpI_lt g]; omega
    · rw [g, cmpI_eq]; omega
    · rw [cmpI_gt g]; omega
  · rw [cmpI_gt h, if_neg (by decide)]
    omega
theorem cfE_zero (x y : Wh.E) : cfE x y = 0 ↔ x = y := by
  obtain ⟨i, a⟩ := x
  obtain ⟨j, b⟩ := y
  unfold cfE orI
  simp only
  rcases Int.lt_trichotomy a b with h | h | h
  · rw [cmpI_lt h, if_neg (by decide)]
    simp
    intro _ e
    omega
  · rw [h, cmpI_eq, if_pos rfl]
    rcases Int.lt_trichotomy i j with g | g | g
    · rw [cmpI_lt g]; simp; omega
    · rw [g, cmpI_eq]; simp
    · rw [cmpI_gt g]; simp; omega
  · rw [cmpI_gt h, if_neg (by decide)]
    simp
    intro _ e
    omega
set_option maxRecDepth 100000 in
set_option maxHeartbeats 2000000 in
theorem orderC (x y : Wh.E) (w : World) : Calls Try.prog 44 #[.agg #[.int .i64 0, .int .i64 x.1, .int .u64 x.2], .agg #[.int .i64 0, .int .i64 y.1, .int .u64 y.2]] w (Ret (.int .i64 (cfE x y)) w) := by
  have hcf : cfE x y = orI (cmpI x.2 y.2) (cmpI x.1 y.1) := by unfold cfE; rfl
  rw [hcf]
  clear hcf
  obtain ⟨i, a⟩ := x
  obtain ⟨j, b⟩ := y
  show Calls Try.prog 44 #[.agg #[.int .i64 0, .int .i64 i, .int .u64 a], .agg #[.int .i64 0, .int .i64 j, .int .u64 b]] w (Ret (.int .i64 (orI (cmpI a b) (cmpI i j))) w)
  have K1 := Lib.hid (fun W => cmpUC a b W)
  have K2 := Lib.hid (fun W => cmpIC i j W)
  have K3 := Lib.hid (fun g cap u v W c0 c1 => orC g cap u v W c0 c1)
  generalize cmpI a b = u at *
  generalize cmpI i j = v at *
  go_enter Try.func44, Try.ntmps44
  go_upto_region 1 with (fail)
  go_region_held3 (fun w' => w'.cell? ⟨w.heap.size, 1, none⟩ = some (.int .i64 i) ∧ w'.cell? ⟨w.heap.size, 2, none⟩ = some (.int .u64 a) ∧ w'.cell? ⟨w.heap.size + 1, 1, none⟩ = some (.int .i64 j) ∧ w'.cell? ⟨w.heap.size + 1, 2, none⟩ = some (.int .u64 b)) (first | go_keep) (first | (go_at_call 46; (with_reducible refine (K1.out _).mono ?_); rintro e w1 ⟨rfl, rfl⟩) | (go_at_call 47; (with_reducible refine (K2.out _).mono ?_); rintro e w1 ⟨rfl, rfl⟩) | (go_at_call 45; refine (K3.out _ _ u v _ (cellNew _ _ _ _ _ (by simp) _ rfl) (cellNew _ _ _ _ _ (by simp) _ rfl)).mono ?_; rintro e w1 ⟨rfl, rfl⟩))
  go_wp2
  go_ret
  refine ⟨rfl, ?_⟩
  have h1 := (Below.refl w.heap.size w).alloc (Nat.le_refl _) (.cells #[.int .i64 0, .int .i64 i, .int .u64 a] 39)
  have h2 := h1.alloc (by simp) (.cells #[.int .i64 0, .int .i64 j, .int .u64 b] 39)
  have h3 := h2.alloc (by simp; omega) (.cells #[.int .i64 u, .int .i64 v] 3)
  exact h3.drew

/-- the place of an element, and whether it is there -/
structure RetFind (r : List Wh.E) (e : Wh.E) (w : World) (en : Ending) (w' : World) : Prop where
  r : ∃ (i : Nat) (b : Bool), en = .returned (.tuple #[.int .i64 (i : Int), .bool b]) ∧ Wh.Place r e i ∧ (b = true ↔ ∃ h : i < r.length, r[i] = e)
  b : Below w.heap.size w w'
set_option maxRecDepth 100000 in
set_option maxHeartbeats 4000000 in
theorem searchC (w : World) (B : Nat) (a : Option Addr) (cap : Nat) (r : List Wh.E) (k t : Int) (hn : r.length ≤ 100000) (hs : r.Pairwise Wh.less) (h : Rd w B a cap r) :
    Calls Try.prog 43 #[.slice a r.length cap, .agg #[.int .i64 0, .int .i64 k, .int .u64 t], .func (.func 44) #[] #[]] w (RetFind r (k, t) w) := by
  have KO := Lib.hid (fun i a W => orderC (i, a) (k, t) W)
  obtain ⟨W0, hW0⟩ : ∃ W0, W0 = w.alloc (.cells #[.int .i64 0, .int .i64 k, .int .u64 t] 39) := ⟨_, rfl⟩
  have hb0 : Below w.heap.size w W0 := by rw [hW0]; exact (Below.refl _ _).alloc (Nat.le_refl _) _
  have hz0 : W0.heap.size = w.heap.size + 1 := by rw [hW0]; simp
  have hq : W0.heap[w.heap.size]? = some (.cells #[.int .i64 0, .int .i64 k, .int .u64 t] 39) := by rw [hW0]; exact heap_alloc_new _ _
  have hcell : ∀ wr, Below W0.heap.size W0 wr → ∀ j (hj : j < r.length), ∃ g off, a = some ⟨g, off, none⟩ ∧ wr.cell? ⟨g, off + j * 3, none⟩ = some (.int .i64 0) ∧ wr.cell? ⟨g, off + j * 3 + 1, none⟩ = some (.int .i64 r[j].1) ∧ wr.cell? ⟨g, off + j * 3 + 2, none⟩ = some (.int .u64 r[j].2) := by
    intro wr hb j hj
    obtain ⟨g, off, cur, rfl, hB, hg, _, hc⟩ := h.got (by omega)
    have hgl := lt_block hg
    obtain ⟨c0, c1, c2⟩ := rd_cells hg hc j hj
    have hbb : Below w.heap.size w wr := hb0.trans (hb.mono hb0.size)
    refine ⟨g, off, rfl, ?_, ?_, ?_⟩
    · rw [hbb.cell (p := ⟨g, _, none⟩) hgl]; exact c0
    · rw [hbb.cell (p := ⟨g, _, none⟩) hgl]; exact c1
    · rw [hbb.cell (p := ⟨g, _, none⟩) hgl]; exact c2
  have hbox : ∀ wr, Below W0.heap.size W0 wr → wr.cell? ⟨w.heap.size, 0, none⟩ = some (.int .i64 0) ∧ wr.cell? ⟨w.heap.size, 1, none⟩ = some (.int .i64 k) ∧ wr.cell? ⟨w.heap.size, 2, none⟩ = some (.int .u64 t) := by
    intro wr hb
    have h1 := (hb.block w.heap.size (by omega)).trans hq
    exact ⟨by rw [cell_of_row wr _ _ _ _ _ h1]; rfl, by rw [cell_of_row wr _ _ _ _ _ h1]; rfl, by rw [cell_of_row wr _ _ _ _ _ h1]; rfl⟩
  have HC := Lib.hid hcell
  have HX := Lib.hid hbox
  have HS := Lib.hid hs
  have HB0 := Lib.hid hb0
  have HSTART := Lib.hid (show Below W0.heap.size W0 (w.alloc (.cells #[.int .i64 0, .int .i64 k, .int .u64 t] 39)) by rw [hW0]; exact Below.refl _ _)
  obtain ⟨n, hnn⟩ : ∃ n, n = r.length := ⟨_, rfl⟩
  have HNN := Lib.hid hnn
  rw [← hnn] at hn ⊢
  clear hcell hbox hs hb0 hz0 hq hW0 h hnn
  go_enter Try.func43, Try.ntmps43
  go_wp2
  go_loopw [9, 10] (fun s9 s10 wr => ∃ lo hi : Nat, s9 = .int .i64 (lo : Int) ∧ s10 = .int .i64 (hi : Int) ∧ lo ≤ hi ∧ hi ≤ n ∧ Hid (Below W0.heap.size W0 wr) ∧ Hid ((∀ j (h : j < r.length), j < lo → Wh.less r[j] (k, t)) ∧ ∀ j (h : j < r.length), hi ≤ j → ¬ Wh.less r[j] (k, t))) (fun s9 s10 _ => (intOf s10).toNat - (intOf s9).toNat)
  case atStart => exact ⟨0, n, rfl, rfl, Nat.zero_le _, Nat.le_refl _, HSTART, Lib.hid ⟨fun j h h2 => absurd h2 (Nat.not_lt_zero _), fun j h h2 => by have := HNN.out; omega⟩⟩
  case round =>
    obtain ⟨lo, hi, rfl, rfl, hlh, hin, hb, hI⟩ := hrel
    clear HSTART
    by_cases hlt : lo < hi
    · obtain ⟨m, hm1, hm2, hmI, hme⟩ : ∃ m : Nat, lo ≤ m ∧ m < hi ∧ ((lo : Int) + (hi : Int)) / 2 = (m : Int) ∧ m = (lo + hi) / 2 := ⟨(lo + hi) / 2, by omega, by omega, by omega, rfl⟩
      have hm : m < r.length := by have := HNN.out; omega
      have hmn : m < n := by omega
      obtain ⟨g, off, rfl, c0, c1, c2⟩ := HC.out _ hb.out (m) hm
      obtain ⟨x0, x1, x2⟩ := HX.out _ hb.out
      have hlo : Wh.less r[m] (k, t) → (∀ j (h : j < r.length), j < m + 1 → Wh.less r[j] (k, t)) := fun hl j h hj => by
        by_cases e : j = m
        · subst e; exact hl
        · have := HS.out
          rw [List.pairwise_iff_getElem] at this
          exact Wh.less_trans (this j _ h hm (by omega)) hl
      have hhi : ¬ Wh.less r[m] (k, t) → (∀ j (h : j < r.length), m ≤ j → ¬ Wh.less r[j] (k, t)) := fun hl j h hj hl2 => by
        by_cases e : j = m
        · subst e; exact hl hl2
        · have := HS.out
          rw [List.pairwise_iff_getElem] at this
          exact hl (Wh.less_trans (this _ j hm h (by omega)) hl2)
      have HLO := Lib.hid hlo
      have HHI := Lib.hid hhi
      have hcf := cfE_less r[m] (k, t)
      have kc := fun W => KO.out r[m].1 r[m].2 W
      rw [show (r[m].1, r[m].2) = r[m] from rfl] at kc
      clear hlo hhi hme
      generalize cfE r[m] (k, t) = c at *
      have KC := Lib.hid kc
      have HCF := Lib.hid hcf
      clear kc hcf
      generalize r[m].1 = y1 at *
      generalize r[m].2 = y2 at *
      by_cases hc0 : c < 0
      · have hl := HLO.out (HCF.out.1 hc0)
        have HL := Lib.hid hl
        clear hl HLO HHI HCF
        go_upto_region 5 with fail
        go_still_tail 6, (by kernel_rfl)
        change wpList _ _ _ _ _ wr.drew
        go_wp2_with (go_at_call 44; (with_reducible refine (KC.out _).mono ?_); rintro e wA ⟨rfl, hbA⟩)
        go_roundw
        case rel => exact ⟨m + 1, hi, by go_num, rfl, by omega, hin, Lib.hid (hb.out.drew.trans (hbA.mono hb.out.drew.size)), Lib.hid ⟨HL.out, hI.out.2⟩⟩
        case measure => simp [intOf]; omega
      · have hl := HHI.out (fun h => hc0 (HCF.out.2 h))
        have HL := Lib.hid hl
        clear hl HLO HHI HCF
        go_upto_region 5 with fail
        go_still_tail 6, (by kernel_rfl)
        change wpList _ _ _ _ _ wr.drew
        go_wp2_with (go_at_call 44; (with_reducible refine (KC.out _).mono ?_); rintro e wA ⟨rfl, hbA⟩)
        go_roundw
        case rel => exact ⟨lo, m, rfl, by go_num, by omega, by omega, Lib.hid (hb.out.drew.trans (hbA.mono hb.out.drew.size)), Lib.hid ⟨hI.out.1, HL.out⟩⟩
        case measure => simp [intOf]; omega
    · obtain rfl : hi = lo := by omega
      have hp : Wh.Place r (k, t) hi := ⟨by have := HNN.out; omega, hI.out.1, hI.out.2⟩
      have HP := Lib.hid hp
      clear hp hI
      by_cases hlast : hi < n
      · have hm : hi < r.length := by have := HNN.out; omega
        obtain ⟨g, off, rfl, c0, c1, c2⟩ := HC.out _ hb.out hi hm
        obtain ⟨x0, x1, x2⟩ := HX.out _ hb.out
        have hcf := cfE_zero r[hi] (k, t)
        have kc := fun W => KO.out r[hi].1 r[hi].2 W
        rw [show (r[hi].1, r[hi].2) = r[hi] from rfl] at kc
        generalize cfE r[hi] (k, t) = c at *
        have KC := Lib.hid kc
        have hfd : (decide (c = 0) = true ↔ ∃ h : hi < r.length, r[hi] = (k, t)) := by
          rw [decide_eq_true_iff, hcf]
          exact ⟨fun h => ⟨hm, h⟩, fun ⟨_, h⟩ => h⟩
        have HFD := Lib.hid hfd
        have hlt2 : decide ((hi : Int) < (n : Int)) = true := decide_eq_true (by omega)
        have hgw : g < wr.heap.size := block_lt_of_cell c0
        have hbw : w.heap.size < wr.heap.size := block_lt_of_cell x0
        clear kc hcf hfd
        generalize r[hi].1 = y1 at *
        generalize r[hi].2 = y2 at *
        have hkeep : ∀ wA, Below wr.drew.heap.size wr.drew wA → wA.cell? ⟨g, off + hi * 3, none⟩ = some (.int .i64 0) ∧ wA.cell? ⟨g, off + hi * 3 + 1, none⟩ = some (.int .i64 y1) ∧ wA.cell? ⟨g, off + hi * 3 + 2, none⟩ = some (.int .u64 y2) ∧ wA.cell? ⟨w.heap.size, 0, none⟩ = some (.int .i64 0) ∧ wA.cell? ⟨w.heap.size, 1, none⟩ = some (.int .i64 k) ∧ wA.cell? ⟨w.heap.size, 2, none⟩ = some (.int .u64 t) := fun wA h =>
          ⟨(h.cell (p := ⟨g, _, none⟩) hgw).trans c0, (h.cell (p := ⟨g, _, none⟩) hgw).trans c1, (h.cell (p := ⟨g, _, none⟩) hgw).trans c2, (h.cell (p := ⟨w.heap.size, _, none⟩) hbw).trans x0, (h.cell (p := ⟨w.heap.size, _, none⟩) hbw).trans x1, (h.cell (p := ⟨w.heap.size, _, none⟩) hbw).trans x2⟩
        have HKEEP := Lib.hid hkeep
        clear hkeep hgw hbw
        go_upto_region 8 with fail
        go_region_held3 (fun w' => w'.cell? ⟨g, off + hi * 3, none⟩ = some (.int .i64 0) ∧ w'.cell? ⟨g, off + hi * 3 + 1, none⟩ = some (.int .i64 y1) ∧ w'.cell? ⟨g, off + hi * 3 + 2, none⟩ = some (.int .u64 y2) ∧ w'.cell? ⟨w.heap.size, 0, none⟩ = some (.int .i64 0) ∧ w'.cell? ⟨w.heap.size, 1, none⟩ = some (.int .i64 k) ∧ w'.cell? ⟨w.heap.size, 2, none⟩ = some (.int .u64 t)) (first | go_keep | exact HKEEP.out _ hbA) (first | (go_at_call 44; (with_reducible refine (KC.out _).mono ?_); rintro e wA ⟨rfl, hbA⟩))
        go_wp2
        go_ret2
        refine ⟨⟨_, _, rfl, HP.out, HFD.out⟩, HB0.out.trans ((hb.out.drew.trans (hbA.mono hb.out.drew.size)).mono HB0.out.size)⟩
      · have hfd : (false = true ↔ ∃ h : hi < r.length, r[hi] = (k, t)) := ⟨fun h => (by cases h), fun ⟨h, _⟩ => (by have := HNN.out; omega)⟩
        have HFD := Lib.hid hfd
        have hlt2 : decide ((hi : Int) < (n : Int)) = false := decide_eq_false (by omega)
        clear hfd
        go_upto_region 8 with fail
        go_quiet (fail)
        go_wp2
        go_ret2
        exact ⟨⟨_, _, rfl, HP.out, HFD.out⟩, HB0.out.trans ((below_drewN hb.out _).mono HB0.out.size)⟩
end Go.Proofs.Ytmmfmpnkjienfaa
