/-
  The law's pairs.
-/
import Derived.Test.YtgeoebodlcbebaaFcA
import Derived.Deep.CutRange
import Derived.StillTailTactics
namespace Go.Proofs.Ytgeoebodlcbebaa
open Go.RowKit
open Fl (Lk)
set_option linter.unusedVariables false
set_option linter.unusedSimpArgs false

theorem below_row {B g : Nat} {w w' : World} (h : Below B w w') (hg : B ≤ g) (cs : Array Value) : Below B w (w'.setRow g cs) :=
  ⟨h.os, h.tape, h.output, by rw [setRow_size]; exact h.size, fun k hk => (setRow_other w' g k cs (by omega)).trans (h.block k hk)⟩
abbrev zK : Array Value := #[.int .i64 0, .int .i64 0, .int .i64 0, .int .i64 0, .int .i64 0, .int .i64 0, .int .i64 0, .int .i64 0, .bool false, .bool false, .bool false, .bool false]
/-- a look made of another's cells -/
abbrev madeK (w : World) (k : Lk) : World := (w.alloc (.cells zK 42)).setRow w.heap.size (lkC k)
theorem madeK_box (w : World) (k : Lk) : (madeK w k).heap[w.heap.size]? = some (boxL k) := setRow_heap _ _ _ _ _ _ (heap_alloc_new w _)
theorem madeK_below (w : World) (k : Lk) : Below w.heap.size w (madeK w k) := below_row ((Below.refl _ _).alloc (Nat.le_refl _) _) (Nat.le_refl _) _
/-- two flows have waited, and nothing was dropped, at a look, seen from the last -/
def Both4 (a z : Lk) (i j : Nat) : Prop := a.W i = true ∧ a.W j = true ∧ a.D i = z.D i ∧ a.D j = z.D j
/-- what pairs is to find -/
structure PairsOk (ls : List Lk) (n : Nat) (z : Lk) (wt : Nat → Int) (q C : Int) : Prop where
  len : ls.length = n + 1
  zl : ls[n]? = some z
  le : n ≤ 1000
  t : ∀ k (h : k < ls.length) i, i < 4 → Two4 ls[k] z i wt
  qu : 0 ≤ q ∧ q < 4611686018427387904
  c : 0 ≤ C ∧ C < 4611686018427387904
  near : ∀ i j k (h : k < ls.length), i < 4 → j < i → (∀ m (hm : m < ls.length), k ≤ m → Both4 ls[m] z i j) → nearI (z.T i - ls[k].T i) (wt i) (z.T j - ls[k].T j) (wt j) q C = true
set_option maxRecDepth 100000 in
set_option maxHeartbeats 16000000 in
theorem pairsC (a : Option Addr) (cap : Nat) (ls : List Lk) (n : Nat) (z : Lk) (wt : Nat → Int) (q C : Int) (w : World) (hv : eltK.View w a ls) (h : PairsOk ls n z wt q C) :
    Calls Try.prog 19 #[.slice a ls.length cap, .agg (w4 wt), .int .i64 q, .int .i64 C] w (Ret (.bool true) w) := by
  have hN := h.len
  have hL := h.le
  rw [hN]
  obtain ⟨g, off, rfl, hg, hc⟩ := looks_at hv (by omega)
  have hz : ls[n]'(by omega) = z := by
    have := h.zl
    rw [List.getElem?_eq_getElem (by omega)] at this
    exact Option.some.inj this
  have HC := Lib.hid (fun W (hW : Below w.heap.size w W) j (hj : j < ls.length) => (show W.rangeAt g (off + j * 12) (lkC ls[j]).toList from fun u v hu => (hW.cell (p := ⟨g, _, none⟩) hg).trans (hc j hj u v hu)))
  have HR1 := Lib.hid (HC.out (w.alloc (box4 wt)) ((Below.refl _ _).alloc (Nat.le_refl _) _) n (by omega))
  rw [hz] at HR1
  have HP := Lib.hid h
  clear hc hv h
  go_enter Try.func19, Try.ntmps19
  go_wp2_with (first | (refine wpLoadM _ rfl rfl g (off + n * 12) rfl z HR1.out ?_) | (refine wpStoreK rfl _ _ rfl (w.heap.size + 1) z rfl rfl zK (by simpa using heap_alloc_new (w.alloc (box4 wt)) (.cells zK 42)) rfl ?_))
  have hz1 : (w.alloc (box4 wt)).heap.size = w.heap.size + 1 := by simp
  obtain ⟨W2, hW2⟩ : ∃ W2, W2 = ((w.alloc (box4 wt)).alloc (.cells zK 42)).setRow (w.heap.size + 1) (lkC z) := ⟨_, rfl⟩
  have hb2 : Below w.heap.size w W2 := by rw [hW2]; exact below_row (((Below.refl _ _).alloc (Nat.le_refl _) _).alloc (by simp) _) (by omega) _
  have h9 : W2.heap[w.heap.size + 1]? = some (boxL z) := by
    rw [hW2]
    exact setRow_heap _ _ zK _ _ _ (by simpa using heap_alloc_new (w.alloc (box4 wt)) (.cells zK 42))
  have h5 : W2.heap[w.heap.size]? = some (box4 wt) := by
    rw [hW2, setRow_other _ _ _ _ (by omega), Lib.alloc_old _ _ _ (by simp)]
    exact heap_alloc_new _ _
  rw [← hW2]
  have H5 := Lib.hid (fun W (hW : Below W2.heap.size W2 W) => (hW.block _ (lt_block h5)).trans h5)
  have H9 := Lib.hid (fun W (hW : Below W2.heap.size W2 W) => (hW.block _ (lt_block h9)).trans h9)
  have HB2 := Lib.hid hb2
  obtain ⟨X, hX⟩ : ∃ X, X = w.heap.size := ⟨_, rfl⟩
  rw [← hX] at H5 H9 ⊢
  have HC2 := Lib.hid (fun W (hW : Below W2.heap.size W2 W) j hj => HC.out W (hb2.trans (hW.mono hb2.size)) j hj)
  clear hz1 hW2 hb2 h9 h5 HR1 hz hX HC
  go_loopw [10] (fun s wr => ∃ i : Nat, i ≤ 4 ∧ s = .int .i64 (i : Int) ∧ Hid (Below W2.heap.size W2 wr)) (fun s _ => 4 - (intOf s).toNat)
  case atStart => exact ⟨0, by omega, rfl, Lib.hid (Below.refl _ _)⟩
  case round =>
    obtain ⟨i, hi, rfl, hb⟩ := hrel
    by_cases hi4 : i < 4
    · have ti : (i : Int) < 4 := by omega
      go_wp2
      go_loopw [11] (fun s wr => ∃ j : Nat, j ≤ i ∧ s = .int .i64 (j : Int) ∧ Hid (Below W2.heap.size W2 wr)) (fun s _ => i - (intOf s).toNat)
      case atStart => exact ⟨0, by omega, rfl, hb⟩
      case round =>
        obtain ⟨j, hj, rfl, hbj⟩ := hrel
        clear hb
        by_cases hji : j < i
        · have tj : (j : Int) < 4 := by omega
          go_wp2
          go_loopw [12] (fun s wr => ∃ c : Nat, c ≤ n + 1 ∧ ((c = 0 ∧ s = .int .i64 (-1)) ∨ ∃ k : Nat, c = k + 1 ∧ s = .int .i64 (k : Int)) ∧ Hid (Below W2.heap.size W2 wr ∧ ∀ m (hm : m < ls.length), c ≤ m → Both4 ls[m] z i j)) (fun s _ => (intOf s + 1).toNat)
          case atStart => exact ⟨n + 1, by omega, Or.inr ⟨n, rfl, rfl⟩, Lib.hid ⟨hbj.out, fun m hm hc => by omega⟩⟩
          case round =>
            obtain ⟨c, hc, hcs, hst⟩ := hrel
            clear hbj
            rcases hcs with ⟨rfl, rfl⟩ | ⟨k, rfl, rfl⟩
            · have HE := Lib.hid hst.out.1
              clear hst
              go_wp2
              go_roundw
              case rel => exact ⟨j + 1, by omega, by go_num, HE⟩
              case measure => simp [intOf]; omega
            · have hkl : k < ls.length := by omega
              have HR := Lib.hid (HC2.out wr hst.out.1 k hkl)
              have hbm : Below wr.heap.size wr ((wr.alloc (.cells zK 42)).setRow wr.heap.size (lkC ls[k])) := madeK_below _ _
              have hbw : Below W2.heap.size W2 ((wr.alloc (.cells zK 42)).setRow wr.heap.size (lkC ls[k])) := hst.out.1.trans (hbm.mono hst.out.1.size)
              obtain ⟨W3, hW3⟩ : ∃ W3, W3 = (wr.alloc (.cells zK 42)).setRow wr.heap.size (lkC ls[k]) := ⟨_, rfl⟩
              have h13 : W3.heap[wr.heap.size]? = some (boxL ls[k]) := by rw [hW3]; exact madeK_box _ _
              rw [← hW3] at hbm hbw
              have h9 := H9.out _ hbw
              have c0 := cellW h13 hi4
              have c1 := cellW h13 (show j < 4 by omega)
              have c2 := cellD h13 hi4
              have c3 := cellD h13 (show j < 4 by omega)
              have c4 := cellD h9 hi4
              have c5 := cellD h9 (show j < 4 by omega)
              have HW3 := Lib.hid hW3
              have HBW := Lib.hid hbw
              have H13 := Lib.hid h13
              have HNX : Hid (Both4 ls[k] z i j → ∀ m (hm : m < ls.length), k ≤ m → Both4 ls[m] z i j) := Lib.hid (fun hk m hm hkm => by
                by_cases e : m = k
                · subst e; exact hk
                · exact hst.out.2 m hm (by omega))
              have HNR : Hid (Both4 ls[k] z i j → nearI (z.T i - ls[k].T i) (wt i) (z.T j - ls[k].T j) (wt j) q C = true) := Lib.hid (fun hk => HP.out.near i j k hkl hi4 hji (HNX.out hk))
              have HB4 : Hid (ls[k].W i = true → ls[k].W j = true → ls[k].D i = z.D i → ls[k].D j = z.D j → Both4 ls[k] z i j) := Lib.hid (fun h1 h2 h3 h4 => ⟨h1, h2, h3, h4⟩)
              have KF := Lib.hid (fun W => fairC ls[k] z i j wt q C W (HP.out.t k hkl i hi4) (HP.out.t k hkl j (by omega)) HP.out.qu HP.out.c)
              obtain ⟨Y, hY⟩ : ∃ Y, Y = wr.heap.size := ⟨_, rfl⟩
              have HY := Lib.hid hY
              rw [← hY] at c0 c1 c2 c3 H13
              generalize ls[k] = lk at *
              clear hst hbm hbw h13 h9 hW3 hY
              go_upto_region 12 with (first | (refine wpLoadM _ rfl rfl g (off + k * 12) rfl lk HR.out ?_) | (refine wpStoreK rfl _ _ rfl wr.heap.size lk rfl rfl zK (heap_alloc_new _ _) rfl ?_))
              simp only [Act.put]
              rw [← HW3.out]
              rw [← HY.out]
              cases hw1 : lk.W i with
              | false =>
                rw [hw1] at c0
                clear c1 c2 c3 c4 c5 HNX HNR HB4 KF
                go_quiet (fail)
                have HE := Lib.hid (below_drewN HBW.out nq)
                go_wp2
                go_roundw
                case rel => exact ⟨j + 1, by omega, by go_num, HE⟩
                case measure => simp [intOf]; omega
              | true =>
                rw [hw1] at c0
                cases hw2 : lk.W j with
                | false =>
                  rw [hw2] at c1
                  clear c2 c3 c4 c5 HNX HNR HB4 KF
                  go_quiet (fail)
                  have HE := Lib.hid (below_drewN HBW.out nq)
                  go_wp2
                  go_roundw
                  case rel => exact ⟨j + 1, by omega, by go_num, HE⟩
                  case measure => simp [intOf]; omega
                | true =>
                  rw [hw2] at c1
                  by_cases hd1 : lk.D i = z.D i
                  · rw [hd1] at c2
                    by_cases hd2 : lk.D j = z.D j
                    · rw [hd2] at c3
                      have hB := HB4.out hw1 hw2 hd1 hd2
                      have HNX2 := Lib.hid (HNX.out hB)
                      have hnr := HNR.out hB
                      rw [hnr] at KF
                      have H92 := Lib.hid (fun W (hW : Below W3.heap.size W3 W) => H9.out W (HBW.out.trans (hW.mono HBW.out.size)))
                      have H52 := Lib.hid (fun W (hW : Below W3.heap.size W3 W) => H5.out W (HBW.out.trans (hW.mono HBW.out.size)))
                      have H132 := Lib.hid (fun W (hW : Below W3.heap.size W3 W) => (hW.block _ (lt_block H13.out)).trans H13.out)
                      generalize z.D i = zdi at *
                      generalize z.D j = zdj at *
                      clear hw1 hw2 hd1 hd2 hB hnr HNX HNR HB4
                      go_quiet (fail)
                      have hq3 : Below W3.heap.size W3 (W3.drewN nq) := below_drewN (Below.refl _ _) nq
                      have HQ3 := Lib.hid hq3
                      clear c0 c1 c2 c3 c4 c5 hq3
                      go_wp2_with (first | (refine wpLoadK _ rfl rfl Y rfl lk (H132.out _ HQ3.out) ?_) | (refine wpLoadK _ rfl rfl (X + 1) rfl z (H92.out _ HQ3.out) ?_) | (refine wpLoad4 _ rfl rfl X rfl wt (H52.out _ HQ3.out) ?_) | (go_at_call 43; (with_reducible refine (KF.out _).mono ?_); rintro e wF ⟨rfl, hF⟩))
                      have HE := Lib.hid (And.intro (HBW.out.trans ((HQ3.out.trans (hF.mono HQ3.out.size)).mono HBW.out.size)) HNX2.out)
                      cases k with
                      | zero =>
                        go_roundw
                        case rel => exact ⟨0, by omega, Or.inl ⟨rfl, by go_num⟩, HE⟩
                        case measure => simp [intOf]
                      | succ k =>
                        go_roundw
                        case rel => exact ⟨k + 1, by omega, Or.inr ⟨k, rfl, by go_num⟩, HE⟩
                        case measure => simp [intOf]; omega
                    · have t9 : (lk.D j == z.D j) = false := by simpa using hd2
                      generalize z.D i = zdi at *
                      clear HNX HNR HB4 KF
                      go_quiet (fail)
                      have HE := Lib.hid (below_drewN HBW.out nq)
                      go_wp2
                      go_roundw
                      case rel => exact ⟨j + 1, by omega, by go_num, HE⟩
                      case measure => simp [intOf]; omega
                  · have t9 : (lk.D i == z.D i) = false := by simpa using hd1
                    clear c3 c5 HNX HNR HB4 KF
                    go_quiet (fail)
                    have HE := Lib.hid (below_drewN HBW.out nq)
                    go_wp2
                    go_roundw
                    case rel => exact ⟨j + 1, by omega, by go_num, HE⟩
                    case measure => simp [intOf]; omega
        · obtain rfl : j = i := by omega
          have HE := hbj
          clear hbj
          go_wp2
          go_roundw
          case rel => exact ⟨j + 1, by omega, by go_num, HE⟩
          case measure => simp [intOf]; omega
    · obtain rfl : i = 4 := by omega
      have HE := Lib.hid (HB2.out.trans (hb.out.mono HB2.out.size))
      clear hb
      go_wp2
      go_ret
      exact ⟨rfl, HE.out⟩
end Go.Proofs.Ytgeoebodlcbebaa
