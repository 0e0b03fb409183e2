/-
  A property's pair, as the program finds it.
-/
import Derived.Test.YtmfnfjcoaijjdaaDoorPropE
import Derived.Test.YtmfnfjcoaijjdaaDoorShelf
import Derived.Laws.ResultCell
namespace Go.Proofs.YtmfnfjcoaijjdaaDoor
open Go.RowKit
set_option linter.unusedVariables false

theorem cloneC (s : ByteArray) (w : World) (hs : s.size ≤ 281474976710656) : Calls Tryd.prog 38 #[.string s] w (Ret (.string s) w) := by
  have c := fun W => Tryd.stringslite_Clone s W hs
  have C := Lib.hid c; clear c
  go_enter Tryd.func38, Tryd.ntmps38
  go_wp2_with (go_at_call 49; (with_reducible refine (C.out _).mono ?_); rintro e w1 ⟨rfl, hb⟩)
  go_ret
  exact ⟨rfl, hb⟩

/-- a pair and an error number -/
def pairV (x : Int × Pr.Pair) : Value := .tuple #[.agg #[.string (mk x.2.1), .string (mk x.2.2)], .int .i64 x.1]
theorem mk_nil : mk [] = .empty := rfl

set_option maxHeartbeats 4000000 in
set_option maxRecDepth 100000 in
theorem pairMiss (s : ByteArray) (w : World) (h : 61 ∉ bl s) : Calls Tryd.prog 18 #[.string s] w (Ret (pairV (Pr.pairOf (bl s))) w) := by
  rw [Pr.pairOf_miss h]
  have HC := Lib.hid (fun W => cutMiss s 61 W h)
  clear h
  go_enter Tryd.func18, Tryd.ntmps18
  go_wp2_with (go_at_call 35; (with_reducible refine (HC.out _).mono ?_); rintro e wB ⟨rfl, hbB⟩; have c0 : wB.cell? ⟨w.heap.size, 0, none⟩ = some (.string .empty) := (hbB.cell (p := ⟨w.heap.size, 0, none⟩) (by simp)).trans (World.cell?_alloc_at _ _ _ 0 rfl); have c1 : wB.cell? ⟨w.heap.size, 1, none⟩ = some (.string .empty) := (hbB.cell (p := ⟨w.heap.size, 1, none⟩) (by simp)).trans (World.cell?_alloc_at _ _ _ 1 rfl); have f0 : wB.frozen? ⟨w.heap.size, 0, none⟩ = false := (hbB.frozen (p := ⟨w.heap.size, 0, none⟩) (by simp)).trans (World.frozen?_alloc_at _ _ _ 0 rfl); have f1 : wB.frozen? ⟨w.heap.size, 1, none⟩ = false := (hbB.frozen (p := ⟨w.heap.size, 1, none⟩) (by simp)).trans (World.frozen?_alloc_at _ _ _ 1 rfl); have hb : Below w.heap.size w wB := ((Below.refl _ _).alloc (Nat.le_refl _) _).trans (hbB.mono (by simp)); have hl : w.heap.size < wB.heap.size := Nat.lt_of_lt_of_le (by simp) hbB.size; clear hbB)
  (try simp only [Exit.inBlock, Exit.then])
  refine bodyPost_ret (v := .tuple #[.agg #[.string (mk []), .string (mk [])], .int .i64 3]) ?_ rfl ?_
  · rw [results_cell_tmp rfl]; go_simp; (try rfl)
  · exact ⟨rfl, (hb.setCell (Nat.le_refl _) _).setCell (Nat.le_refl _) _⟩

set_option maxHeartbeats 4000000 in
set_option maxRecDepth 100000 in
theorem pairMore (a r : Pr.B) (w : World) (ha : 61 ∉ a) (hr : 61 ∈ r) (hz : (a ++ 61 :: r).length ≤ 9223372036854775807) : Calls Tryd.prog 18 #[.string (mk (a ++ 61 :: r))] w (Ret (pairV (Pr.pairOf (a ++ 61 :: r))) w) := by
  rw [Pr.pairOf_more ha hr]
  have HC := Lib.hid (fun W => cutHit a r 61 W ha hz)
  have HN := Lib.hid (fun W => containsC (mk r) 61 W)
  rw [bl_mk', decide_eq_true hr] at HN
  clear ha hr hz
  generalize mk (a ++ 61 :: r) = s at *
  go_enter Tryd.func18, Tryd.ntmps18
  go_wp2_with (first | (go_at_call 35; (with_reducible refine (HC.out _).mono ?_); rintro e wB ⟨rfl, hbB⟩; have c0 : wB.cell? ⟨w.heap.size, 0, none⟩ = some (.string .empty) := (hbB.cell (p := ⟨w.heap.size, 0, none⟩) (by simp)).trans (World.cell?_alloc_at _ _ _ 0 rfl); have c1 : wB.cell? ⟨w.heap.size, 1, none⟩ = some (.string .empty) := (hbB.cell (p := ⟨w.heap.size, 1, none⟩) (by simp)).trans (World.cell?_alloc_at _ _ _ 1 rfl); have f0 : wB.frozen? ⟨w.heap.size, 0, none⟩ = false := (hbB.frozen (p := ⟨w.heap.size, 0, none⟩) (by simp)).trans (World.frozen?_alloc_at _ _ _ 0 rfl); have f1 : wB.frozen? ⟨w.heap.size, 1, none⟩ = false := (hbB.frozen (p := ⟨w.heap.size, 1, none⟩) (by simp)).trans (World.frozen?_alloc_at _ _ _ 1 rfl); have hb : Below w.heap.size w wB := ((Below.refl _ _).alloc (Nat.le_refl _) _).trans (hbB.mono (by simp)); have hl : w.heap.size < wB.heap.size := Nat.lt_of_lt_of_le (by simp) hbB.size; clear hbB) | (go_at_call 36; (with_reducible refine (HN.out _).mono ?_); rintro e wB ⟨rfl, rfl⟩))
  (try simp only [Exit.inBlock, Exit.then])
  refine bodyPost_ret (v := .tuple #[.agg #[.string (mk []), .string (mk [])], .int .i64 3]) ?_ rfl ?_
  · rw [results_cell_tmp rfl]; go_simp; (try rfl)
  · exact ⟨rfl, (hb.setCell (Nat.le_refl _) _).setCell (Nat.le_refl _) _⟩

set_option maxHeartbeats 4000000 in
set_option maxRecDepth 100000 in
theorem pairOne (a r : Pr.B) (w : World) (ha : 61 ∉ a) (hr : 61 ∉ r) (hz : (a ++ 61 :: r).length ≤ 9223372036854775807) : Calls Tryd.prog 18 #[.string (mk (a ++ 61 :: r))] w (Ret (pairV (Pr.pairOf (a ++ 61 :: r))) w) := by
  rw [Pr.pairOf_one ha hr]
  have HC := Lib.hid (fun W => cutHit a r 61 W ha hz)
  have HN := Lib.hid (fun W => containsC (mk r) 61 W)
  rw [bl_mk', decide_eq_false hr] at HN
  have hza : a.length ≤ 9223372036854775807 := by simp at hz; omega
  have hzr : r.length ≤ 9223372036854775807 := by simp at hz; omega
  have HA := Lib.hid (fun W => nameC (mk a) W (by rw [size_mk']; exact hza))
  have HRn := Lib.hid (fun W => nameC (mk r) W (by rw [size_mk']; exact hzr))
  rw [bl_mk'] at HA HRn
  have hok : Pr.okP (a, r) = (Tx.nameL a && (r == [42] || Tx.nameL r)) := rfl
  have e42 := eqOne r 42
  clear ha hr hz hza hzr
  generalize mk (a ++ 61 :: r) = s at *
  cases h1 : Tx.nameL a with
  | false =>
    rw [h1] at HA hok
    rw [if_neg (by rw [hok]; simp)]
    clear hok e42 h1
    go_enter Tryd.func18, Tryd.ntmps18
    go_wp2_with (first | (go_at_call 35; (with_reducible refine (HC.out _).mono ?_); rintro e wB ⟨rfl, hbB⟩; have c0 : wB.cell? ⟨w.heap.size, 0, none⟩ = some (.string .empty) := (hbB.cell (p := ⟨w.heap.size, 0, none⟩) (by simp)).trans (World.cell?_alloc_at _ _ _ 0 rfl); have c1 : wB.cell? ⟨w.heap.size, 1, none⟩ = some (.string .empty) := (hbB.cell (p := ⟨w.heap.size, 1, none⟩) (by simp)).trans (World.cell?_alloc_at _ _ _ 1 rfl); have f0 : wB.frozen? ⟨w.heap.size, 0, none⟩ = false := (hbB.frozen (p := ⟨w.heap.size, 0, none⟩) (by simp)).trans (World.frozen?_alloc_at _ _ _ 0 rfl); have f1 : wB.frozen? ⟨w.heap.size, 1, none⟩ = false := (hbB.frozen (p := ⟨w.heap.size, 1, none⟩) (by simp)).trans (World.frozen?_alloc_at _ _ _ 1 rfl); have hb : Below w.heap.size w wB := ((Below.refl _ _).alloc (Nat.le_refl _) _).trans (hbB.mono (by simp)); have hl : w.heap.size < wB.heap.size := Nat.lt_of_lt_of_le (by simp) hbB.size; clear hbB) | (go_at_call 36; (with_reducible refine (HN.out _).mono ?_); rintro e wB ⟨rfl, rfl⟩) | (go_at_call 37; (with_reducible refine (HA.out _).mono ?_); rintro e wB ⟨rfl, hbB⟩; replace c0 := (hbB.cell (p := ⟨w.heap.size, 0, none⟩) hl).trans c0; replace c1 := (hbB.cell (p := ⟨w.heap.size, 1, none⟩) hl).trans c1; replace f0 := (hbB.frozen (p := ⟨w.heap.size, 0, none⟩) hl).trans f0; replace f1 := (hbB.frozen (p := ⟨w.heap.size, 1, none⟩) hl).trans f1; replace hb := hb.trans (hbB.mono hb.size); replace hl := Nat.lt_of_lt_of_le hl hbB.size; clear hbB))
    (try simp only [Exit.inBlock, Exit.then])
    refine bodyPost_ret (v := .tuple #[.agg #[.string (mk []), .string (mk [])], .int .i64 5]) ?_ rfl ?_
    · rw [results_cell_tmp rfl]; go_simp; (try rfl)
    · exact ⟨rfl, (hb.setCell (Nat.le_refl _) _).setCell (Nat.le_refl _) _⟩
  | true =>
    have hsa := Pr.name_short h1
    have HCA := Lib.hid (fun W => cloneC (mk a) W (by rw [size_mk']; omega))
    rw [h1] at HA hok
    by_cases h42 : r = [42]
    · rw [decide_eq_true h42] at e42
      rw [if_pos (by rw [hok, h42]; simp)]
      have HCR := Lib.hid (fun W => cloneC (mk r) W (by rw [size_mk', h42]; simp))
      clear hok h42 h1
      go_enter Tryd.func18, Tryd.ntmps18
      go_wp2_with (first | (go_at_call 35; (with_reducible refine (HC.out _).mono ?_); rintro e wB ⟨rfl, hbB⟩; have c0 : wB.cell? ⟨w.heap.size, 0, none⟩ = some (.string .empty) := (hbB.cell (p := ⟨w.heap.size, 0, none⟩) (by simp)).trans (World.cell?_alloc_at _ _ _ 0 rfl); have c1 : wB.cell? ⟨w.heap.size, 1, none⟩ = some (.string .empty) := (hbB.cell (p := ⟨w.heap.size, 1, none⟩) (by simp)).trans (World.cell?_alloc_at _ _ _ 1 rfl); have f0 : wB.frozen? ⟨w.heap.size, 0, none⟩ = false := (hbB.frozen (p := ⟨w.heap.size, 0, none⟩) (by simp)).trans (World.frozen?_alloc_at _ _ _ 0 rfl); have f1 : wB.frozen? ⟨w.heap.size, 1, none⟩ = false := (hbB.frozen (p := ⟨w.heap.size, 1, none⟩) (by simp)).trans (World.frozen?_alloc_at _ _ _ 1 rfl); have hb : Below w.heap.size w wB := ((Below.refl _ _).alloc (Nat.le_refl _) _).trans (hbB.mono (by simp)); have hl : w.heap.size < wB.heap.size := Nat.lt_of_lt_of_le (by simp) hbB.size; clear hbB) | (go_at_call 36; (with_reducible refine (HN.out _).mono ?_); rintro e wB ⟨rfl, rfl⟩) | (go_at_call 37; (with_reducible refine (HA.out _).mono ?_); rintro e wB ⟨rfl, hbB⟩; replace c0 := (hbB.cell (p := ⟨w.heap.size, 0, none⟩) hl).trans c0; replace c1 := (hbB.cell (p := ⟨w.heap.size, 1, none⟩) hl).trans c1; replace f0 := (hbB.frozen (p := ⟨w.heap.size, 0, none⟩) hl).trans f0; replace f1 := (hbB.frozen (p := ⟨w.heap.size, 1, none⟩) hl).trans f1; replace hb := hb.trans (hbB.mono hb.size); replace hl := Nat.lt_of_lt_of_le hl hbB.size; clear hbB) | (go_at_call 38; (with_reducible refine (HCA.out _).mono ?_); rintro e wB ⟨rfl, hbB⟩; replace c0 := (hbB.cell (p := ⟨w.heap.size, 0, none⟩) hl).trans c0; replace c1 := (hbB.cell (p := ⟨w.heap.size, 1, none⟩) hl).trans c1; replace f0 := (hbB.frozen (p := ⟨w.heap.size, 0, none⟩) hl).trans f0; replace f1 := (hbB.frozen (p := ⟨w.heap.size, 1, none⟩) hl).trans f1; replace hb := hb.trans (hbB.mono hb.size); replace hl := Nat.lt_of_lt_of_le hl hbB.size; clear hbB) | (go_at_call 38; (with_reducible refine (HCR.out _).mono ?_); rintro e wB ⟨rfl, hbB⟩; replace c0 := (hbB.cell (p := ⟨w.heap.size, 0, none⟩) hl).trans c0; replace c1 := (hbB.cell (p := ⟨w.heap.size, 1, none⟩) hl).trans c1; replace f0 := (hbB.frozen (p := ⟨w.heap.size, 0, none⟩) hl).trans f0; replace f1 := (hbB.frozen (p := ⟨w.heap.size, 1, none⟩) hl).trans f1; replace hb := hb.trans (hbB.mono hb.size); replace hl := Nat.lt_of_lt_of_le hl hbB.size; clear hbB))
      (try simp only [Exit.inBlock, Exit.then])
      refine bodyPost_ret (v := .tuple #[.agg #[.string (mk a), .string (mk r)], .int .i64 0]) ?_ rfl ?_
      · rw [results_cell_tmp rfl]; go_simp; (try rfl)
      · exact ⟨rfl, (hb.setCell (Nat.le_refl _) _).setCell (Nat.le_refl _) _⟩
    · rw [decide_eq_false h42] at e42
      have hvb : (r == [42]) = false := by simp [h42]
      rw [hvb] at hok
      clear h42 hvb
      cases h2 : Tx.nameL r with
      | false =>
        rw [h2] at HRn hok
        rw [if_neg (by rw [hok]; simp)]
        clear hok h1 h2
        go_enter Tryd.func18, Tryd.ntmps18
        go_wp2_with (first | (go_at_call 35; (with_reducible refine (HC.out _).mono ?_); rintro e wB ⟨rfl, hbB⟩; have c0 : wB.cell? ⟨w.heap.size, 0, none⟩ = some (.string .empty) := (hbB.cell (p := ⟨w.heap.size, 0, none⟩) (by simp)).trans (World.cell?_alloc_at _ _ _ 0 rfl); have c1 : wB.cell? ⟨w.heap.size, 1, none⟩ = some (.string .empty) := (hbB.cell (p := ⟨w.heap.size, 1, none⟩) (by simp)).trans (World.cell?_alloc_at _ _ _ 1 rfl); have f0 : wB.frozen? ⟨w.heap.size, 0, none⟩ = false := (hbB.frozen (p := ⟨w.heap.size, 0, none⟩) (by simp)).trans (World.frozen?_alloc_at _ _ _ 0 rfl); have f1 : wB.frozen? ⟨w.heap.size, 1, none⟩ = false := (hbB.frozen (p := ⟨w.heap.size, 1, none⟩) (by simp)).trans (World.frozen?_alloc_at _ _ _ 1 rfl); have hb : Below w.heap.size w wB := ((Below.refl _ _).alloc (Nat.le_refl _) _).trans (hbB.mono (by simp)); have hl : w.heap.size < wB.heap.size := Nat.lt_of_lt_of_le (by simp) hbB.size; clear hbB) | (go_at_call 36; (with_reducible refine (HN.out _).mono ?_); rintro e wB ⟨rfl, rfl⟩) | (go_at_call 37; (with_reducible refine (HA.out _).mono ?_); rintro e wB ⟨rfl, hbB⟩; replace c0 := (hbB.cell (p := ⟨w.heap.size, 0, none⟩) hl).trans c0; replace c1 := (hbB.cell (p := ⟨w.heap.size, 1, none⟩) hl).trans c1; replace f0 := (hbB.frozen (p := ⟨w.heap.size, 0, none⟩) hl).trans f0; replace f1 := (hbB.frozen (p := ⟨w.heap.size, 1, none⟩) hl).trans f1; replace hb := hb.trans (hbB.mono hb.size); replace hl := Nat.lt_of_lt_of_le hl hbB.size; clear hbB) | (go_at_call 37; (with_reducible refine (HRn.out _).mono ?_); rintro e wB ⟨rfl, hbB⟩; replace c0 := (hbB.cell (p := ⟨w.heap.size, 0, none⟩) hl).trans c0; replace c1 := (hbB.cell (p := ⟨w.heap.size, 1, none⟩) hl).trans c1; replace f0 := (hbB.frozen (p := ⟨w.heap.size, 0, none⟩) hl).trans f0; replace f1 := (hbB.frozen (p := ⟨w.heap.size, 1, none⟩) hl).trans f1; replace hb := hb.trans (hbB.mono hb.size); replace hl := Nat.lt_of_lt_of_le hl hbB.size; clear hbB))
        (try simp only [Exit.inBlock, Exit.then])
        refine bodyPost_ret (v := .tuple #[.agg #[.string (mk []), .string (mk [])], .int .i64 5]) ?_ rfl ?_
        · rw [results_cell_tmp rfl]; go_simp; (try rfl)
        · exact ⟨rfl, (hb.setCell (Nat.le_refl _) _).setCell (Nat.le_refl _) _⟩
      | true =>
        have hsr := Pr.name_short h2
        have HCR := Lib.hid (fun W => cloneC (mk r) W (by rw [size_mk']; omega))
        rw [h2] at HRn hok
        rw [if_pos (by rw [hok]; simp)]
        clear hok h1 h2
        go_enter Tryd.func18, Tryd.ntmps18
        go_wp2_with (first | (go_at_call 35; (with_reducible refine (HC.out _).mono ?_); rintro e wB ⟨rfl, hbB⟩; have c0 : wB.cell? ⟨w.heap.size, 0, none⟩ = some (.string .empty) := (hbB.cell (p := ⟨w.heap.size, 0, none⟩) (by simp)).trans (World.cell?_alloc_at _ _ _ 0 rfl); have c1 : wB.cell? ⟨w.heap.size, 1, none⟩ = some (.string .empty) := (hbB.cell (p := ⟨w.heap.size, 1, none⟩) (by simp)).trans (World.cell?_alloc_at _ _ _ 1 rfl); have f0 : wB.frozen? ⟨w.heap.size, 0, none⟩ = false := (hbB.frozen (p := ⟨w.heap.size, 0, none⟩) (by simp)).trans (World.frozen?_alloc_at _ _ _ 0 rfl); have f1 : wB.frozen? ⟨w.heap.size, 1, none⟩ = false := (hbB.frozen (p := ⟨w.heap.size, 1, none⟩) (by simp)).trans (World.frozen?_alloc_at _ _ _ 1 rfl); have hb : Below w.heap.size w wB := ((Below.refl _ _).alloc (Nat.le_refl _) _).trans (hbB.mono (by simp)); have hl : w.heap.size < wB.heap.size := Nat.lt_of_lt_of_le (by simp) hbB.size; clear hbB) | (go_at_call 36; (with_reducible refine (HN.out _).mono ?_); rintro e wB ⟨rfl, rfl⟩) | (go_at_call 37; (with_reducible refine (HA.out _).mono ?_); rintro e wB ⟨rfl, hbB⟩; replace c0 := (hbB.cell (p := ⟨w.heap.size, 0, none⟩) hl).trans c0; replace c1 := (hbB.cell (p := ⟨w.heap.size, 1, none⟩) hl).trans c1; replace f0 := (hbB.frozen (p := ⟨w.heap.size, 0, none⟩) hl).trans f0; replace f1 := (hbB.frozen (p := ⟨w.heap.size, 1, none⟩) hl).trans f1; replace hb := hb.trans (hbB.mono hb.size); replace hl := Nat.lt_of_lt_of_le hl hbB.size; clear hbB) | (go_at_call 37; (with_reducible refine (HRn.out _).mono ?_); rintro e wB ⟨rfl, hbB⟩; replace c0 := (hbB.cell (p := ⟨w.heap.size, 0, none⟩) hl).trans c0; replace c1 := (hbB.cell (p := ⟨w.heap.size, 1, none⟩) hl).trans c1; replace f0 := (hbB.frozen (p := ⟨w.heap.size, 0, none⟩) hl).trans f0; replace f1 := (hbB.frozen (p := ⟨w.heap.size, 1, none⟩) hl).trans f1; replace hb := hb.trans (hbB.mono hb.size); replace hl := Nat.lt_of_lt_of_le hl hbB.size; clear hbB) | (go_at_call 38; (with_reducible refine (HCA.out _).mono ?_); rintro e wB ⟨rfl, hbB⟩; replace c0 := (hbB.cell (p := ⟨w.heap.size, 0, none⟩) hl).trans c0; replace c1 := (hbB.cell (p := ⟨w.heap.size, 1, none⟩) hl).trans c1; replace f0 := (hbB.frozen (p := ⟨w.heap.size, 0, none⟩) hl).trans f0; replace f1 := (hbB.frozen (p := ⟨w.heap.size, 1, none⟩) hl).trans f1; replace hb := hb.trans (hbB.mono hb.size); replace hl := Nat.lt_of_lt_of_le hl hbB.size; clear hbB) | (go_at_call 38; (with_reducible refine (HCR.out _).mono ?_); rintro e wB ⟨rfl, hbB⟩; replace c0 := (hbB.cell (p := ⟨w.heap.size, 0, none⟩) hl).trans c0; replace c1 := (hbB.cell (p := ⟨w.heap.size, 1, none⟩) hl).trans c1; replace f0 := (hbB.frozen (p := ⟨w.heap.size, 0, none⟩) hl).trans f0; replace f1 := (hbB.frozen (p := ⟨w.heap.size, 1, none⟩) hl).trans f1; replace hb := hb.trans (hbB.mono hb.size); replace hl := Nat.lt_of_lt_of_le hl hbB.size; clear hbB))
        (try simp only [Exit.inBlock, Exit.then])
        refine bodyPost_ret (v := .tuple #[.agg #[.string (mk a), .string (mk r)], .int .i64 0]) ?_ rfl ?_
        · rw [results_cell_tmp rfl]; go_simp; (try rfl)
        · exact ⟨rfl, (hb.setCell (Nat.le_refl _) _).setCell (Nat.le_refl _) _⟩

theorem pairC (s : ByteArray) (w : World) (hs : s.size ≤ 9223372036854775807) : Calls Tryd.prog 18 #[.string s] w (Ret (pairV (Pr.pairOf (bl s))) w) := by
  by_cases h : 61 ∈ bl s
  · obtain ⟨a, r, e, ha⟩ := Pr.first_of h
    have es : s = mk (a ++ 61 :: r) := bl_inj (by rw [e, bl_mk'])
    have hz : (a ++ 61 :: r).length ≤ 9223372036854775807 := by rw [← e, bl_length]; exact hs
    rw [e, es]
    by_cases hr : 61 ∈ r
    · exact pairMore a r w ha hr hz
    · exact pairOne a r w ha hr hz
  · exact pairMiss s w h
end Go.Proofs.YtmfnfjcoaijjdaaDoor
