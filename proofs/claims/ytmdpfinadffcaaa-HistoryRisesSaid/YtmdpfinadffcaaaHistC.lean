/-
  Total, Right (both sides), and half of all counts.
-/
import Derived.Test.YtmdpfinadffcaaaHistB
namespace Go.Proofs.Ytmdpfinadffcaaa
open Go.RowKit
set_option linter.unusedVariables false

set_option maxRecDepth 100000 in
set_option maxHeartbeats 1000000 in
theorem totalC (l : List Int) (hl : l.length = 16) (hs : ∀ x ∈ l, -1125899906842624 ≤ x ∧ x ≤ 1125899906842624) (w : World) :
    Calls Try.prog 39 #[.agg (Hi.cells l)] w (Ret (.int .i64 (Hi.tot l)) w) := by
  obtain ⟨R, hR⟩ : ∃ R, R = Hi.tot l := ⟨_, rfl⟩
  rw [← hR]
  have HR := Lib.hid hR; clear hR
  go_enter Try.func39, Try.ntmps39
  go_wp2_with (refine wpLoadH _ rfl rfl _ rfl l (heap_alloc_new _ _) hl ?_)
  go_loop [3, 7] (fun x i => ∃ (k : Nat) (u : Int), k ≤ 16 ∧ i = .int .i64 (k : Int) ∧ x = .int .i64 u ∧ Hid (u = Hi.tot (l.take k)) ∧ -(1125899906842624 * (k : Int)) ≤ u ∧ u ≤ 1125899906842624 * (k : Int)) (fun _ i => 16 - (intOf i).toNat)
  case atStart => exact ⟨0, 0, by omega, rfl, rfl, Lib.hid rfl, by omega, by omega⟩
  case round =>
    obtain ⟨k, u, hk, rfl, rfl, HU, hu0, hu1⟩ := hrel
    by_cases hlt : k < 16
    · have hc := fun W => indexH (w := W) hl hlt
      have hx : -1125899906842624 ≤ l.getD k 0 ∧ l.getD k 0 ≤ 1125899906842624 := hs _ (by rw [List.getD_eq_getElem?_getD, List.getElem?_eq_getElem (by omega)]; exact List.getElem_mem _)
      have HT := Lib.hid (Hi.tot_take (l := l) (k := k) (by omega))
      obtain ⟨x, hxe⟩ : ∃ x, x = l.getD k 0 := ⟨_, rfl⟩
      rw [← hxe] at hc hx HT
      clear hxe
      go_wp2
      go_round
      case rel => exact ⟨k + 1, u + x, by omega, by go_num, rfl, Lib.hid (by rw [HT.out, ← HU.out]), by omega, by omega⟩
      case measure => simp [intOf]; omega
    · obtain rfl : k = 16 := by omega
      have HS : Hid (R = u) := Lib.hid (by rw [HR.out, HU.out, List.take_of_length_le (by omega)])
      go_wp2
      go_ret
      exact ⟨by rw [HS.out]; rfl, (Below.refl _ _).alloc (Nat.le_refl _) _⟩

theorem Hi.small.wide {l : List Int} (h : Hi.small l) : ∀ x ∈ l, -1125899906842624 ≤ x ∧ x ≤ 1125899906842624 := fun x hx => by
  have := h x hx
  omega

set_option maxRecDepth 100000 in
set_option maxHeartbeats 1000000 in
theorem refRightC (l : List Int) (hl : l.length = 16) (w : World) :
    Calls Try.prog 26 #[.agg (Hi.cells l)] w (Ret (.bool (Hi.ok l)) w) := by
  obtain ⟨R, hR⟩ : ∃ R, R = Hi.ok l := ⟨_, rfl⟩
  rw [← hR]
  have HR := Lib.hid hR; clear hR
  have hg : (w.alloc (boxH l)).heap[w.heap.size]? = some (boxH l) := heap_alloc_new _ _
  go_enter Try.func26, Try.ntmps26
  go_wp2
  go_loop [3] (fun i => ∃ (k : Nat), k ≤ 16 ∧ i = .int .i64 (k : Int) ∧ Hid (∀ j, j < k → 0 ≤ l.getD j 0 ∧ l.getD j 0 ≤ 64)) (fun i => 16 - (intOf i).toNat)
  case atStart => exact ⟨0, by omega, rfl, Lib.hid (fun j hj => by omega)⟩
  case round =>
    obtain ⟨k, hk, rfl, HU⟩ := hrel
    by_cases hlt : k < 16
    · have hc := cellH hg hl hlt
      have HK := Lib.hid (fun h => HR.out.trans (Hi.ok_no (l := l) (k := k) (by omega) h))
      have HJ := Lib.hid (fun (h : 0 ≤ l.getD k 0 ∧ l.getD k 0 ≤ 64) (j : Nat) (hj : j < k + 1) => (show j < k ∨ j = k by omega).elim (HU.out j) (fun e => by rw [e]; exact h))
      generalize l.getD k 0 = x at *
      by_cases h1 : x < 0
      · have HS := Lib.hid (HK.out (Or.inl h1))
        go_wp2
        go_ret
        exact ⟨by rw [HS.out]; rfl, (Below.refl _ _).alloc (Nat.le_refl _) _⟩
      · by_cases h2 : x > 64
        · have HS := Lib.hid (HK.out (Or.inr h2))
          go_wp2
          go_ret
          exact ⟨by rw [HS.out]; rfl, (Below.refl _ _).alloc (Nat.le_refl _) _⟩
        · go_wp2
          go_round
          case rel => exact ⟨k + 1, by omega, by go_num, Lib.hid (HJ.out ⟨by omega, by omega⟩)⟩
          case measure => simp [intOf]; omega
    · obtain rfl : k = 16 := by omega
      have hsm := Hi.small_of (l := l) (fun j hj => HU.out j (by omega))
      have HS : Hid (R = decide (Hi.tot l ≤ 64)) := Lib.hid (by rw [HR.out, Hi.ok_small hsm])
      have C := Lib.hid (fun W => refTotalC l hl (Hi.small.wide hsm) W)
      generalize Hi.tot l = T at *
      go_wp2_with (first | (refine wpLoadH _ rfl rfl _ rfl l (heap_alloc_new _ _) hl ?_) | (go_at_call 27; (with_reducible refine (C.out _).mono ?_); rintro e w' ⟨rfl, hb⟩))
      go_ret
      exact ⟨by rw [HS.out]; rfl, ((Below.refl _ _).alloc (Nat.le_refl _) _).trans (hb.mono (by simp))⟩

set_option maxRecDepth 100000 in
set_option maxHeartbeats 1000000 in
theorem rightC (l : List Int) (hl : l.length = 16) (w : World) :
    Calls Try.prog 38 #[.agg (Hi.cells l)] w (Ret (.bool (Hi.ok l)) w) := by
  obtain ⟨R, hR⟩ : ∃ R, R = Hi.ok l := ⟨_, rfl⟩
  rw [← hR]
  have HR := Lib.hid hR; clear hR
  go_enter Try.func38, Try.ntmps38
  go_wp2_with (refine wpLoadH _ rfl rfl _ rfl l (heap_alloc_new _ _) hl ?_)
  go_loop [6] (fun i => ∃ (k : Nat), k ≤ 16 ∧ i = .int .i64 (k : Int) ∧ Hid (∀ j, j < k → 0 ≤ l.getD j 0 ∧ l.getD j 0 ≤ 64)) (fun i => 16 - (intOf i).toNat)
  case atStart => exact ⟨0, by omega, rfl, Lib.hid (fun j hj => by omega)⟩
  case round =>
    obtain ⟨k, hk, rfl, HU⟩ := hrel
    by_cases hlt : k < 16
    · have hc := fun W => indexH (w := W) hl hlt
      have HK := Lib.hid (fun h => HR.out.trans (Hi.ok_no (l := l) (k := k) (by omega) h))
      have HJ := Lib.hid (fun (h : 0 ≤ l.getD k 0 ∧ l.getD k 0 ≤ 64) (j : Nat) (hj : j < k + 1) => (show j < k ∨ j = k by omega).elim (HU.out j) (fun e => by rw [e]; exact h))
      generalize l.getD k 0 = x at *
      by_cases h1 : x < 0
      · have HS := Lib.hid (HK.out (Or.inl h1))
        go_wp2
        go_ret
        exact ⟨by rw [HS.out]; rfl, (Below.refl _ _).alloc (Nat.le_refl _) _⟩
      · by_cases h2 : x > 64
        · have HS := Lib.hid (HK.out (Or.inr h2))
          go_wp2
          go_ret
          exact ⟨by rw [HS.out]; rfl, (Below.refl _ _).alloc (Nat.le_refl _) _⟩
        · go_wp2
          go_round
          case rel => exact ⟨k + 1, by omega, by go_num, Lib.hid (HJ.out ⟨by omega, by omega⟩)⟩
          case measure => simp [intOf]; omega
    · obtain rfl : k = 16 := by omega
      have hsm := Hi.small_of (l := l) (fun j hj => HU.out j (by omega))
      have HS : Hid (R = decide (Hi.tot l ≤ 64)) := Lib.hid (by rw [HR.out, Hi.ok_small hsm])
      have C := Lib.hid (fun W => totalC l hl (Hi.small.wide hsm) W)
      generalize Hi.tot l = T at *
      go_wp2_with (first | (refine wpLoadH _ rfl rfl _ rfl l (heap_alloc_new _ _) hl ?_) | (go_at_call 39; (with_reducible refine (C.out _).mono ?_); rintro e w' ⟨rfl, hb⟩))
      go_ret
      exact ⟨by rw [HS.out]; rfl, ((Below.refl _ _).alloc (Nat.le_refl _) _).trans (hb.mono (by simp))⟩
end Go.Proofs.Ytmdpfinadffcaaa
