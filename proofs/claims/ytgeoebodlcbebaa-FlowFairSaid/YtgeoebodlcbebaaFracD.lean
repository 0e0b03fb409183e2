/-
  What the document's Near returns.
-/
import Derived.Test.YtgeoebodlcbebaaFracC
namespace Go.Proofs.Ytgeoebodlcbebaa
open Go.RowKit
set_option linter.unusedVariables false

def sixAt (x v y z q c : Int) : Nat → Int
  | 0 => x
  | 1 => v
  | 2 => y
  | 3 => z
  | 4 => q
  | _ => c
theorem sixAt_get (x v y z q c : Int) (k : Nat) (h : k < 6) : (#[Value.int .u64 x, Value.int .u64 v, Value.int .u64 y, Value.int .u64 z, Value.int .u64 q, Value.int .u64 c] : Array Value)[k]? = some (.int .u64 (sixAt x v y z q c k)) := by
  obtain rfl | rfl | rfl | rfl | rfl | rfl : k = 0 ∨ k = 1 ∨ k = 2 ∨ k = 3 ∨ k = 4 ∨ k = 5 := by omega
  all_goals rfl
theorem alloc_new_at (w : World) (C : Array Value) (t : TypeId) (k : Nat) (v : Value) (h : C[k]? = some v) :
    (w.alloc (.cells C t)).cell? ⟨w.heap.size, k, none⟩ = some v ∧ (w.alloc (.cells C t)).frozen? ⟨w.heap.size, k, none⟩ = false := by
  have hg : (w.alloc (.cells C t)).heap[w.heap.size]? = some (.cells C t (0, 0)) := heap_alloc_new _ _
  exact ⟨by rw [cell_of_row _ _ k C _ _ hg]; exact h, frozen_of_row _ _ k C _ hg⟩

set_option maxHeartbeats 1000000 in
theorem refNearC (x v y z q c : Int) (h : Six x v y z q c) (w : World) :
    Calls Try.prog 59 #[.int .u64 x, .int .u64 v, .int .u64 y, .int .u64 z, .int .u64 q, .int .u64 c] w (Ret (.bool (nearI x v y z q c)) w) := by
  have HS := Lib.hid h; clear h
  have hb : Below w.heap.size w (w.alloc (.cells #[Value.int .u64 x, Value.int .u64 v, Value.int .u64 y, Value.int .u64 z, Value.int .u64 q, Value.int .u64 c] 118)) := (Below.refl _ _).alloc (Nat.le_refl _) _
  go_enter Try.func59, Try.ntmps59
  go_wp2
  go_loop [14] (fun i => ∃ k : Nat, k ≤ 6 ∧ i = .int .i64 k ∧ ∀ j, j < k → sixAt x v y z q c j < 1048576) (fun i => 6 - (intOf i).toNat)
  case atStart => exact ⟨0, by omega, rfl, by omega⟩
  case round =>
    obtain ⟨k, hk, rfl, hj⟩ := hrel
    have HJ := Lib.hid hj; clear hj
    by_cases hlt : k < 6
    · obtain ⟨hcell, hfz⟩ := alloc_new_at w #[Value.int .u64 x, Value.int .u64 v, Value.int .u64 y, Value.int .u64 z, Value.int .u64 q, Value.int .u64 c] 118 k _ (sixAt_get x v y z q c k hlt)
      have hs : (0 : Int) ≤ sixAt x v y z q c k := by
        obtain ⟨h1, h2, h3, h4, h5, h6⟩ := HS.out
        obtain rfl | rfl | rfl | rfl | rfl | rfl : k = 0 ∨ k = 1 ∨ k = 2 ∨ k = 3 ∨ k = 4 ∨ k = 5 := by omega
        all_goals (simp only [sixAt]; assumption)
      obtain ⟨s, es⟩ : ∃ s, s = sixAt x v y z q c k := ⟨_, rfl⟩
      rw [← es] at hcell hs
      have ES := Lib.hid es; clear es
      by_cases hge : 1048576 ≤ s
      · have hn : nearI x v y z q c = false := by
          have e := ES.out
          unfold nearI
          rw [decide_eq_false_iff_not]
          rintro ⟨a1, a2, a3, a4, a5, a6, _⟩
          obtain rfl | rfl | rfl | rfl | rfl | rfl : k = 0 ∨ k = 1 ∨ k = 2 ∨ k = 3 ∨ k = 4 ∨ k = 5 := by omega
          all_goals (simp only [sixAt] at e; omega)
        have HN := Lib.hid hn; clear hn
        go_wp2
        go_ret
        exact ⟨by rw [HN.out]; rfl, hb⟩
      · go_wp2
        exact ⟨⟨k + 1, by omega, rfl, fun j hj => by
          rcases Nat.lt_or_eq_of_le (Nat.le_of_lt_succ hj) with h | rfl
          · exact HJ.out j h
          · rw [← ES.out]; omega⟩, by simp [intOf]; omega⟩
    · obtain rfl : k = 6 := by omega
      obtain ⟨hx0, hv0, hy0, hz0, hq0, hc0⟩ := HS.out
      have a1 := HJ.out 0 (by omega)
      have a2 := HJ.out 1 (by omega)
      have a3 := HJ.out 2 (by omega)
      have a4 := HJ.out 3 (by omega)
      have a5 := HJ.out 4 (by omega)
      have a6 := HJ.out 5 (by omega)
      simp only [sixAt] at a1 a2 a3 a4 a5 a6
      by_cases h0 : v = 0 ∨ z = 0
      · have hn : nearI x v y z q c = false := by unfold nearI; rw [decide_eq_false_iff_not]; rintro ⟨_, _, _, _, _, _, a1, a2, _⟩; omega
        have HN := Lib.hid hn; clear hn
        clear hx0 hy0 hq0 hc0 a1 a2 a3 a4 a5 a6 hv0 hz0 hk hlt
        by_cases h1 : v = 0
        · subst h1
          clear h0
          go_wp2
          go_ret
          exact ⟨by rw [HN.out]; rfl, hb⟩
        · have e1 : (v == 0) = false := by simpa using h1
          have h2 : z = 0 := by omega
          subst h2
          clear h0
          go_wp2
          go_ret
          exact ⟨by rw [HN.out]; rfl, hb⟩
      · have e1 : (v == 0) = false := by simp; omega
        have e2 : (z == 0) = false := by simp; omega
        have p1 := prod20 hx0 hz0 (by omega) (by omega)
        have p2 := prod20 hy0 hv0 (by omega) (by omega)
        have p3 := prod20 hq0 hv0 (by omega) (by omega)
        have p4 := prod40 p3.1 hz0 p3.2 (by omega)
        have p5 := prod20 hc0 hz0 (by omega) (by omega)
        have p6 := prod20 hc0 hv0 (by omega) (by omega)
        have w1 := wrap64_in p1.1 (by omega)
        have w2 := wrap64_in p2.1 (by omega)
        have w3 := wrap64_in p3.1 (by omega)
        have w4 := wrap64_in p4.1 (by omega)
        have w5 := wrap64_in p5.1 (by omega)
        have w6 := wrap64_in p6.1 (by omega)
        have hn : nearI x v y z q c = (decide (x * z ≤ y * v + (q * v * z + c * z + c * v)) && decide (y * v ≤ x * z + (q * v * z + c * z + c * v))) := by
          unfold nearI
          rw [← Bool.decide_and, decide_eq_decide]
          constructor
          · rintro ⟨_, _, _, _, _, _, _, _, h⟩; exact h
          · intro h; exact ⟨by omega, by omega, by omega, by omega, by omega, by omega, by omega, by omega, h⟩
        clear h0 a1 a2 a3 a4 a5 a6 hx0 hv0 hy0 hz0 hq0 hc0 hk hlt
        obtain ⟨L, eL⟩ : ∃ L, L = x * z := ⟨_, rfl⟩
        obtain ⟨R, eR⟩ : ∃ R, R = y * v := ⟨_, rfl⟩
        obtain ⟨Q, eQ⟩ : ∃ Q, Q = q * v := ⟨_, rfl⟩
        obtain ⟨C, eC⟩ : ∃ C, C = c * z := ⟨_, rfl⟩
        obtain ⟨D, eD⟩ : ∃ D, D = c * v := ⟨_, rfl⟩
        replace w1 : IntKind.u64.wrap (x * z) = L := by rw [w1, eL]
        replace w2 : IntKind.u64.wrap (y * v) = R := by rw [w2, eR]
        replace w3 : IntKind.u64.wrap (q * v) = Q := by rw [w3, eQ]
        replace w5 : IntKind.u64.wrap (c * z) = C := by rw [w5, eC]
        replace w6 : IntKind.u64.wrap (c * v) = D := by rw [w6, eD]
        rw [← eL, ← eR, ← eQ, ← eC, ← eD] at hn
        rw [← eL] at p1; rw [← eR] at p2; rw [← eQ] at p4 w4; rw [← eC] at p5; rw [← eD] at p6
        obtain ⟨A, eA⟩ : ∃ A, A = Q * z := ⟨_, rfl⟩
        replace w4 : IntKind.u64.wrap (Q * z) = A := by rw [w4, eA]
        rw [← eA] at p4 hn
        clear eL eR eQ eA eC eD p3
        obtain ⟨p10, p11⟩ := p1
        obtain ⟨p20, p21⟩ := p2
        obtain ⟨p40, p41⟩ := p4
        obtain ⟨p50, p51⟩ := p5
        obtain ⟨p60, p61⟩ := p6
        by_cases g : L ≤ R + (A + C + D)
        · have g1 : decide (L ≤ R + (A + C + D)) = true := by simpa using g
          rw [g1, Bool.true_and] at hn
          have HN := Lib.hid hn; clear hn
          go_wp2
          go_ret
          exact ⟨by rw [HN.out]; rfl, hb⟩
        · have g1 : decide (L ≤ R + (A + C + D)) = false := by simpa using g
          rw [g1, Bool.false_and] at hn
          have HN := Lib.hid hn; clear hn
          go_wp2
          go_ret
          exact ⟨by rw [HN.out]; rfl, hb⟩
end Go.Proofs.Ytgeoebodlcbebaa
