/-
  What the functions of layer 1 (octet) return: the big-endian numbers.
-/
import Derived.Test.YtbkcnhnndaejiaaOctA
namespace Go.Proofs.Ytbkcnhnndaejiaa
open Go.RowKit
set_option linter.unusedVariables false
open Bil (bl)

set_option maxHeartbeats 400000 in
theorem refNumber (s : ByteArray) (w : World) (hs0 : s.size ≤ 9223372036854775807) :
    Calls Try.prog 10 #[.string s] w (Same (.tuple #[.int .u64 ((Bil.numberR (bl s)).1 : Nat), .int .i64 (Bil.numberR (bl s)).2]) w) := by
  by_cases h : s.size < 1 ∨ 8 < s.size
  · have e : Bil.numberR (bl s) = (0, 1) := by unfold Bil.numberR; rw [Bil.bl_length, if_pos h]
    rw [e]
    rcases h with h | h
    · go_enter Try.func10, Try.ntmps10
      go_wp2
      go_ret2
      exact ⟨rfl, rfl⟩
    · go_enter Try.func10, Try.ntmps10
      go_wp2
      go_ret2
      exact ⟨rfl, rfl⟩
  · have hs1 : 1 ≤ s.size := by omega
    have hs8 : s.size ≤ 8 := by omega
    have HE : Hid (Bil.numberR (bl s) = (Bil.number (bl s), 0)) := by show _ = _; unfold Bil.numberR; rw [Bil.bl_length, if_neg h]
    clear h hs0
    go_enter Try.func10, Try.ntmps10
    go_wp2
    go_loop [4, 5] (fun x i => ∃ (k u : Nat), k ≤ s.size ∧ i = .int .i64 k ∧ x = .int .u64 (u : Int) ∧ Hid (u = Bil.number ((bl s).take k))) (fun _ i => s.size - (intOf i).toNat)
    case atStart => exact ⟨0, 0, by omega, rfl, rfl, by show _ = _; simp [Bil.number]⟩
    case round =>
      obtain ⟨k, u, hk, rfl, rfl, HU⟩ := hrel
      by_cases hlt : k < s.size
      · have hu : u < 256 ^ k := by
          have := Bil.number_lt ((bl s).take k)
          rw [← HU.out, List.length_take, Bil.bl_length, Nat.min_eq_left hk] at this; exact this
        have hu7 : u < 72057594037927936 := Nat.lt_of_lt_of_le hu (Nat.le_trans (Nat.pow_le_pow_right (by omega) (show k ≤ 7 by omega)) (by decide))
        clear hu
        have hb : s[k].toNat < 256 := s[k].toNat_lt
        have HN : Hid (u * 256 + s[k].toNat = Bil.number ((bl s).take (k + 1))) := by
          show _ = _
          rw [Bil.take_succ_getD _ _ (by rw [Bil.bl_length]; exact hlt), Bil.number_snoc, ← HU.out, Bil.bl_getD s k hlt]
        go_wp2
        refine ⟨⟨k + 1, u * 256 + s[k].toNat, by omega, by go_num, by first | rfl | (congr 1 <;> simp <;> omega), HN⟩, by simp [intOf]; omega⟩
      · obtain rfl : k = s.size := by omega
        have HF : Hid (Bil.numberR (bl s) = (u, 0)) := by
          show _ = _
          rw [HE.out, HU.out, ← Bil.bl_length, List.take_length]
        go_wp2
        go_ret2
        refine ⟨?_, rfl⟩
        rw [HF.out]; rfl

set_option maxHeartbeats 400000 in
theorem octNumber (s : ByteArray) (w : World) (hs0 : s.size ≤ 9223372036854775807) :
    Calls Try.prog 9 #[.string s] w (Same (.tuple #[.int .u64 ((Bil.numberR (bl s)).1 : Nat), .int .i64 (Bil.numberR (bl s)).2]) w) := by
  by_cases h : s.size < 1 ∨ 8 < s.size
  · have e : Bil.numberR (bl s) = (0, 1) := by unfold Bil.numberR; rw [Bil.bl_length, if_pos h]
    rw [e]
    rcases h with h | h
    · go_enter Try.func9, Try.ntmps9
      go_wp2
      go_ret2
      exact ⟨rfl, rfl⟩
    · go_enter Try.func9, Try.ntmps9
      go_wp2
      go_ret2
      exact ⟨rfl, rfl⟩
  · have hs1 : 1 ≤ s.size := by omega
    have hs8 : s.size ≤ 8 := by omega
    have HE : Hid (Bil.numberR (bl s) = (Bil.number (bl s), 0)) := by show _ = _; unfold Bil.numberR; rw [Bil.bl_length, if_neg h]
    clear h hs0
    go_enter Try.func9, Try.ntmps9
    go_wp2
    go_loop [4, 16] (fun x i => ∃ (k u : Nat), k ≤ s.size ∧ i = .int .i64 k ∧ x = .int .u64 (u : Int) ∧ Hid (u = Bil.number ((bl s).take k))) (fun _ i => s.size - (intOf i).toNat)
    case atStart => exact ⟨0, 0, by omega, rfl, rfl, by show _ = _; simp [Bil.number]⟩
    case round =>
      obtain ⟨k, u, hk, rfl, rfl, HU⟩ := hrel
      by_cases hlt : k < s.size
      · have hu : u < 256 ^ k := by
          have := Bil.number_lt ((bl s).take k)
          rw [← HU.out, List.length_take, Bil.bl_length, Nat.min_eq_left hk] at this; exact this
        have hu7 : u < 72057594037927936 := Nat.lt_of_lt_of_le hu (Nat.le_trans (Nat.pow_le_pow_right (by omega) (show k ≤ 7 by omega)) (by decide))
        clear hu
        have hb : s[k].toNat < 256 := s[k].toNat_lt
        have HN : Hid (u * 256 + s[k].toNat = Bil.number ((bl s).take (k + 1))) := by
          show _ = _
          rw [Bil.take_succ_getD _ _ (by rw [Bil.bl_length]; exact hlt), Bil.number_snoc, ← HU.out, Bil.bl_getD s k hlt]
        have HB : Hid (bits BinOp.or IntKind.u64 ((u : Int) * 256) (s[k].toNat : Int) = ((u * 256 + s[k].toNat : Nat) : Int)) := by
          show _ = _
          have := u64_or_nat (u * 256) s[k].toNat (by omega) (by omega)
          rw [nat_join 8 (u * 256) s[k].toNat (by omega) (by omega)] at this
          rw [← this]; rfl
        go_wp2
        refine ⟨⟨k + 1, u * 256 + s[k].toNat, by omega, by go_num, by first | rw [HB.out] | (rw [← HB.out]; congr 2 <;> simp <;> omega), HN⟩, by simp [intOf]; omega⟩
      · obtain rfl : k = s.size := by omega
        have HF : Hid (Bil.numberR (bl s) = (u, 0)) := by
          show _ = _
          rw [HE.out, HU.out, ← Bil.bl_length, List.take_length]
        go_wp2
        go_ret2
        refine ⟨?_, rfl⟩
        rw [HF.out]; rfl

theorem pow_eq (k : Nat) : (2 : Int) ^ (8 * k) = ((256 ^ k : Nat) : Int) := by
  rw [show (256 : Nat) ^ k = 2 ^ (8 * k) from by rw [Nat.pow_mul], Int.natCast_pow]; rfl

set_option maxHeartbeats 400000 in
theorem refFixed (v n : Int) (w : World) (h0 : 0 ≤ v) (h1 : v < 18446744073709551616) (hn0 : -9223372036854775808 ≤ n) (hn1 : n ≤ 9223372036854775807) :
    Calls Try.prog 8 #[.int .u64 v, .int .i64 n] w (Ret (.tuple #[.string ⟨(Bil.fixedR v.toNat n).1.toArray⟩, .int .i64 (Bil.fixedR v.toNat n).2]) w) := by
  by_cases hlo : n < 1
  · have HE : Hid (Bil.fixedR v.toNat n = ([], 1)) := by show _ = _; unfold Bil.fixedR; rw [if_pos (.inl hlo)]
    go_enter Try.func8, Try.ntmps8
    go_wp2
    go_ret2
    refine ⟨?_, Below.refl _ _⟩
    rw [HE.out]; rfl
  · by_cases hhi : 8 < n
    · have HE : Hid (Bil.fixedR v.toNat n = ([], 1)) := by show _ = _; unfold Bil.fixedR; rw [if_pos (.inr hhi)]
      go_enter Try.func8, Try.ntmps8
      go_wp2
      go_ret2
      refine ⟨?_, Below.refl _ _⟩
      rw [HE.out]; rfl
    · obtain ⟨N, rfl⟩ : ∃ N : Nat, n = (N : Int) := ⟨n.toNat, by omega⟩
      clear hn0 hn1
      have hN1 : 1 ≤ N := by omega
      have hN8 : N ≤ 8 := by omega
      have HE : Hid (Bil.fixedR v.toNat N = if v.toNat / 256 ^ N = 0 then (Bil.fixedL v.toNat N, 0) else ([], 1)) := by show _ = _; unfold Bil.fixedR; rw [if_neg (by omega), Int.toNat_natCast]
      clear hlo hhi
      go_enter Try.func8, Try.ntmps8
      go_wp2
      go_loopw [0, 6, 7] (fun x s i wr => ∃ (k : Nat) (u : Int) (l : List UInt8), k ≤ N ∧ i = .int .i64 k ∧ x = .int .u64 u ∧ s = .string ⟨l.toArray⟩ ∧ 0 ≤ u ∧ u < 18446744073709551616 ∧ Hid (u.toNat = v.toNat / 256 ^ k) ∧ Hid (l = Bil.fixedL v.toNat k) ∧ Below w.heap.size w wr) (fun _ _ i _ => N - (intOf i).toNat)
      case atStart => exact ⟨0, v, [], by omega, rfl, rfl, rfl, h0, h1, by show _ = _; simp, by show _ = _; simp [Bil.fixedL], Below.refl _ _⟩
      case round =>
        obtain ⟨k, u, l, hk, rfl, rfl, rfl, hu0, hu, HU, HL, hb⟩ := hrel
        have hll : l.length ≤ 8 := by rw [HL.out, Bil.fixedL_length]; omega
        by_cases hlt : k < N
        · have HU2 : Hid ((u / 256).toNat = v.toNat / 256 ^ (k + 1)) := by
            show _ = _
            rw [show (u / 256).toNat = u.toNat / 256 by omega, HU.out, Nat.div_div_eq_div_mul, Nat.pow_succ]
          have HL2 : Hid ([UInt8.ofNat (u % 256).toNat] ++ l = Bil.fixedL v.toNat (k + 1)) := by
            show _ = _
            rw [Bil.fixedL, ← HL.out, ← HU.out, List.singleton_append]
            congr 1
            have e : (u % 256).toNat = u.toNat % 256 := by omega
            rw [e]; apply UInt8.toNat_inj.1; simp
          have hcv1 := run_byte1 wr (u % 256) (by omega)
          go_wp2
          refine ⟨⟨k + 1, u / 256, [UInt8.ofNat (u % 256).toNat] ++ l, by omega, by go_num, rfl, by rw [ByteArray.mk_append_mk], by omega, by omega, HU2, HL2, hb.alloc hb.size _⟩, by simp [intOf]; omega⟩
        · obtain rfl : k = N := by omega
          by_cases hz : u = 0
          · have HF : Hid (Bil.fixedR v.toNat k = (l, 0)) := by
              show _ = _
              rw [HE.out, ← HU.out, if_pos (by omega), HL.out]
            subst hz
            go_wp2
            go_ret2
            refine ⟨?_, hb⟩
            rw [HF.out]; rfl
          · have HF : Hid (Bil.fixedR v.toNat k = ([], 1)) := by
              show _ = _
              rw [HE.out, ← HU.out, if_neg (by omega)]
            have hz2 : (u != 0) = true := by rw [bne_iff_ne]; omega
            go_wp2
            go_ret2
            refine ⟨?_, hb⟩
            rw [HF.out]; rfl

set_option maxHeartbeats 400000 in
theorem octFixed (v n : Int) (w : World) (h0 : 0 ≤ v) (h1 : v < 18446744073709551616) (hn0 : -9223372036854775808 ≤ n) (hn1 : n ≤ 9223372036854775807) :
    Calls Try.prog 7 #[.int .u64 v, .int .i64 n] w (Ret (.tuple #[.string ⟨(Bil.fixedR v.toNat n).1.toArray⟩, .int .i64 (Bil.fixedR v.toNat n).2]) w) := by
  by_cases hlo : n < 1
  · have HE : Hid (Bil.fixedR v.toNat n = ([], 1)) := by show _ = _; unfold Bil.fixedR; rw [if_pos (.inl hlo)]
    go_enter Try.func7, Try.ntmps7
    go_wp2
    go_ret2
    refine ⟨?_, Below.refl _ _⟩
    rw [HE.out]; rfl
  · by_cases hhi : 8 < n
    · have HE : Hid (Bil.fixedR v.toNat n = ([], 1)) := by show _ = _; unfold Bil.fixedR; rw [if_pos (.inr hhi)]
      go_enter Try.func7, Try.ntmps7
      go_wp2
      go_ret2
      refine ⟨?_, Below.refl _ _⟩
      rw [HE.out]; rfl
    · obtain ⟨N, rfl⟩ : ∃ N : Nat, n = (N : Int) := ⟨n.toNat, by omega⟩
      clear hn0 hn1
      have hN1 : 1 ≤ N := by omega
      have hN8 : N ≤ 8 := by omega
      have HE : Hid (Bil.fixedR v.toNat N = if v.toNat / 256 ^ N = 0 then (Bil.fixedL v.toNat N, 0) else ([], 1)) := by show _ = _; unfold Bil.fixedR; rw [if_neg (by omega), Int.toNat_natCast]
      have hbl := Lib.bitLen_le v.toNat 64 (by omega) (by omega)
      have hiff := Bil.bitLen_le_iff v.toNat (8 * N) (by omega) (by omega)
      rw [← Bil.pow256] at hiff
      have hp : 0 < 256 ^ N := Nat.pow_pos (by omega)
      by_cases hfit : v.toNat < 256 ^ N
      · have hfl : ¬ (8 * (N : Int) < (Lib.bitLen v.toNat : Nat)) := by have := hiff.2 hfit; omega
        have HF : Hid (Bil.fixedR v.toNat N = (Bil.fixedL v.toNat N, 0)) := by
          show _ = _
          rw [HE.out, if_pos (Nat.div_eq_of_lt hfit)]
        clear hiff hp hfit
        have hmk := run_mkbytes N (by omega)
        go_enter Try.func7, Try.ntmps7
        go_wp2_with (go_at_call 31; refine (octLen64 v _ h0 h1).mono ?_; rintro e w' ⟨rfl, rfl⟩)
        go_loopw [24] (fun i wr => ∃ (k : Nat) (C : Array Value), k ≤ N ∧ i = .int .i64 k ∧ C.size = N ∧ wr.heap[w.heap.size]? = some (.cells C 5 (0, 0)) ∧ (∀ j, j < k → C[N - 1 - j]? = some (.int .u8 ((v.toNat / 256 ^ j % 256 : Nat) : Int))) ∧ Below w.heap.size w wr) (fun i _ => N - (intOf i).toNat)
        case atStart => exact ⟨0, _, by omega, rfl, by simp, heap_alloc_new _ _, fun j hj => by omega, (Below.refl _ _).alloc (Nat.le_refl _) _⟩
        case round =>
          obtain ⟨k, C, hk, rfl, hC, hg, ha, hb⟩ := hrel
          by_cases hlt : k < N
          · obtain ⟨old, hold⟩ : ∃ old, C[N - 1 - k]? = some old := ⟨C[N - 1 - k]'(by omega), by rw [Array.getElem?_eq_getElem (by omega)]⟩
            have hcell : wr.cell? ⟨w.heap.size, N - 1 - k, none⟩ = some old := by rw [cell_of_row wr _ _ C _ _ hg]; exact hold
            have hfz : wr.frozen? ⟨w.heap.size, N - 1 - k, none⟩ = false := frozen_of_row wr _ _ C _ hg
            have HG := Lib.hid hg; clear hg
            have HA := Lib.hid ha; clear ha
            have HC := Lib.hid hC; clear hC
            have HO := Lib.hid hold; clear hold
            go_wp2
            have HB : (v / 2 ^ (8 * k) % 256) = ((v.toNat / 256 ^ k % 256 : Nat) : Int) := by
              rw [pow_eq]; obtain ⟨V, rfl⟩ : ∃ V : Nat, v = (V : Int) := ⟨v.toNat, by omega⟩; rw [Int.toNat_natCast]; omega
            rw [HB]
            refine ⟨⟨k + 1, C.setIfInBounds (N - 1 - k) _, by omega, by go_num, by rw [Array.size_setIfInBounds]; exact HC.out, heap_setCell_same _ _ _ _ _ _ HG.out, fun j hj => ?_, hb.setCell (Nat.le_refl _) _⟩, by simp [intOf]; omega⟩
            rw [Array.getElem?_setIfInBounds]
            by_cases h : k = j
            · subst h; rw [if_pos rfl, if_pos (by rw [HC.out]; omega)]
            · rw [if_neg (by omega)]; exact HA.out j (by omega)
          · obtain rfl : k = N := by omega
            have hconv := run_row_str wr w.heap.size k C (Bil.fixedL v.toNat k) hg (Bil.fixedL_length v.toNat k) (fun j hj => by
              rw [Bil.fixedL_length] at hj
              have := ha (k - 1 - j) (by omega)
              rw [show k - 1 - (k - 1 - j) = j by omega] at this
              rw [this, Bil.fixedL_get]
              simp)
            have HG := Lib.hid hg; clear hg
            have HA := Lib.hid ha; clear ha
            have HC := Lib.hid hC; clear hC
            go_wp2
            go_ret2
            refine ⟨?_, hb⟩
            rw [HF.out]; rfl
      · have hfl : (8 * (N : Int) < (Lib.bitLen v.toNat : Nat)) := by
          have : ¬ Lib.bitLen v.toNat ≤ 8 * N := fun h => hfit (hiff.1 h)
          omega
        have HF : Hid (Bil.fixedR v.toNat N = ([], 1)) := by
          show _ = _
          rw [HE.out, if_neg]
          intro h
          rcases Nat.div_eq_zero_iff.1 h with h | h <;> omega
        clear hiff hp hfit
        go_enter Try.func7, Try.ntmps7
        go_wp2_with (go_at_call 31; refine (octLen64 v _ h0 h1).mono ?_; rintro e w' ⟨rfl, rfl⟩)
        go_ret2
        refine ⟨?_, Below.refl _ _⟩
        rw [HF.out]; rfl

end Go.Proofs.Ytbkcnhnndaejiaa
