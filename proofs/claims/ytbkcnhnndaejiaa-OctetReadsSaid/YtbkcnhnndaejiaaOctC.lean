/-
  What the functions of layer 1 (octet) return: varints and strings, decoded.
-/
import Derived.Test.YtbkcnhnndaejiaaOctA
namespace Go.Proofs.Ytbkcnhnndaejiaa
open Go.RowKit
set_option linter.unusedVariables false
open Bil (bl)

theorem bits_or_u64_range (a b : Int) (h0 : 0 ≤ a) (h1 : a < 18446744073709551616) : 0 ≤ bits BinOp.or IntKind.u64 a (IntKind.u64.wrap b) ∧ bits BinOp.or IntKind.u64 a (IntKind.u64.wrap b) < 18446744073709551616 := by
  have hw : 0 ≤ IntKind.u64.wrap b ∧ IntKind.u64.wrap b < 18446744073709551616 := by rw [IntKind.wrap_u64]; omega
  rw [u64_or a _ h0 h1 hw.1 hw.2]
  have := Nat.or_lt_two_pow (n := 64) (x := a.toNat) (y := (IntKind.u64.wrap b).toNat) (by omega) (by omega)
  omega

theorem pow128 (k : Nat) : (2 : Int) ^ (7 * k) = ((128 ^ k : Nat) : Int) := by
  rw [show (128 : Nat) ^ k = 2 ^ (7 * k) from by rw [Nat.pow_mul], Int.natCast_pow]; rfl

theorem or_step (a x k : Nat) (hvl : a < 128 ^ k) (hk9 : k ≤ 9) (hkx : k ≤ 8 ∨ x ≤ 1) (ha : (a : Int) < 18446744073709551616) :
    bits BinOp.or IntKind.u64 (a : Int) (IntKind.u64.wrap ((x : Int) % 128 * 128 ^ k)) = ((a + x % 128 * 128 ^ k : Nat) : Int) := by
  have hfit : x % 128 * 128 ^ k < 18446744073709551616 := by
    have e9 : (128 : Nat) ^ 9 = 9223372036854775808 := by decide
    by_cases h9 : k = 9
    · subst h9; have : x % 128 ≤ 1 := by omega
      have := Nat.mul_le_mul_right (128 ^ 9) this
      omega
    · have h1 : 128 ^ k ≤ 128 ^ 8 := Nat.pow_le_pow_right (by omega) (by omega)
      have e8 : (128 : Nat) ^ 8 = 72057594037927936 := by decide
      have h2 := Nat.mul_le_mul (show x % 128 ≤ 127 by omega) h1
      omega
  have e0 : ((x : Int) % 128 * 128 ^ k) = ((x % 128 * 128 ^ k : Nat) : Int) := by
    rw [Int.natCast_mul, Int.natCast_pow]; rfl
  have e1 : IntKind.u64.wrap ((x : Int) % 128 * 128 ^ k) = ((x % 128 * 128 ^ k : Nat) : Int) := by
    rw [e0]; exact IntWalk.u64_in _ (by omega)
  rw [e1, u64_or_nat a _ (by omega) hfit]
  congr 1
  rw [Nat.or_comm, nat_join (7 * k) (x % 128 * 128 ^ k) a (by rw [Nat.pow_mul]; exact Nat.mul_mod_left _ _) (by rw [Nat.pow_mul]; exact hvl), Nat.add_comm]

theorem octMayEnd (i x : Int) (w : World) (hx0 : 0 ≤ x) (hx1 : x < 256) :
    Calls Try.prog 32 #[.int .i64 i, .int .u8 x] w (Same (.bool (Bil.mayEndB i x)) w) := by
  by_cases h9 : i = 9
  · have HE : Hid (Bil.mayEndB i x = (x == 1)) := by show _ = _; unfold Bil.mayEndB; rw [if_pos h9]; exact Bool.eq_iff_iff.2 (by simp)
    subst h9
    go_enter Try.func32, Try.ntmps32
    go_wp2
    go_ret
    refine ⟨?_, rfl⟩
    rw [HE.out]; rfl
  · by_cases h0 : i = 0
    · have HE : Hid (Bil.mayEndB i x = true) := by show _ = _; unfold Bil.mayEndB; rw [if_neg h9]; simp [h0]
      subst h0
      go_enter Try.func32, Try.ntmps32
      go_wp2
      go_ret
      refine ⟨?_, rfl⟩
      rw [HE.out]; rfl
    · have HE : Hid (Bil.mayEndB i x = (x != 0)) := by show _ = _; unfold Bil.mayEndB; rw [if_neg h9]; exact Bool.eq_iff_iff.2 (by simp [h0])
      have b9 : (i == 9) = false := beq_eq_false_iff_ne.2 h9
      have b0 : (i == 0) = false := beq_eq_false_iff_ne.2 h0
      go_enter Try.func32, Try.ntmps32
      go_wp2
      go_ret
      refine ⟨?_, rfl⟩
      rw [HE.out]; rfl

set_option maxHeartbeats 400000 in
theorem octUnchain (s : ByteArray) (w : World) (hs : s.size ≤ 9223372036854775807) :
    Calls Try.prog 13 #[.string s] w (Same (.tuple #[.int .u64 ((Bil.unchain (bl s)).1 : Nat), .int .i64 ((Bil.unchain (bl s)).2.1 : Nat), .int .i64 (Bil.unchain (bl s)).2.2]) w) := by
  obtain ⟨m, hm⟩ : ∃ m : Nat, min (s.size : Int) 10 = (m : Int) := ⟨min s.size 10, by omega⟩
  have hms : m ≤ s.size := by omega
  have hm10 : m ≤ 10 := by omega
  have hme : m = 10 ∨ m = s.size := by omega
  have HME := Lib.hid hme; clear hme
  go_enter Try.func13, Try.ntmps13
  go_wp2
  go_loop [5, 10] (fun x i => ∃ (k : Nat) (u : Int), k ≤ m ∧ i = .int .i64 k ∧ x = .int .u64 u ∧ 0 ≤ u ∧ u < 18446744073709551616 ∧ Hid (k ≤ 9 → u = (Bil.val ((bl s).take k) : Nat)) ∧ Hid (∀ j, j < k → 128 ≤ ((bl s).getD j 0).toNat)) (fun _ i => m - (intOf i).toNat)
  case atStart => exact ⟨0, 0, by omega, rfl, rfl, by omega, by omega, by show _ → _; simp [Bil.val], by show ∀ _, _; intro j hj; omega⟩
  case round =>
    obtain ⟨k, u, hk, rfl, rfl, hu0, hu1, HV, HA⟩ := hrel
    by_cases hlt : k < m
    · have hks : k < s.size := by omega
      have hk9 : k ≤ 9 := by omega
      have hu63 : u < 9223372036854775808 := by
        have := Bil.val_take_lt63 (bl s) k (by rw [Bil.bl_length]; omega) (by omega)
        rw [HV.out hk9]; omega
      obtain ⟨x, hx⟩ : ∃ x : Nat, s[k].toNat = x := ⟨_, rfl⟩
      have hx256 : x < 256 := by rw [← hx]; exact s[k].toNat_lt
      have HX : Hid (((bl s).getD k 0).toNat = x) := by show _ = _; rw [Bil.bl_getD s k hks, hx]
      have hand : bits BinOp.andNot IntKind.u8 (x : Int) 128 = (x : Int) % 128 := by
        have := u8_andNot_nat x 128 hx256 (by omega)
        rw [show 255 - 128 = 2 ^ 7 - 1 from rfl, Nat.and_two_pow_sub_one_eq_mod] at this
        exact this
      have hpw : (2 : Int) ^ (7 * k) = (128 : Int) ^ k := by rw [pow128, Int.natCast_pow]; rfl
      have hand2 : bits BinOp.and IntKind.u8 (x : Int) 128 = (x : Int) / 128 % 2 * 128 := by
        have := u8_and_nat x 128 hx256 (by omega)
        rw [show 128 = 2 ^ 7 from rfl, nat_bit 7 x] at this
        exact this
      have HO : Hid (k ≤ 8 ∨ x ≤ 1 → bits BinOp.or IntKind.u64 u (IntKind.u64.wrap ((x : Int) % 128 * 128 ^ k)) = ((Bil.val ((bl s).take (k + 1)) : Nat) : Int)) := by
        show _ → _
        intro hkx
        have hv := HV.out hk9
        have hvl := (Bil.val_take_lt63 (bl s) k (by rw [Bil.bl_length]; omega) (by omega)).1
        have htl : ((bl s).take k).length = k := by rw [List.length_take, Bil.bl_length]; omega
        rw [Bil.take_succ_getD _ _ (by rw [Bil.bl_length]; exact hks), Bil.val_snoc, htl, HX.out]
        generalize Bil.val ((bl s).take k) = a at hv hvl
        subst hv
        exact or_step a x k hvl hk9 hkx hu1
      have hor0 := bits_or_u64_range u ((x : Int) % 128 * 128 ^ k) hu0 hu1
      obtain ⟨y, hy⟩ : ∃ y, bits BinOp.or IntKind.u64 u (IntKind.u64.wrap ((x : Int) % 128 * 128 ^ k)) = y := ⟨_, rfl⟩
      rw [hy] at hor0 HO
      by_cases hx128 : 128 ≤ x
      · have ht : ((x : Int) / 128 % 2 * 128 != 0) = true := by rw [bne_iff_ne]; omega
        have HA2 : Hid (∀ j, j < k + 1 → 128 ≤ ((bl s).getD j 0).toNat) := by
          show ∀ _, _
          intro j hj
          by_cases hjk : j = k
          · subst hjk; rw [HX.out]; exact hx128
          · exact HA.out j (by omega)
        go_wp2
        refine ⟨⟨k + 1, y, by omega, by go_num, rfl, hor0.1, hor0.2, ?_, HA2⟩, by simp [intOf]; omega⟩
        show _ → _
        intro h9
        exact HO.out (by omega)
      · have ht : ((x : Int) / 128 % 2 * 128 != 0) = false := by rw [bne_eq_false_iff_eq]; omega
        have HE : Hid (Bil.unchain (bl s) = if (k = 9 ∧ 1 < x) ∨ (0 < k ∧ x = 0) then (0, 0, 3) else (Bil.val ((bl s).take (k + 1)), k + 1, 0)) := by
          show _ = _
          rw [Bil.unchain_at (k := k) (by omega) (by rw [Bil.bl_length]; omega) HA.out (.inr (.inr (by rw [HX.out]; omega))), HX.out, if_neg (by omega), if_neg (by rw [Bil.bl_length]; omega)]
        by_cases hm : Bil.mayEndB k x = true
        · have HF : Hid (Bil.unchain (bl s) = (Bil.val ((bl s).take (k + 1)), k + 1, 0) ∧ y = (Bil.val ((bl s).take (k + 1)) : Nat)) := by
            show _ ∧ _
            unfold Bil.mayEndB at hm
            by_cases h9 : k = 9
            · rw [if_pos (by omega)] at hm
              have hx1 : (x : Int) = 1 := by simpa using hm
              exact ⟨by rw [HE.out, if_neg (by omega)], HO.out (by omega)⟩
            · rw [if_neg (by omega)] at hm
              have hx1 : (k : Int) = 0 ∨ (x : Int) ≠ 0 := by simpa using hm
              exact ⟨by rw [HE.out, if_neg (by omega)], HO.out (by omega)⟩
          go_wp2_with (go_at_call 32; refine (octMayEnd k x _ (by omega) (by omega)).mono ?_; rintro e w' ⟨rfl, rfl⟩)
          go_ret3
          refine ⟨?_, rfl⟩
          rw [HF.out.1, HF.out.2]; rfl
        · have hm' : Bil.mayEndB k x = false := by simpa using hm
          have HF : Hid (Bil.unchain (bl s) = (0, 0, 3)) := by
            show _ = _
            rw [HE.out, if_pos]
            unfold Bil.mayEndB at hm'
            by_cases h9 : k = 9
            · rw [if_pos (by omega)] at hm'
              have hx1 : ¬ (x : Int) = 1 := by simpa using hm'
              omega
            · rw [if_neg (by omega)] at hm'
              have hx1 : ¬ ((k : Int) = 0 ∨ (x : Int) ≠ 0) := by simpa using hm'
              omega
          clear hm
          go_wp2_with (go_at_call 32; refine (octMayEnd k x _ (by omega) (by omega)).mono ?_; rintro e w' ⟨rfl, rfl⟩)
          go_ret3
          refine ⟨?_, rfl⟩
          rw [HF.out]; rfl
    · obtain rfl : k = m := by omega
      by_cases h10 : s.size < 10
      · have HF : Hid (Bil.unchain (bl s) = (0, 0, 2)) := by
          show _ = _
          have := HME.out
          rw [Bil.unchain_at (k := k) hm10 (by rw [Bil.bl_length]; omega) HA.out (.inr (.inl (by rw [Bil.bl_length]; omega))), if_neg (by omega), if_pos (by rw [Bil.bl_length]; omega)]
        go_wp2
        go_ret3
        refine ⟨?_, rfl⟩
        rw [HF.out]; rfl
      · have HF : Hid (Bil.unchain (bl s) = (0, 0, 3)) := by
          show _ = _
          have := HME.out
          rw [Bil.unchain_at (k := k) hm10 (by rw [Bil.bl_length]; omega) HA.out (.inl (by omega)), if_pos (by omega)]
        go_wp2
        go_ret3
        refine ⟨?_, rfl⟩
        rw [HF.out]; rfl
theorem octAbove (v m : Int) (w : World) (h0 : 0 ≤ v) (h1 : v < 18446744073709551616) (hm1 : m ≤ 9223372036854775807) (hm0 : -9223372036854775808 ≤ m) :
    Calls Try.prog 33 #[.int .u64 v, .int .i64 m] w (Same (.bool (Bil.aboveB v m)) w) := by
  by_cases hm : m < 0
  · have HE : Hid (Bil.aboveB v m = true) := by show _ = _; simp [Bil.aboveB, hm]
    go_enter Try.func33, Try.ntmps33
    go_wp2
    go_ret
    refine ⟨?_, rfl⟩
    rw [HE.out]; rfl
  · have hm' : 0 ≤ m := by omega
    have hd0 : decide (m < 0) = false := by simpa using hm
    clear hm hm0
    by_cases hv : m < v
    · have HE : Hid (Bil.aboveB v m = true) := by show _ = _; simp [Bil.aboveB, hv]
      go_enter Try.func33, Try.ntmps33
      go_wp2
      go_ret
      refine ⟨?_, rfl⟩
      rw [HE.out]; first | rfl | simp [hv] | simp [hd0]
    · have HE : Hid (Bil.aboveB v m = false) := by show _ = _; simp [Bil.aboveB, hv]; omega
      have hd : decide (m < v) = false := by simpa using hv
      go_enter Try.func33, Try.ntmps33
      go_wp2
      go_ret
      refine ⟨?_, rfl⟩
      rw [HE.out]; first | rfl | simp [hv] | simp [hd0]

set_option maxRecDepth 100000 in
set_option maxHeartbeats 800000 in
theorem refUnchain (s : ByteArray) (w : World) (hs : s.size ≤ 9223372036854775807) :
    Calls Try.prog 14 #[.string s] w (Same (.tuple #[.int .u64 ((Bil.unchain (bl s)).1 : Nat), .int .i64 ((Bil.unchain (bl s)).2.1 : Nat), .int .i64 (Bil.unchain (bl s)).2.2]) w) := by
  go_enter Try.func14, Try.ntmps14
  go_wp2
  go_loop [5] (fun i => ∃ (k : Nat), k ≤ s.size ∧ k ≤ 10 ∧ i = .int .i64 k ∧ Hid (∀ j, j < k → 128 ≤ ((bl s).getD j 0).toNat)) (fun i => 10 - (intOf i).toNat)
  case atStart => exact ⟨0, by omega, by omega, rfl, by show ∀ _, _; intro j hj; omega⟩
  case round =>
    obtain ⟨k, hks, hk10, rfl, HA⟩ := hrel
    by_cases h10 : k = 10
    · subst h10
      have HF : Hid (Bil.unchain (bl s) = (0, 0, 3)) := by
        show _ = _
        rw [Bil.unchain_at (k := 10) (by omega) (by rw [Bil.bl_length]; omega) HA.out (.inl rfl), if_pos rfl]
      by_cases hsz : 10 < s.size
      · go_wp2
        go_ret3
        refine ⟨?_, rfl⟩
        rw [HF.out]; rfl
      · go_wp2
        go_ret3
        refine ⟨?_, rfl⟩
        rw [HF.out]; rfl
    · have hkl : k < 10 := by omega
      have b10 : ((k : Int) == 10) = false := by rw [beq_eq_false_iff_ne]; omega
      clear h10
      by_cases hsz : k = s.size
      · have HF : Hid (Bil.unchain (bl s) = (0, 0, 2)) := by
          show _ = _
          rw [Bil.unchain_at (k := k) (by omega) (by rw [Bil.bl_length]; omega) HA.out (.inr (.inl (by rw [Bil.bl_length]; exact hsz))), if_neg (by omega), if_pos (by rw [Bil.bl_length]; exact hsz)]
        subst hsz
        go_wp2
        go_ret3
        refine ⟨?_, rfl⟩
        rw [HF.out]; rfl
      · have hlt : k < s.size := by omega
        have bsz : ((k : Int) == (s.size : Int)) = false := by rw [beq_eq_false_iff_ne]; omega
        clear hsz
        obtain ⟨x, hx⟩ : ∃ x : Nat, s[k].toNat = x := ⟨_, rfl⟩
        have hx256 : x < 256 := by rw [← hx]; exact s[k].toNat_lt
        have HX : Hid (((bl s).getD k 0).toNat = x) := by show _ = _; rw [Bil.bl_getD s k hlt, hx]
        by_cases hx128 : 128 ≤ x
        · have HA2 : Hid (∀ j, j < k + 1 → 128 ≤ ((bl s).getD j 0).toNat) := by
            show ∀ _, _
            intro j hj
            by_cases hjk : j = k
            · subst hjk; rw [HX.out]; exact hx128
            · exact HA.out j (by omega)
          go_wp2
          exact ⟨⟨k + 1, by omega, by omega, by go_num, HA2⟩, by simp [intOf]; omega⟩
        · have HE : Hid (Bil.unchain (bl s) = if (k = 9 ∧ 1 < x) ∨ (0 < k ∧ x = 0) then (0, 0, 3) else (Bil.val ((bl s).take (k + 1)), k + 1, 0)) := by
            show _ = _
            rw [Bil.unchain_at (k := k) (by omega) (by rw [Bil.bl_length]; omega) HA.out (.inr (.inr (by rw [HX.out]; omega))), HX.out, if_neg (by omega), if_neg (by rw [Bil.bl_length]; omega)]
          by_cases he : (k = 9 ∧ 1 < x) ∨ (0 < k ∧ x = 0)
          · have HF : Hid (Bil.unchain (bl s) = (0, 0, 3)) := by
              show _ = _
              rw [HE.out, if_pos he]
            rcases he with ⟨rfl, h1x⟩ | ⟨h0k, rfl⟩
            · go_wp2
              go_ret3
              refine ⟨?_, rfl⟩
              rw [HF.out]; rfl
            · by_cases hk9 : k = 9
              · subst hk9
                go_wp2
                go_ret3
                refine ⟨?_, rfl⟩
                rw [HF.out]; rfl
              · have b9 : ((k : Int) == 9) = false := by rw [beq_eq_false_iff_ne]; omega
                clear hk9
                go_wp2
                go_ret3
                refine ⟨?_, rfl⟩
                rw [HF.out]; rfl
          · obtain ⟨n, HN⟩ : ∃ n : Nat, Hid (n = k) := ⟨k, rfl⟩
            have hn9 : n ≤ 9 := by rw [HN.out]; omega
            have hns : n < s.size := by rw [HN.out]; exact hlt
            have HF : Hid (Bil.unchain (bl s) = (Bil.val ((bl s).take (n + 1)), n + 1, 0)) := by
              show _ = _
              rw [HE.out, if_neg he, HN.out]
            have HFit : Hid (Bil.val ((bl s).take (n + 1)) < 18446744073709551616) := by
              show _ < _
              rw [HN.out]
              exact Bil.val_take_lt (bl s) k (by rw [Bil.bl_length]; exact hlt) (by omega) (fun h9 => by rw [HX.out]; omega)
            have hcase : (k = 9 ∧ x = 1) ∨ (0 < k ∧ k < 9 ∧ x ≠ 0) ∨ k = 0 := by omega
            clear he
            rcases hcase with ⟨rfl, rfl⟩ | ⟨h0k, h9k, hx0⟩ | rfl
            case' inr.inl =>
              have b9 : ((k : Int) == 9) = false := by rw [beq_eq_false_iff_ne]; omega
              have bx : ((x : Int) == 0) = false := by rw [beq_eq_false_iff_ne]; omega
            all_goals
              go_wp2_with fail
              go_loop [6, 7] (fun v i => ∃ u : Int, v = .int .u64 u ∧ 0 ≤ u ∧ u < 18446744073709551616 ∧ ((i = .int .i64 (-1) ∧ Hid (u.toNat = Bil.val ((bl s).take (n + 1)))) ∨ ∃ j : Nat, j ≤ n ∧ i = .int .i64 j ∧ Hid (u.toNat = Bil.val (((bl s).take (n + 1)).drop (j + 1))))) (fun _ i => (intOf i + 1).toNat)
              case atStart => exact ⟨0, rfl, by omega, by omega, .inr ⟨n, Nat.le_refl _, congrArg (Value.int IntKind.i64) (by have := HN.out; omega), by show _ = _; rw [List.drop_of_length_le (by rw [List.length_take]; omega)]; simp [Bil.val]⟩⟩
              case round =>
                obtain ⟨u, rfl, hu0, hu1, hu⟩ := hrel
                rcases hu with ⟨rfl, HU⟩ | ⟨j, hj, rfl, HU⟩
                · have HR : Hid (u = ((Bil.val ((bl s).take (n + 1)) : Nat) : Int)) := by show _ = _; rw [← HU.out]; omega
                  go_wp2
                  go_ret3
                  refine ⟨?_, rfl⟩
                  rw [HF.out, HR.out, HN.out]; rfl
                · have hjs : j < s.size := by omega
                  obtain ⟨y, hy⟩ : ∃ y : Nat, s[j].toNat = y := ⟨_, rfl⟩
                  have hy256 : y < 256 := by rw [← hy]; exact s[j].toNat_lt
                  have hval : u.toNat * 128 + y % 128 = Bil.val (((bl s).take (n + 1)).drop j) := by
                    rw [Bil.drop_take_cons (bl s) (n + 1) j (by omega) (by rw [Bil.bl_length]; omega), Bil.bl_getD s j hjs, HU.out]
                    simp only [Bil.val, hy]
                    omega
                  have hle := Bil.val_drop_le j ((bl s).take (n + 1))
                  have hfit : u * 128 + (y : Int) % 128 < 18446744073709551616 := by
                    have := HFit.out
                    omega
                  have HV : Hid ((u * 128 + (y : Int) % 128).toNat = Bil.val (((bl s).take (n + 1)).drop j)) := by show _ = _; rw [← hval]; omega
                  clear hval hle
                  go_wp2
                  refine ⟨⟨u * 128 + (y : Int) % 128, rfl, by omega, hfit, ?_⟩, by simp [intOf] <;> omega⟩
                  by_cases hj0 : j = 0
                  · subst hj0
                    exact .inl ⟨rfl, HV.out⟩
                  · exact .inr ⟨j - 1, by omega, congrArg (Value.int IntKind.i64) (by omega), by have := HV.out; rwa [show j = j - 1 + 1 by omega] at this⟩

end Go.Proofs.Ytbkcnhnndaejiaa
