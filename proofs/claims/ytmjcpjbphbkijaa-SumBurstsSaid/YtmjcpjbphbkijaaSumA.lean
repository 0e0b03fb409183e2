/-
  What the functions of layer 2 (sum) and of the document's answer for it return.
-/
import Derived.Test.YtmjcpjbphbkijaaBase
import Derived.Test.YtmjcpjbphbkijaaSumMath
namespace Go.Proofs.Ytmjcpjbphbkijaa
open Go.RowKit
set_option linter.unusedVariables false

/-- the value of a register -/
def reg (x : BitVec 32) : Value := .int .u32 (x.toNat : Int)

theorem xor_poly (a : Nat) (h : a < 4294967296) : bits .xor .u32 (a : Int) 79764919 = ((a ^^^ 79764919 : Nat) : Int) := u32_xor_nat a 79764919 h (by omega)

theorem refStep (x : BitVec 32) (w : World) : Calls Try.prog 11 #[reg x] w (Same (reg (Sm.step x)) w) := by
  have hx := x.isLt
  have hs := Sm.step_nat x
  unfold reg
  obtain ⟨v, hv⟩ : ∃ v : Int, v = (x.toNat : Int) := ⟨_, rfl⟩
  have h0 : 0 ≤ v := by omega
  have h1 : v < 4294967296 := by omega
  by_cases h : 2147483648 ≤ v
  · rw [if_pos (by omega)] at hs
    have he : bits .xor .u32 ((v - 2147483648) * 2) 79764919 = ((Sm.step x).toNat : Int) := by
      rw [hs, show (v - 2147483648) * 2 = (((x.toNat - 2147483648) * 2 : Nat) : Int) from by omega]
      exact xor_poly _ (by omega)
    rw [← hv, ← he]
    clear hs he hv hx
    go_enter Try.func11, Try.ntmps11
    go_wp2
    go_ret
    exact ⟨rfl, rfl⟩
  · rw [if_neg (by omega)] at hs
    have he : v * 2 = ((Sm.step x).toNat : Int) := by rw [hs]; omega
    rw [← hv, ← he]
    clear hs he hv hx
    go_enter Try.func11, Try.ntmps11
    go_wp2
    go_ret
    exact ⟨rfl, rfl⟩

theorem and_top (v : Nat) (h : v < 4294967296) : bits .and .u32 (v : Int) 2147483648 = if 2147483648 ≤ v then 2147483648 else 0 := by
  rw [show (2147483648 : Int) = ((2147483648 : Nat) : Int) from rfl, u32_and_nat v 2147483648 h (by omega)]
  have e := nat_bit 31 v
  rw [show (2 : Nat) ^ 31 = 2147483648 from by decide] at e
  rw [e]
  split <;> omega

theorem sumShift (x : BitVec 32) (w : World) : Calls Try.prog 10 #[reg x] w (Same (reg (Sm.steps 8 x)) w) := by
  unfold reg
  go_enter Try.func10, Try.ntmps10
  go_wp2
  go_loop [0, 4] (fun r i => ∃ k : Nat, k ≤ 8 ∧ i = .int .i64 k ∧ r = .int .u32 ((Sm.steps k x).toNat : Int)) (fun _ i => 8 - (intOf i).toNat)
  case atStart => exact ⟨0, by omega, rfl, rfl⟩
  case round =>
    obtain ⟨k, hk, rfl, rfl⟩ := hrel
    by_cases hlt : k < 8
    · have hx := (Sm.steps k x).isLt
      have hs := Sm.step_nat (Sm.steps k x)
      have ha := and_top _ hx
      rw [← Sm.steps_snoc] at hs
      obtain ⟨v, hv⟩ : ∃ v : Int, v = ((Sm.steps k x).toNat : Int) := ⟨_, rfl⟩
      have h0 : 0 ≤ v := by omega
      have h1 : v < 4294967296 := by omega
      by_cases h : 2147483648 ≤ v
      · rw [if_pos (by omega)] at hs ha
        have he : bits .xor .u32 (v * 2 % 4294967296) 79764919 = ((Sm.steps (k + 1) x).toNat : Int) := by
          rw [hs, show v * 2 % 4294967296 = (((Sm.steps k x).toNat - 2147483648) * 2 : Nat) from by omega]
          exact xor_poly _ (by omega)
        rw [← hv] at ha ⊢
        have HE := Lib.hid he; clear he
        clear hs hx hv
        go_wp2
        exact ⟨⟨k + 1, by omega, rfl, congrArg (Value.int .u32) HE.out⟩, by simp [intOf]; omega⟩
      · rw [if_neg (by omega)] at hs ha
        have he : v * 2 = ((Sm.steps (k + 1) x).toNat : Int) := by rw [hs]; omega
        rw [← hv] at ha ⊢
        have HE := Lib.hid he; clear he
        clear hs hx hv
        go_wp2
        exact ⟨⟨k + 1, by omega, rfl, congrArg (Value.int .u32) HE.out⟩, by simp [intOf]; omega⟩
    · obtain rfl : k = 8 := by omega
      go_wp2
      go_ret
      exact ⟨rfl, rfl⟩

/-- the byte that is taken in next -/
theorem crc_at (begin : BitVec 32) (s : ByteArray) (k : Nat) (h : k < s.size) : Sm.crc begin ((bl s).take (k + 1)) = Sm.steps 8 (Sm.crc begin ((bl s).take k) ^^^ Sm.high s[k]) := by
  rw [bl_take s k h, Sm.crc_snoc]
theorem xor_byte (x : BitVec 32) (b : UInt8) : bits .xor .u32 (x.toNat : Int) ((b.toNat : Int) * 16777216) = ((x ^^^ Sm.high b).toNat : Int) := by
  have hb := UInt8.toNat_lt b
  have hx := x.isLt
  rw [Sm.xor_high_nat, show (b.toNat : Int) * 16777216 = ((b.toNat * 16777216 : Nat) : Int) from by omega]
  exact u32_xor_nat _ _ hx (by omega)

theorem sumCrc (begin : BitVec 32) (s : ByteArray) (w : World) (hs : s.size ≤ 9223372036854775807) :
    Calls Try.prog 6 #[reg begin, .string s] w (Same (reg (Sm.crc begin (bl s))) w) := by
  have hshift := fun x W => sumShift x W
  have hend : (bl s).take s.size = bl s := by rw [← bl_length]; exact List.take_length
  unfold reg at *
  go_enter Try.func6, Try.ntmps6
  go_wp2
  go_loop [5, 10] (fun r i => ∃ k : Nat, k ≤ s.size ∧ i = .int .i64 k ∧ r = .int .u32 ((Sm.crc begin ((bl s).take k)).toNat : Int)) (fun _ i => s.size - (intOf i).toNat)
  case atStart => exact ⟨0, by omega, rfl, rfl⟩
  case round =>
    obtain ⟨k, hk, rfl, rfl⟩ := hrel
    by_cases hlt : k < s.size
    · have hc := crc_at begin s k hlt
      have he := xor_byte (Sm.crc begin ((bl s).take k)) s[k]
      have hlt8 := UInt8.toNat_lt s[k]
      have hsh := fun W => hshift (Sm.crc begin ((bl s).take k) ^^^ Sm.high s[k]) W
      rw [← hc, ← he] at hsh
      have HS := Lib.hid hsh
      clear he hsh hc hshift
      go_wp2_with (go_at_call 10; (with_reducible refine (HS.out _).mono ?_); rintro e w1 ⟨rfl, rfl⟩)
      exact ⟨⟨k + 1, by omega, rfl, rfl⟩, by simp [intOf]; omega⟩
    · obtain rfl : k = s.size := by omega
      rw [hend]
      go_wp2
      go_ret
      exact ⟨rfl, rfl⟩

set_option maxHeartbeats 400000 in
theorem refCrc (begin : BitVec 32) (s : ByteArray) (w : World) (hs : s.size ≤ 9223372036854775807) :
    Calls Try.prog 7 #[reg begin, .string s] w (Same (reg (Sm.crc begin (bl s))) w) := by
  have hstep := fun x W => refStep x W
  have hend : (bl s).take s.size = bl s := by rw [← bl_length]; exact List.take_length
  unfold reg at *
  go_enter Try.func7, Try.ntmps7
  go_wp2
  go_loop [5, 6] (fun r i => ∃ k : Nat, k ≤ s.size ∧ i = .int .i64 k ∧ r = .int .u32 ((Sm.crc begin ((bl s).take k)).toNat : Int)) (fun _ i => s.size - (intOf i).toNat)
  case atStart => exact ⟨0, by omega, rfl, rfl⟩
  case round =>
    obtain ⟨k, hk, rfl, rfl⟩ := hrel
    by_cases hlt : k < s.size
    · have hc := crc_at begin s k hlt
      have he := xor_byte (Sm.crc begin ((bl s).take k)) s[k]
      have hlt8 := UInt8.toNat_lt s[k]
      obtain ⟨x, hx⟩ : ∃ x, x = Sm.crc begin ((bl s).take k) ^^^ Sm.high s[k] := ⟨_, rfl⟩
      rw [← hx] at hc he
      have HC := Lib.hid hc; clear hc
      have HE := Lib.hid he; clear he
      clear hx
      go_wp2
      rw [HE.out]
      go_loop [5, 7] (fun r i => ∃ j : Nat, j ≤ 8 ∧ i = .int .i64 j ∧ r = .int .u32 ((Sm.steps j x).toNat : Int)) (fun _ i => 8 - (intOf i).toNat)
      case atStart => exact ⟨0, by omega, rfl, rfl⟩
      case round =>
        obtain ⟨j, hj, rfl, rfl⟩ := hrel
        by_cases hj8 : j < 8
        · have hst := fun W => hstep (Sm.steps j x) W
          rw [← Sm.steps_snoc] at hst
          have HS := Lib.hid hst
          clear hst hstep
          go_wp2_with (go_at_call 11; (with_reducible refine (HS.out _).mono ?_); rintro e w1 ⟨rfl, rfl⟩)
          exact ⟨⟨j + 1, by omega, rfl, rfl⟩, by simp [intOf]; omega⟩
        · obtain rfl : j = 8 := by omega
          rw [← HC.out]
          go_wp2
          exact ⟨⟨k + 1, by omega, rfl, rfl⟩, by simp [intOf]; omega⟩
    · obtain rfl : k = s.size := by omega
      rw [hend]
      go_wp2
      go_ret
      exact ⟨rfl, rfl⟩

theorem refOf (s : ByteArray) (w : World) (hs : s.size ≤ 9223372036854775807) :
    Calls Try.prog 9 #[.string s] w (Same (reg (Sm.crc 4294967295#32 (bl s))) w) := by
  have hc : ∀ W, Calls Try.prog 7 #[.int .u32 4294967295, .string s] W (Same (reg (Sm.crc 4294967295#32 (bl s))) W) := fun W => refCrc 4294967295#32 s W hs
  have HC := Lib.hid hc
  clear hc
  unfold reg at *
  go_enter Try.func9, Try.ntmps9
  go_wp2_with (go_at_call 7; (with_reducible refine (HC.out _).mono ?_); rintro e w1 ⟨rfl, rfl⟩)
  go_ret
  exact ⟨rfl, rfl⟩
end Go.Proofs.Ytmjcpjbphbkijaa
