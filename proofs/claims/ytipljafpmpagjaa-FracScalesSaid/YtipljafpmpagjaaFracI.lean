/-
  bits.Div64: the quotient and what is left, where the quotient fits a word.
-/
import Derived.Test.YtipljafpmpagjaaFracH
namespace Go.Proofs.Ytipljafpmpagjaa
open Go.RowKit
set_option linter.unusedVariables false

theorem len_facts {y : Nat} (h0 : 0 < y) (h1 : y < 18446744073709551616) : ∃ s, s ≤ 63 ∧ Lib.bitLen y = 64 - s ∧ y * 2 ^ s < 18446744073709551616 ∧ 9223372036854775808 ≤ y * 2 ^ s ∧ 2 ^ (64 - s) * 2 ^ s = 18446744073709551616 := by
  obtain ⟨a, b, c⟩ := Lib.bitLenAux_bounds 64 y h1 (by omega)
  have hL : Lib.bitLen y ≤ 64 := Lib.bitLen_le y 64 (Nat.le_refl _) h1
  have hb : Lib.bitLen y = Lib.bitLenAux 64 y := rfl
  rw [← hb] at a b c
  generalize Lib.bitLen y = L at *
  clear hb
  refine ⟨64 - L, by omega, by omega, ?_, ?_, ?_⟩
  · have h := Nat.mul_lt_mul_of_pos_right c (Nat.two_pow_pos (64 - L))
    rw [← Nat.pow_add, show L + (64 - L) = 64 by omega] at h
    exact h
  · have h := Nat.mul_le_mul_right (2 ^ (64 - L)) b
    rw [← Nat.pow_add, show L - 1 + (64 - L) = 63 by omega] at h
    exact h
  · rw [← Nat.pow_add, show 64 - (64 - L) + (64 - L) = 64 by omega]
theorem or_join {a b s : Nat} (ha : a * 2 ^ s < 18446744073709551616) (hb : b < 2 ^ s) (hs : s ≤ 63) : bits .or .u64 ((a * 2 ^ s : Nat) : Int) (b : Int) = ((a * 2 ^ s + b : Nat) : Int) := by
  have h : 2 ^ s ≤ 2 ^ 63 := Nat.pow_le_pow_right (by omega) hs
  rw [u64_or_nat _ _ ha (Nat.lt_of_lt_of_le hb (Nat.le_trans h (by decide)))]
  rw [nat_join s _ _ (Nat.mul_mod_left _ _) hb]

/-- it returns r; nothing was written -/
structure Drew (r : Value) (w : World) (e : Ending) (w' : World) : Prop where
  e : e = .returned r
  w : ∃ n, w' = w.drewN n
theorem Same.drew {r : Value} {w : World} {e : Ending} {w' : World} (h : Same r w e w') : Drew r w e w' := ⟨h.e, 0, h.w.symm⟩

theorem cdiv (a b : Nat) : (a : Int) / (b : Int) = ((a / b : Nat) : Int) := rfl
theorem cpow (n : Nat) : (2 : Int) ^ n = ((2 ^ n : Nat) : Int) := by simp
theorem csub (a b c : Nat) (h : a = b + c) : (a : Int) - (b : Int) = (c : Int) := by omega

theorem guess_words {u y1 : Nat} (hu : u < 18446744073709551616) : IntKind.u64.wrap ((u : Int) / (y1 : Int)) = ((u / y1 : Nat) : Int) ∧ IntKind.u64.wrap (((u / y1 : Nat) : Int) * (y1 : Int)) = ((u / y1 * y1 : Nat) : Int) ∧
    IntKind.u64.wrap ((u : Int) - ((u / y1 * y1 : Nat) : Int)) = ((u % y1 : Nat) : Int) := by
  have h1 := Nat.div_mul_le_self u y1
  have h2 := Nat.div_add_mod u y1
  rw [Nat.mul_comm] at h2
  refine ⟨by rw [cdiv]; exact cwrap_id _ (Nat.lt_of_le_of_lt (Nat.div_le_self _ _) hu), by rw [cmul]; exact cwrap_id _ (Nat.lt_of_le_of_lt h1 hu), ?_⟩
  rw [csub _ _ _ h2.symm]
  exact cwrap_id _ (Nat.lt_of_le_of_lt (Nat.mod_le _ _) hu)
theorem left_words {u d q Y : Nat} (hY : Y < 18446744073709551616) (hY0 : 0 < Y) (hq : q = (u * 4294967296 + d) / Y) :
    IntKind.u64.wrap ((u : Int) * 4294967296) = ((u * 4294967296 % 18446744073709551616 : Nat) : Int) ∧ IntKind.u64.wrap (((u * 4294967296 % 18446744073709551616 : Nat) : Int) + (d : Int)) = (((u * 4294967296 % 18446744073709551616 + d) % 18446744073709551616 : Nat) : Int) ∧
    IntKind.u64.wrap ((q : Int) * (Y : Int)) = ((q * Y % 18446744073709551616 : Nat) : Int) ∧
    IntKind.u64.wrap ((((u * 4294967296 % 18446744073709551616 + d) % 18446744073709551616 : Nat) : Int) - ((q * Y % 18446744073709551616 : Nat) : Int)) = (((u * 4294967296 + d) % Y : Nat) : Int) := by
  refine ⟨by rw [cmul32]; exact cwrap _, by rw [cadd]; exact cwrap _, by rw [cmul]; exact cwrap _, ?_⟩
  rw [IntKind.wrap_u64]
  exact Fr.left_wraps (M := 18446744073709551616) (Nat.le_of_lt hY) hY0 hq (Nat.mod_add_mod _ _ _)
theorem div64C (hi lo y : Nat) (hlt : hi < y) (hlo : lo < 18446744073709551616) (hy : y < 18446744073709551616) (w : World) :
    Calls Try.prog 18 #[.int .u64 hi, .int .u64 lo, .int .u64 y] w (Drew (.tuple #[.int .u64 (((hi * 18446744073709551616 + lo) / y : Nat) : Int), .int .u64 (((hi * 18446744073709551616 + lo) % y : Nat) : Int)]) w) := by
  by_cases h0 : hi = 0
  · subst h0
    rw [Nat.zero_mul, Nat.zero_add]
    exact (div64Zero lo y (by omega) (by omega) (by omega) w).mono fun _ _ h => ⟨h.1, h.2⟩
  · obtain ⟨s, hs, hL, hY, hY63, hT⟩ := len_facts (show 0 < y by omega) hy
    obtain ⟨f1, f2, f3, f4⟩ := Fr.shifted hT hlt hlo hY
    have hd : lo * 2 ^ s % 18446744073709551616 < 18446744073709551616 := Nat.mod_lt _ (by omega)
    have hp : 0 < 2 ^ s := Nat.two_pow_pos s
    have hlow : lo / 2 ^ (64 - s) < 18446744073709551616 := Nat.lt_of_le_of_lt (Nat.div_le_self _ _) hlo
    have hor := or_join f2 f1 hs
    have hdiv : (hi * 18446744073709551616 + lo) * 2 ^ s / (y * 2 ^ s) = (hi * 18446744073709551616 + lo) / y := Nat.mul_div_mul_right _ _ hp
    have hmod : (hi * 18446744073709551616 + lo) * 2 ^ s % (y * 2 ^ s) = (hi * 18446744073709551616 + lo) % y * 2 ^ s := Nat.mul_mod_mul_right _ _ _
    rw [← f3] at hdiv hmod
    have wY : IntKind.u64.wrap ((y : Int) * 2 ^ s) = ((y * 2 ^ s : Nat) : Int) := by rw [cpow, cmul]; exact cwrap_id _ hY
    have wH : IntKind.u64.wrap ((hi : Int) * 2 ^ s) = ((hi * 2 ^ s : Nat) : Int) := by rw [cpow, cmul]; exact cwrap_id _ f2
    have wD : IntKind.u64.wrap ((lo : Int) * 2 ^ s) = ((lo * 2 ^ s % 18446744073709551616 : Nat) : Int) := by rw [cpow, cmul]; exact cwrap _
    have wL : (lo : Int) / 2 ^ (64 - s) = ((lo / 2 ^ (64 - s) : Nat) : Int) := by rw [cpow]; rfl
    have k1 : ∀ W, Calls Try.prog 22 #[.int .u64 y] W (Same (.int .i64 s) W) := fun W => by
      refine (Try.bits_LeadingZeros64 y W (by omega) (by omega)).mono fun e w1 h => ⟨?_, h.2.symm⟩
      rw [h.1, Int.toNat_natCast, hL, show (64 : Int) - ((64 - s : Nat) : Int) = (s : Int) by omega]
    have hrem : (((hi * 18446744073709551616 + lo) % y * 2 ^ s : Nat) : Int) / 2 ^ s = (((hi * 18446744073709551616 + lo) % y : Nat) : Int) := by
      rw [cpow, cdiv, Nat.mul_div_cancel _ hp]
    rw [← hdiv, ← hrem, ← hmod]
    generalize hi * 2 ^ s = H at *
    generalize lo / 2 ^ (64 - s) = Lw at *
    generalize lo * 2 ^ s % 18446744073709551616 = D at *
    generalize y * 2 ^ s = Y at *
    generalize H + Lw = U at *
    clear hdiv hmod hrem f1 f2 f3 hT hL hlow hp
    have e0 : (((y : Nat) : Int) == 0) = false := by simp; omega
    have e1 : (((hi : Nat) : Int) == 0) = false := by simp; omega
    have e2 : decide ((y : Int) ≤ (hi : Int)) = false := by simp; omega
    have hY0 : 0 < Y := by omega
    have tw := Fr.two_digits (Y := Y) (a := U) (d1 := D / 4294967296) (d0 := D % 4294967296) (B := 4294967296) hY0
    have hN : (U * 4294967296 + D / 4294967296) * 4294967296 + D % 4294967296 = U * 18446744073709551616 + D := by omega
    rw [hN] at tw
    have hYs : Y = Y / 4294967296 * 4294967296 + Y % 4294967296 := by omega
    have y1lt : Y / 4294967296 < 4294967296 := by omega
    have y1ge : 2147483648 ≤ Y / 4294967296 := by omega
    have y0lt : Y % 4294967296 < 4294967296 := Nat.mod_lt _ (by omega)
    have d1lt : D / 4294967296 < 4294967296 := by omega
    have d0lt : D % 4294967296 < 4294967296 := Nat.mod_lt _ (by omega)
    have wy1 := cdiv32 Y
    have wy0 := low32 Y hY
    have wd1 := cdiv32 D
    have wd0 := low32 D hd
    generalize Y / 4294967296 = Y1 at *
    generalize Y % 4294967296 = Y0 at *
    generalize D / 4294967296 = D1 at *
    generalize D % 4294967296 = D0 at *
    clear hN
    have q1lt : (U * 4294967296 + D1) / Y < 4294967296 := by
      rw [hYs] at f4 ⊢
      exact Fr.digit_lt f4 d1lt
    have r1lt : (U * 4294967296 + D1) % Y < Y := Nat.mod_lt _ hY0
    obtain ⟨g1, g2, g3⟩ := guess_words (u := U) (y1 := Y1) (by omega)
    obtain ⟨l1, l2, l3, l4⟩ := left_words (u := U) (d := D1) hY hY0 rfl
    obtain ⟨Q1, hQ1⟩ : ∃ q, q = (U * 4294967296 + D1) / Y := ⟨_, rfl⟩
    obtain ⟨R1, hR1⟩ : ∃ q, q = (U * 4294967296 + D1) % Y := ⟨_, rfl⟩
    rw [← hQ1, ← hR1] at tw
    rw [← hQ1] at q1lt l3 l4
    rw [← hR1] at r1lt l4
    obtain ⟨G1, hG1⟩ : ∃ q, q = U / Y1 := ⟨_, rfl⟩
    obtain ⟨S1, hS1⟩ : ∃ q, q = U % Y1 := ⟨_, rfl⟩
    rw [← hG1] at g1 g2 g3
    rw [← hS1] at g3
    have q0lt : (R1 * 4294967296 + D0) / Y < 4294967296 := by
      rw [hYs] at r1lt ⊢
      exact Fr.digit_lt r1lt d0lt
    obtain ⟨g4, g5, g6⟩ := guess_words (u := R1) (y1 := Y1) (by omega)
    obtain ⟨l5, l6, l7, l8⟩ := left_words (u := R1) (d := D0) hY hY0 rfl
    obtain ⟨Q0, hQ0⟩ : ∃ q, q = (R1 * 4294967296 + D0) / Y := ⟨_, rfl⟩
    obtain ⟨R0, hR0⟩ : ∃ q, q = (R1 * 4294967296 + D0) % Y := ⟨_, rfl⟩
    rw [← hQ0, ← hR0] at tw
    rw [← hQ0] at q0lt l7 l8
    rw [← hR0] at l8
    obtain ⟨G0, hG0⟩ : ∃ q, q = R1 / Y1 := ⟨_, rfl⟩
    obtain ⟨S0, hS0⟩ : ∃ q, q = R1 % Y1 := ⟨_, rfl⟩
    rw [← hG0] at g4 g5 g6
    rw [← hS0] at g6
    have b1 : IntKind.u64.wrap ((Q1 : Int) * 4294967296) = ((Q1 * 4294967296 : Nat) : Int) := by rw [cmul32]; exact cwrap_id _ (by omega)
    have b2 : IntKind.u64.wrap (((Q1 * 4294967296 : Nat) : Int) + (Q0 : Int)) = ((Q1 * 4294967296 + Q0 : Nat) : Int) := by rw [cadd]; exact cwrap_id _ (by omega)
    rw [tw.1, tw.2]
    have F : Y1 < 4294967296 ∧ Y0 < 4294967296 ∧ D1 < 4294967296 ∧ D0 < 4294967296 ∧ U < Y1 * 4294967296 + Y0 ∧ R1 < Y1 * 4294967296 + Y0 ∧ 2147483648 ≤ Y1 ∧ Q1 = (U * 4294967296 + D1) / (Y1 * 4294967296 + Y0) ∧ Q0 = (R1 * 4294967296 + D0) / (Y1 * 4294967296 + Y0) ∧ G1 = U / Y1 ∧ S1 = U % Y1 ∧ G0 = R1 / Y1 ∧ S0 = R1 % Y1 := by
      rw [← hYs]
      exact ⟨y1lt, y0lt, d1lt, d0lt, f4, r1lt, y1ge, hQ1, hQ0, hG1, hS1, hG0, hS0⟩
    exact (div64Big hi lo y Y H Lw D _ _ _ _ _ _ _ _ _ _ s Y1 Y0 U D1 D0 Q1 R1 Q0 R0 G1 S1 G0 S0 w e0 e1 e2 hs k1 wY wy1 wy0 wH wL hor wD wd1 wd0 g1 g2 g3 l1 l2 l3 l4 g4 g5 g6 b1 b2 l5 l6 l7 l8 (by simp; omega) (by omega) (Lib.hid F)).mono fun _ _ h => h.drew
end Go.Proofs.Ytipljafpmpagjaa
