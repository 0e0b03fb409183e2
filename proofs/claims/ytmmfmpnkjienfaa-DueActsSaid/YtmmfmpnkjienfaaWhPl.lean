/-
  The place of a tick in a wheel of sixteen levels of sixteen slots: it does not fall where the tick rises, and a place above that of a later tick stays when that tick becomes the current one.
-/
import Derived.Test.YtmmfmpnkjienfaaWhMath
import Derived.Lib.ItoaNum
namespace Wh
open Go
set_option linter.unusedVariables false

/-- the level of a tick a, seen from n -/
def lev (n a : Nat) : Nat := (Lib.bitLen ((a ^^^ n) ||| 1) - 1) / 4
/-- the digit of a there -/
def dig (n a : Nat) : Nat := a / 16 ^ lev n a % 16
/-- level and digit as one number -/
def plc (n a : Nat) : Nat := 16 * lev n (max a n) + dig n (max a n)
/-- what a level is -/
def IsLev (n a L : Nat) : Prop := a / 16 ^ (L + 1) = n / 16 ^ (L + 1) ∧ (L = 0 ∨ a / 16 ^ L ≠ n / 16 ^ L)

theorem or_one_ne (x : Nat) : x ||| 1 ≠ 0 := by
  intro h
  have := congrArg (fun y => y.testBit 0) h
  simp at this
theorem or_one_lt {x : Nat} (h : x < 2 ^ 64) : x ||| 1 < 2 ^ 64 := Nat.or_lt_two_pow h (by decide)
theorem shr_or_one (x k : Nat) (hk : 0 < k) : (x ||| 1) >>> k = x >>> k := by
  rw [Nat.shiftRight_or_distrib]
  have : 1 >>> k = 0 := by rw [Nat.shiftRight_eq_div_pow]; exact Nat.div_eq_of_lt (Nat.one_lt_two_pow (by omega))
  rw [this, Nat.or_zero]
theorem pow16 (L : Nat) : 16 ^ L = 2 ^ (4 * L) := by rw [Nat.pow_mul]
theorem xor_zero {a b : Nat} (h : a ^^^ b = 0) : a = b := by
  have h2 : (a ^^^ b) ^^^ b = 0 ^^^ b := by rw [h]
  rwa [Nat.xor_assoc, Nat.xor_self, Nat.xor_zero, Nat.zero_xor] at h2
theorem lev_bounds {n a : Nat} (ha : a < 2 ^ 64) (hn : n < 2 ^ 64) : 2 ^ (Lib.bitLen ((a ^^^ n) ||| 1) - 1) ≤ (a ^^^ n) ||| 1 ∧ (a ^^^ n) ||| 1 < 2 ^ Lib.bitLen ((a ^^^ n) ||| 1) ∧ 1 ≤ Lib.bitLen ((a ^^^ n) ||| 1) ∧ Lib.bitLen ((a ^^^ n) ||| 1) ≤ 64 := by
  have hx : a ^^^ n < 2 ^ 64 := Nat.xor_lt_two_pow ha hn
  obtain ⟨h1, h2, h3⟩ := Lib.bitLenAux_bounds 64 _ (or_one_lt hx) (or_one_ne (a ^^^ n))
  exact ⟨h2, h3, h1, Lib.bitLen_le _ 64 (Nat.le_refl _) (or_one_lt hx)⟩
theorem lev_lt {n a : Nat} (ha : a < 2 ^ 64) (hn : n < 2 ^ 64) : lev n a < 16 := by
  obtain ⟨_, _, h3, h4⟩ := lev_bounds ha hn
  unfold lev
  omega
theorem lev_is {n a : Nat} (ha : a < 2 ^ 64) (hn : n < 2 ^ 64) : IsLev n a (lev n a) := by
  obtain ⟨h1, h2, h3, h4⟩ := lev_bounds ha hn
  have hk : 4 * lev n a ≤ Lib.bitLen ((a ^^^ n) ||| 1) - 1 ∧ Lib.bitLen ((a ^^^ n) ||| 1) ≤ 4 * (lev n a + 1) := by unfold lev; omega
  generalize lev n a = L at *
  generalize Lib.bitLen ((a ^^^ n) ||| 1) = m at *
  constructor
  · have h5 : (a ^^^ n) ||| 1 < 2 ^ (4 * (L + 1)) := Nat.lt_of_lt_of_le h2 (Nat.pow_le_pow_right (by decide) hk.2)
    have h6 : ((a ^^^ n) ||| 1) >>> (4 * (L + 1)) = 0 := by rw [Nat.shiftRight_eq_div_pow]; exact Nat.div_eq_of_lt h5
    rw [shr_or_one _ _ (by omega), Nat.shiftRight_xor_distrib] at h6
    have h7 := xor_zero h6
    rwa [Nat.shiftRight_eq_div_pow, Nat.shiftRight_eq_div_pow, ← pow16] at h7
  · by_cases hL : L = 0
    · exact Or.inl hL
    · right
      intro h
      have h5 : 2 ^ (4 * L) ≤ (a ^^^ n) ||| 1 := Nat.le_trans (Nat.pow_le_pow_right (by decide) hk.1) h1
      have h6 : ((a ^^^ n) ||| 1) >>> (4 * L) ≠ 0 := by
        rw [Nat.shiftRight_eq_div_pow]
        have := Nat.div_pos h5 (Nat.two_pow_pos _)
        omega
      rw [shr_or_one _ _ (by omega), Nat.shiftRight_xor_distrib, Nat.shiftRight_eq_div_pow, Nat.shiftRight_eq_div_pow, ← pow16, h, Nat.xor_self] at h6
      exact h6 rfl
theorem div_up {a n L M : Nat} (h : a / 16 ^ L = n / 16 ^ L) (hM : L ≤ M) : a / 16 ^ M = n / 16 ^ M := by
  obtain ⟨d, rfl⟩ := Nat.exists_eq_add_of_le hM
  rw [Nat.pow_add, ← Nat.div_div_eq_div_mul, ← Nat.div_div_eq_div_mul, h]
theorem lev_unique {n a L M : Nat} (h : IsLev n a L) (g : IsLev n a M) : L = M := by
  rcases Nat.lt_trichotomy L M with h1 | h1 | h1
  · rcases g.2 with h2 | h2
    · omega
    · exact absurd (div_up h.1 h1) h2
  · exact h1
  · rcases h.2 with h2 | h2
    · omega
    · exact absurd (div_up g.1 h1) h2
theorem dig_eq (a L : Nat) : a / 16 ^ L = 16 * (a / 16 ^ (L + 1)) + a / 16 ^ L % 16 := by
  rw [Nat.pow_succ, ← Nat.div_div_eq_div_mul]
  omega
theorem dig_lt (n a : Nat) : dig n a < 16 := Nat.mod_lt _ (by decide)
theorem plc_lt {n a : Nat} (ha : a < 2 ^ 64) (hn : n < 2 ^ 64) : plc n a < 256 := by
  have h1 := lev_lt (n := n) (a := max a n) (by omega) hn
  have h2 := dig_lt n (max a n)
  unfold plc
  omega
theorem plc_max (n a : Nat) : plc n (max a n) = plc n a := by unfold plc; rw [show max (max a n) n = max a n by omega]

theorem core_le {n a b : Nat} (hb : b < 2 ^ 64) (hna : n ≤ a) (hab : a ≤ b) : 16 * lev n a + dig n a ≤ 16 * lev n b + dig n b := by
  have la := lev_is (n := n) (a := a) (by omega) (by omega)
  have lb := lev_is (n := n) (a := b) hb (by omega)
  have da := dig_lt n a
  have db := dig_lt n b
  unfold dig at *
  generalize lev n a = L at *
  generalize lev n b = M at *
  rcases Nat.lt_trichotomy L M with h | h | h
  · omega
  · subst h
    have e1 := dig_eq a L
    have e2 := dig_eq b L
    have e3 : a / 16 ^ L ≤ b / 16 ^ L := Nat.div_le_div_right hab
    have h1 := la.1
    have h2 := lb.1
    generalize a / 16 ^ L = x at *
    generalize b / 16 ^ L = y at *
    omega
  · exfalso
    have e1 : n / 16 ^ (M + 1) ≤ a / 16 ^ (M + 1) := Nat.div_le_div_right hna
    have e2 : a / 16 ^ (M + 1) ≤ b / 16 ^ (M + 1) := Nat.div_le_div_right hab
    have e3 : a / 16 ^ (M + 1) = n / 16 ^ (M + 1) := by have := lb.1; omega
    rcases la.2 with h2 | h2
    · omega
    · exact h2 (div_up e3 h)
/-- a later tick is at no earlier place -/
theorem plc_mono {n a b : Nat} (hn : n < 2 ^ 64) (hb : b < 2 ^ 64) (hab : a ≤ b) : plc n a ≤ plc n b :=
  core_le (by omega) (by omega) (by omega)
/-- what is at a later place is due later, and not before now -/
theorem plc_later {n a b : Nat} (hn : n < 2 ^ 64) (ha : a < 2 ^ 64) (h : plc n a < plc n b) : a < b ∧ n < b := by
  refine ⟨?_, ?_⟩
  · rcases Nat.lt_or_ge a b with h1 | h1
    · exact h1
    · have := plc_mono (n := n) hn ha h1
      omega
  · rcases Nat.lt_or_ge n b with h1 | h1
    · exact h1
    · have e1 := plc_mono (n := n) (a := n) (b := max a n) hn (by omega) (by omega)
      rw [plc_max] at e1
      have e2 := plc_mono (n := n) (a := b) (b := n) hn hn h1
      omega
/-- what is at a later place than that of t stays there when t is the current tick -/
theorem plc_keep {n t a : Nat} (ha : a < 2 ^ 64) (hn : n ≤ t) (ht : t < 2 ^ 64) (h : plc n t < plc n a) : plc t a = plc n a := by
  have hta := (plc_later (by omega) ht h).1
  unfold plc at h ⊢
  rw [show max t n = t by omega, show max a n = a by omega] at h
  rw [show max a n = a by omega, show max a t = a by omega]
  have lt_ := lev_is (n := n) (a := t) ht (by omega)
  have la := lev_is (n := n) (a := a) ha (by omega)
  have lta := lev_is (n := t) (a := a) ha ht
  have dt := dig_lt n t
  have da := dig_lt n a
  have key : lev t a = lev n a := by
    refine lev_unique lta ?_
    unfold dig at *
    generalize lev n a = L at *
    generalize lev n t = T at *
    have hTL : T ≤ L := by omega
    refine ⟨?_, ?_⟩
    · rw [la.1]
      exact (div_up lt_.1 (by omega)).symm
    · by_cases h0 : L = 0
      · exact Or.inl h0
      · right
        rcases la.2 with h2 | h2
        · exact absurd h2 h0
        · rcases Nat.lt_or_ge T L with h3 | h3
          · rw [div_up lt_.1 h3]
            exact h2
          · obtain rfl : T = L := by omega
            intro e
            rw [e] at h
            omega
  unfold dig
  rw [key]
end Wh
