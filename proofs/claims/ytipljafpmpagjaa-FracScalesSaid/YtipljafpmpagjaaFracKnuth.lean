namespace Fr
/-- a digit of a quotient, by a guess that is lowered till it fits: what holds of the guess 'q' and of what is left, 'r', for the dividend u * 2^32 + d and the divisor y1 * 2^32 + y0 -/
structure Guess (y1 y0 u d q r : Nat) : Prop where
  sum : q * y1 + r = u
  ge : (u * 4294967296 + d) / (y1 * 4294967296 + y0) ≤ q
  top : q ≤ 4294967297
theorem guess_start {y1 y0 u d : Nat} (h1 : 2147483648 ≤ y1) (h0 : y0 < 4294967296) (hu : u < y1 * 4294967296 + y0) (hd : d < 4294967296) : Guess y1 y0 u d (u / y1) (u % y1) := by
  have hp : 0 < y1 := by omega
  refine ⟨?_, ?_, ?_⟩
  · rw [Nat.mul_comm]; exact Nat.div_add_mod u y1
  · rw [Nat.le_div_iff_mul_le hp]
    generalize hq : (u * 4294967296 + d) / (y1 * 4294967296 + y0) = q
    have h := Nat.div_mul_le_self (u * 4294967296 + d) (y1 * 4294967296 + y0)
    rw [hq] at h
    have e : q * (y1 * 4294967296 + y0) = q * y1 * 4294967296 + q * y0 := by grind
    rw [e] at h
    generalize q * y0 = t at h
    omega
  · have h : u / y1 < 4294967298 := by
      rw [Nat.div_lt_iff_lt_mul hp]
      omega
    omega
theorem guess_step {y1 y0 u d q r : Nat} (hy : 0 < y1) (g : Guess y1 y0 u d q r) (hq : (u * 4294967296 + d) / (y1 * 4294967296 + y0) < 4294967296) (h : 4294967296 ≤ q ∨ 4294967296 * r + d < q * y0) : 0 < q ∧ Guess y1 y0 u d (q - 1) (r + y1) := by
  obtain ⟨g1, g2, g3⟩ := g
  have hlt : (u * 4294967296 + d) / (y1 * 4294967296 + y0) < q := by
    rcases h with h | h
    · omega
    · rw [Nat.div_lt_iff_lt_mul (show 0 < y1 * 4294967296 + y0 by omega)]
      have e : q * (y1 * 4294967296 + y0) = q * y1 * 4294967296 + q * y0 := by grind
      rw [e]
      generalize q * y0 = t at h ⊢
      generalize q * y1 = s at g1 ⊢
      omega
  obtain ⟨p, rfl⟩ : ∃ p, q = p + 1 := ⟨q - 1, (Nat.succ_pred_eq_of_pos (Nat.lt_of_le_of_lt (Nat.zero_le _) hlt)).symm⟩
  clear h
  refine ⟨Nat.succ_pos p, ⟨?_, ?_, by omega⟩⟩
  · rw [Nat.add_sub_cancel]
    rw [Nat.add_mul] at g1
    omega
  · exact Nat.le_of_lt_succ hlt
/-- it fits -/
theorem guess_fits {y1 y0 u d q r : Nat} (hy : 0 < y1) (g : Guess y1 y0 u d q r) (h : q * y0 ≤ 4294967296 * r + d) : q = (u * 4294967296 + d) / (y1 * 4294967296 + y0) := by
  obtain ⟨g1, g2, g3⟩ := g
  have : q ≤ (u * 4294967296 + d) / (y1 * 4294967296 + y0) := by
    rw [Nat.le_div_iff_mul_le (by omega)]
    have e : q * (y1 * 4294967296 + y0) = q * y1 * 4294967296 + q * y0 := by grind
    rw [e]
    generalize q * y0 = t at h ⊢
    generalize q * y1 = s at g1 ⊢
    omega
  omega
/-- what is left no longer fits a digit: the guess does -/
theorem guess_over {y1 y0 u d q r : Nat} (hy : 0 < y1) (h0 : y0 < 4294967296) (g : Guess y1 y0 u d q r) (hr : 4294967296 ≤ r) (hq : q ≤ 4294967296) : q = (u * 4294967296 + d) / (y1 * 4294967296 + y0) := by
  refine guess_fits hy g ?_
  have h := Nat.mul_le_mul hq (show y0 ≤ 4294967295 by omega)
  omega
theorem digit_lt {y1 y0 u d : Nat} (hu : u < y1 * 4294967296 + y0) (hd : d < 4294967296) : (u * 4294967296 + d) / (y1 * 4294967296 + y0) < 4294967296 := by
  rw [Nat.div_lt_iff_lt_mul (by omega)]
  omega
/-- what is left behind a digit, reckoned by words that wrap -/
theorem left_wraps {Y n q M x : Nat} (hY : Y ≤ M) (hY0 : 0 < Y) (h : q = n / Y) (hx : x % M = n % M) : ((x % M : Nat) - (q * Y % M : Nat) : Int) % M = ((n % Y : Nat) : Int) := by
  have h1 := Nat.div_add_mod n Y
  have h2 := Nat.mod_lt n hY0
  rw [← h, Nat.mul_comm] at h1
  rw [hx]
  generalize n % Y = r at *
  generalize q * Y = p at *
  subst h1
  rw [Int.natCast_emod, Int.natCast_emod, ← Int.sub_emod, Int.natCast_add, show (p : Int) + (r : Int) - (p : Int) = (r : Int) by omega]
  exact Int.emod_eq_of_lt (by omega) (by omega)
/-- two digits are the quotient -/
theorem two_digits {Y a d1 d0 B : Nat} (hY : 0 < Y) : ((a * B + d1) * B + d0) / Y = (a * B + d1) / Y * B + ((a * B + d1) % Y * B + d0) / Y ∧
    ((a * B + d1) * B + d0) % Y = ((a * B + d1) % Y * B + d0) % Y := by
  have h := Nat.div_add_mod (a * B + d1) Y
  generalize (a * B + d1) / Y = q at *
  generalize (a * B + d1) % Y = r at *
  rw [← h]
  have e : (Y * q + r) * B + d0 = Y * (q * B) + (r * B + d0) := by grind
  rw [e, Nat.mul_add_div hY, Nat.mul_add_mod]
  exact ⟨rfl, rfl⟩
/-- dividend and divisor, both moved up by s bits, so that the divisor's highest bit is 1 -/
theorem shifted {hi lo y s M T : Nat} (hs : T * 2 ^ s = M) (hlt : hi < y) (hlo : lo < M) (hy : y * 2 ^ s < M) :
    lo / T < 2 ^ s ∧ hi * 2 ^ s < M ∧ (hi * 2 ^ s + lo / T) * M + lo * 2 ^ s % M = (hi * M + lo) * 2 ^ s ∧ hi * 2 ^ s + lo / T < y * 2 ^ s := by
  have hp : 0 < 2 ^ s := Nat.two_pow_pos s
  have hT : 0 < T := by
    rcases Nat.eq_zero_or_pos T with h | h
    · subst h; omega
    · exact h
  have h1 : lo / T < 2 ^ s := by
    rw [Nat.div_lt_iff_lt_mul hT, Nat.mul_comm, hs]; exact hlo
  have h2 : lo * 2 ^ s / M = lo / T := by rw [← hs]; exact Nat.mul_div_mul_right _ _ hp
  have h3 := Nat.div_add_mod (lo * 2 ^ s) M
  rw [h2] at h3
  have h4 : (hi + 1) * 2 ^ s ≤ y * 2 ^ s := Nat.mul_le_mul_right _ hlt
  rw [Nat.add_mul, Nat.one_mul] at h4
  refine ⟨h1, by omega, ?_, by omega⟩
  generalize lo * 2 ^ s % M = m at h3 ⊢
  have e : (hi * M + lo) * 2 ^ s = hi * 2 ^ s * M + lo * 2 ^ s := by grind
  rw [e, ← h3]
  grind
end Fr
