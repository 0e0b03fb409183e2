namespace Fr
/-- the halves of a product, as the document's 'parts' finds them -/
theorem parts_eq (a b : Nat) (ha : a < 18446744073709551616) (hb : b < 18446744073709551616) :
    (a % 4294967296) * (b % 4294967296) < 18446744073709551616 ∧
    (a / 4294967296) * (b % 4294967296) + (a % 4294967296) * (b % 4294967296) / 4294967296 < 18446744073709551616 ∧
    (a % 4294967296) * (b / 4294967296) + ((a / 4294967296) * (b % 4294967296) + (a % 4294967296) * (b % 4294967296) / 4294967296) % 4294967296 < 18446744073709551616 ∧
    (a / 4294967296) * (b / 4294967296) + ((a / 4294967296) * (b % 4294967296) + (a % 4294967296) * (b % 4294967296) / 4294967296) / 4294967296 + ((a % 4294967296) * (b / 4294967296) + ((a / 4294967296) * (b % 4294967296) + (a % 4294967296) * (b % 4294967296) / 4294967296) % 4294967296) / 4294967296 = a * b / 18446744073709551616 ∧
    ((a % 4294967296) * (b / 4294967296) + ((a / 4294967296) * (b % 4294967296) + (a % 4294967296) * (b % 4294967296) / 4294967296) % 4294967296) % 4294967296 * 4294967296 + (a % 4294967296) * (b % 4294967296) % 4294967296 = a * b % 18446744073709551616 := by
  have hx : a / 4294967296 ≤ 4294967295 := by omega
  have hy : a % 4294967296 ≤ 4294967295 := by omega
  have hu : b / 4294967296 ≤ 4294967295 := by omega
  have hv : b % 4294967296 ≤ 4294967295 := by omega
  have ea : a = a / 4294967296 * 4294967296 + a % 4294967296 := by omega
  have eb : b = b / 4294967296 * 4294967296 + b % 4294967296 := by omega
  generalize a / 4294967296 = x at *
  generalize a % 4294967296 = y at *
  generalize b / 4294967296 = u at *
  generalize b % 4294967296 = v at *
  have hp := Nat.mul_le_mul hx hu
  have hq := Nat.mul_le_mul hx hv
  have hr := Nat.mul_le_mul hy hu
  have hs := Nat.mul_le_mul hy hv
  have hab : a * b = x * u * 18446744073709551616 + x * v * 4294967296 + y * u * 4294967296 + y * v := by
    rw [ea, eb]
    grind
  rw [hab]
  generalize x * u = p at *
  generalize x * v = q at *
  generalize y * u = r at *
  generalize y * v = s at *
  clear hab ea eb
  omega
theorem div_le_iff (a b c n : Nat) (hc : 0 < c) : n * c ≤ a * b ↔ n ≤ a * b / c := (Nat.le_div_iff_mul_le hc).symm
/-- comparing by halves is comparing -/
theorem halves_lt (p q M : Nat) (hM : 0 < M) : p < q ↔ (p / M < q / M ∨ (p / M = q / M ∧ p % M < q % M)) := by
  have h1 := Nat.div_add_mod p M
  have h2 := Nat.div_add_mod q M
  have h3 := Nat.mod_lt p hM
  have h4 := Nat.mod_lt q hM
  constructor
  · intro h
    rcases Nat.lt_trichotomy (p / M) (q / M) with h5 | h5 | h5
    · exact Or.inl h5
    · refine Or.inr ⟨h5, ?_⟩
      rw [h5] at h1
      omega
    · have := Nat.mul_le_mul_left M (show q / M + 1 ≤ p / M from h5)
      rw [Nat.mul_add, Nat.mul_one] at this
      omega
  · rintro (h5 | ⟨h5, h6⟩)
    · have := Nat.mul_le_mul_left M (show p / M + 1 ≤ q / M from h5)
      rw [Nat.mul_add, Nat.mul_one] at this
      omega
    · rw [h5] at h1; omega
theorem halves_eq (p q M : Nat) : p = q ↔ (p / M = q / M ∧ p % M = q % M) := by
  constructor
  · rintro rfl; exact ⟨rfl, rfl⟩
  · rintro ⟨h1, h2⟩
    rw [← Nat.div_add_mod p M, ← Nat.div_add_mod q M, h1, h2]
/-- what the document's Scale has behind the bits from k on -/
theorem bit_step (Q k : Nat) : (Q / 2 ^ (k + 1) * 2 ^ (k + 1) + 2 ^ k ≤ Q → Q / 2 ^ k * 2 ^ k = Q / 2 ^ (k + 1) * 2 ^ (k + 1) + 2 ^ k) ∧ (¬ Q / 2 ^ (k + 1) * 2 ^ (k + 1) + 2 ^ k ≤ Q → Q / 2 ^ k * 2 ^ k = Q / 2 ^ (k + 1) * 2 ^ (k + 1)) := by
  have hp : 0 < 2 ^ k := Nat.two_pow_pos k
  have e : 2 ^ (k + 1) = 2 ^ k * 2 := Nat.pow_succ ..
  have hd : Q / 2 ^ (k + 1) = Q / 2 ^ k / 2 := by rw [e, Nat.div_div_eq_div_mul]
  have h1 := Nat.div_add_mod Q (2 ^ k)
  have h2 := Nat.mod_lt Q hp
  rw [hd, e]
  generalize hT : Q / 2 ^ k = T at *
  generalize 2 ^ k = P at *
  have h3 := Nat.div_add_mod T 2
  have h4 := Nat.mod_lt T (show 0 < 2 by decide)
  have e2 : T / 2 * (P * 2) = 2 * (T / 2) * P := by grind
  rw [e2]
  have h5 : T % 2 = 0 ∨ T % 2 = 1 := by omega
  rcases h5 with h5 | h5
  · have e3 : 2 * (T / 2) = T := by omega
    rw [e3]
    have e4 : P * T = T * P := Nat.mul_comm ..
    constructor
    · intro h; omega
    · intro h; rfl
  · have e3 : 2 * (T / 2) = T - 1 := by omega
    rw [e3]
    obtain ⟨t, rfl⟩ : ∃ t, T = t + 1 := ⟨T - 1, by omega⟩
    rw [Nat.add_sub_cancel, Nat.add_mul, Nat.one_mul]
    rw [Nat.mul_add, Nat.mul_one] at h1
    have e4 : P * t = t * P := Nat.mul_comm ..
    constructor
    · intro h; rfl
    · intro h; omega
end Fr
