/-
  Plain lemmas for layer 3 (text): runes of bytes (UTF-8 as the language decodes it), kinds, folds, the first runes. No program is named here.
-/
import Derived.Lib.RuneBytes
import Derived.Laws.Runes
import Derived.Laws.RangeAny
namespace Tx
set_option linter.unusedVariables false
set_option linter.unusedSimpArgs false
open Go

/-- byte k of a list, as a number -/
def gb (l : List UInt8) (k : Nat) : Nat := (l.getD k 0).toNat
def ct (l : List UInt8) (k : Nat) : Bool := decide (k < l.length) && gb l k / 64 == 2
/-- the first rune of a list of bytes, and how many bytes it takes -/
def dec (l : List UInt8) : Nat × Nat :=
  if gb l 0 < 128 then (gb l 0, 1)
  else if gb l 0 / 32 == 6 && ct l 1 then
    if gb l 0 % 32 * 64 + gb l 1 % 64 ≥ 128 then (gb l 0 % 32 * 64 + gb l 1 % 64, 2) else (65533, 1)
  else if gb l 0 / 16 == 14 && ct l 1 && ct l 2 then
    if gb l 0 % 16 * 4096 + gb l 1 % 64 * 64 + gb l 2 % 64 ≥ 2048 && validRune ((gb l 0 % 16 * 4096 + gb l 1 % 64 * 64 + gb l 2 % 64 : Nat) : Int) then (gb l 0 % 16 * 4096 + gb l 1 % 64 * 64 + gb l 2 % 64, 3) else (65533, 1)
  else if gb l 0 / 8 == 30 && ct l 1 && ct l 2 && ct l 3 then
    if gb l 0 % 8 * 262144 + gb l 1 % 64 * 4096 + gb l 2 % 64 * 64 + gb l 3 % 64 ≥ 65536 && validRune ((gb l 0 % 8 * 262144 + gb l 1 % 64 * 4096 + gb l 2 % 64 * 64 + gb l 3 % 64 : Nat) : Int) then (gb l 0 % 8 * 262144 + gb l 1 % 64 * 4096 + gb l 2 % 64 * 64 + gb l 3 % 64, 4) else (65533, 1)
  else (65533, 1)

theorem get!_bl (s : ByteArray) (j : Nat) : s.get! j = s.data.toList.getD j 0 := by
  rcases Nat.lt_or_ge j s.data.size with h | h
  · have : s.get! j = s.data[j] := by
      show s.data[j]! = _
      exact getElem!_pos s.data j h
    rw [this, List.getD_eq_getElem?_getD, List.getElem?_eq_getElem (by simpa using h), Option.getD_some, Array.getElem_toList]
  · have : s.get! j = default := by
      show s.data[j]! = _
      exact getElem!_neg s.data j (by omega)
    rw [this, List.getD_eq_getElem?_getD, List.getElem?_eq_none (by simpa using h)]
    rfl

theorem decode_eq (s : ByteArray) (i : Nat) : Utf8.decode s i = dec (s.data.toList.drop i) := by
  have hg : ∀ k, (s.get! (i + k)).toNat = gb (s.data.toList.drop i) k := fun k => by
    rw [get!_bl]; unfold gb; simp [List.getD_eq_getElem?_getD]
  have hc : ∀ k, (decide (i + k < s.size) && gb (s.data.toList.drop i) k / 64 == 2) = ct (s.data.toList.drop i) k := fun k => by
    unfold ct
    congr 1
    rw [List.length_drop, Array.length_toList]
    show decide (i + k < s.data.size) = _
    by_cases h : i + k < s.data.size
    · simp [h]; omega
    · simp [h]; omega
  unfold Utf8.decode dec
  simp only [hg, hc, Utf8.runeError, validRune_eq]

theorem gb_lt (l : List UInt8) (k : Nat) : gb l k < 256 := (l.getD k 0).toNat_lt
theorem ct_spec {l : List UInt8} {k : Nat} (h : ct l k = true) : k < l.length ∧ gb l k / 64 = 2 := by simpa [ct] using h

theorem dec_pos (l : List UInt8) : 1 ≤ (dec l).2 := by
  unfold dec
  repeat' split
  all_goals simp
theorem dec_le (l : List UInt8) (h : l ≠ []) : (dec l).2 ≤ l.length := by
  have h1 : 1 ≤ l.length := by cases l with | nil => exact absurd rfl h | cons => simp
  unfold dec
  repeat' split
  all_goals try exact h1
  all_goals simp_all [ct]
  all_goals omega
theorem dec_small (l : List UInt8) : (dec l).2 ≤ 4 := by
  unfold dec
  repeat' split
  all_goals simp

theorem validRune_small {n : Nat} (h : n < 55296) : validRune (n : Int) = true := by simp [validRune]; omega
theorem dec_valid (l : List UInt8) : validRune ((dec l).1 : Int) = true := by
  have h0 := gb_lt l 0
  unfold dec
  split
  · exact validRune_small (by omega)
  · split
    · split
      · exact validRune_small (by omega)
      · decide
    · split
      · split
        · next h => simp only [Bool.and_eq_true] at h; exact h.2
        · decide
      · split
        · split
          · next h => simp only [Bool.and_eq_true] at h; exact h.2
          · decide
        · decide

theorem gb_take {l : List UInt8} {k n : Nat} (h : k < n) : gb (l.take n) k = gb l k := by
  unfold gb
  rw [List.getD_eq_getElem?_getD, List.getD_eq_getElem?_getD, List.getElem?_take_of_lt h]
theorem ct_take {l : List UInt8} {k n : Nat} (h : k < n) : ct (l.take n) k = ct l k := by
  unfold ct
  rw [gb_take h]
  congr 1
  rw [List.length_take]
  by_cases h2 : k < l.length
  · simp [h2]; omega
  · simp [h2]; omega
theorem ct_take_le {l : List UInt8} {k n : Nat} (h : ct (l.take n) k = true) : k < n ∧ ct l k = true := by
  have h1 := (ct_spec h).1
  rw [List.length_take] at h1
  have : k < n := by omega
  exact ⟨this, by rw [← ct_take this]; exact h⟩

theorem dec_take (l : List UInt8) (n : Nat) (h1 : 1 ≤ n) (h : (dec l).2 ≤ n) : dec (l.take n) = dec l := by
  have e0 := gb_take (l := l) (show 0 < n by omega)
  rcases Nat.lt_or_ge 3 n with h3 | h3
  · simp only [dec, gb_take (l := l) (show 0 < n by omega), gb_take (l := l) (show 1 < n by omega), gb_take (l := l) (show 2 < n by omega), gb_take (l := l) (show 3 < n by omega), ct_take (l := l) (show 1 < n by omega), ct_take (l := l) (show 2 < n by omega), ct_take (l := l) (show 3 < n by omega)]
  · have hn : n = 1 ∨ n = 2 ∨ n = 3 := by omega
    have hno : ∀ k, n ≤ k → ct (l.take n) k = false := fun k hk => by
      cases hc : ct (l.take n) k with
      | false => rfl
      | true => have := (ct_take_le hc).1; omega
    rcases hn with rfl | rfl | rfl
    · have a1 := hno 1 (by omega)
      unfold dec at h ⊢
      simp only [e0, a1, Bool.and_false, Bool.false_and, Bool.false_eq_true, if_false]
      split
      · rfl
      · rename_i hh
        simp only [hh, if_false] at h
        split
        · rename_i h2
          simp only [h2, if_true] at h
          split
          · rename_i h3; simp only [h3, if_true] at h; simp at h
          · rfl
        · rename_i h2
          simp only [h2, if_false] at h
          split
          · rename_i h4
            simp only [h4, if_true] at h
            split
            · rename_i h5; simp only [h5, if_true] at h; simp at h
            · rfl
          · rename_i h4
            simp only [h4, if_false] at h
            split
            · rename_i h6
              simp only [h6, if_true] at h
              split
              · rename_i h7; simp only [h7, if_true] at h; simp at h
              · rfl
            · rfl
    · have a2 := hno 2 (by omega)
      have e1 := gb_take (l := l) (show 1 < 2 by omega)
      have c1 := ct_take (l := l) (show 1 < 2 by omega)
      unfold dec at h ⊢
      simp only [e0, e1, c1, a2, Bool.and_false, Bool.false_and, Bool.false_eq_true, if_false]
      split
      · rfl
      · rename_i hh
        simp only [hh, if_false] at h
        split
        · rfl
        · rename_i h2
          simp only [h2, if_false] at h
          split
          · rename_i h4
            simp only [h4, if_true] at h
            split
            · rename_i h5; simp only [h5, if_true] at h; simp at h
            · rfl
          · rename_i h4
            simp only [h4, if_false] at h
            split
            · rename_i h6
              simp only [h6, if_true] at h
              split
              · rename_i h7; simp only [h7, if_true] at h; simp at h
              · rfl
            · rfl
    · have a3 := hno 3 (by omega)
      have e1 := gb_take (l := l) (show 1 < 3 by omega)
      have c1 := ct_take (l := l) (show 1 < 3 by omega)
      have e2 := gb_take (l := l) (show 2 < 3 by omega)
      have c2 := ct_take (l := l) (show 2 < 3 by omega)
      unfold dec at h ⊢
      simp only [e0, e1, c1, e2, c2, a3, Bool.and_false, Bool.false_and, Bool.false_eq_true, if_false]
      split
      · rfl
      · rename_i hh
        simp only [hh, if_false] at h
        split
        · rfl
        · rename_i h2
          simp only [h2, if_false] at h
          split
          · rfl
          · rename_i h4
            simp only [h4, if_false] at h
            split
            · rename_i h6
              simp only [h6, if_true] at h
              split
              · rename_i h7; simp only [h7, if_true] at h; simp at h
              · rfl
            · rfl


/-! ### runes -/
/-- the bytes of a rune -/
abbrev enc (r : Int) : List UInt8 := Lib.encodeRune r
theorem enc_one {r : Int} (h0 : 0 ≤ r) (h1 : r ≤ 127) : enc r = [r.toNat.toUInt8] := by simp [enc, Lib.encodeRune, Lib.encodeRuneZ_one h0 h1]
theorem enc_two {r : Int} (h0 : 128 ≤ r) (h1 : r ≤ 2047) : enc r = [(192 + r / 64).toNat.toUInt8, (128 + r % 64).toNat.toUInt8] := by simp [enc, Lib.encodeRune, Lib.encodeRuneZ_two h0 h1]
theorem enc_three {r : Int} (h : (2048 ≤ r ∧ r < 55296) ∨ (57343 < r ∧ r ≤ 65535)) : enc r = [(224 + r / 4096).toNat.toUInt8, (128 + r / 64 % 64).toNat.toUInt8, (128 + r % 64).toNat.toUInt8] := by simp [enc, Lib.encodeRune, Lib.encodeRuneZ_three h]
theorem enc_four {r : Int} (h0 : 65536 ≤ r) (h1 : r ≤ 1114111) : enc r = [(240 + r / 262144).toNat.toUInt8, (128 + r / 4096 % 64).toNat.toUInt8, (128 + r / 64 % 64).toNat.toUInt8, (128 + r % 64).toNat.toUInt8] := by simp [enc, Lib.encodeRune, Lib.encodeRuneZ_four h0 h1]
theorem enc_length (r : Int) : 1 ≤ (enc r).length ∧ (enc r).length ≤ 4 := by
  have := Lib.encodeRuneZ_length r
  simpa [enc, Lib.encodeRune] using this
theorem enc_ne (r : Int) : enc r ≠ [] := fun h => by have := (enc_length r).1; rw [h] at this; simp at this

theorem b8 (x : Int) (h0 : 0 ≤ x) (h1 : x < 256) : (x.toNat.toUInt8).toNat = x.toNat := by simp; omega
theorem validRune_spec {r : Int} (h : validRune r = true) : (0 ≤ r ∧ r < 55296) ∨ (57343 < r ∧ r ≤ 1114111) := by simpa [validRune] using h

theorem dec_enc (r : Int) (t : List UInt8) (h : validRune r = true) : dec (enc r ++ t) = (r.toNat, (enc r).length) := by
  have hv := validRune_spec h
  by_cases h1 : r ≤ 127
  · have e := enc_one (r := r) (by omega) h1
    have g0 : gb (enc r ++ t) 0 = r.toNat := by rw [e]; simp only [gb, List.cons_append, List.getD_cons_zero]; exact b8 r (by omega) (by omega)
    unfold dec
    rw [if_pos (by omega), g0, e]
    rfl
  · by_cases h2 : r ≤ 2047
    · have e := enc_two (r := r) (by omega) h2
      have g0 : gb (enc r ++ t) 0 = (192 + r / 64).toNat := by rw [e]; simp only [gb, List.cons_append, List.getD_cons_zero]; exact b8 _ (by omega) (by omega)
      have g1 : gb (enc r ++ t) 1 = (128 + r % 64).toNat := by rw [e]; simp only [gb, List.cons_append, List.getD_cons_zero, List.getD_cons_succ]; exact b8 _ (by omega) (by omega)
      have c1 : ct (enc r ++ t) 1 = true := by unfold ct; rw [g1, e]; simp; omega
      unfold dec
      rw [if_neg (by omega), if_pos (by rw [c1, g0]; simp; omega), if_pos (by omega), g0, g1, e]
      refine Prod.ext ?_ rfl
      show _ = r.toNat
      omega
    · by_cases h3 : r ≤ 65535
      · have e := enc_three (r := r) (by omega)
        have g0 : gb (enc r ++ t) 0 = (224 + r / 4096).toNat := by rw [e]; simp only [gb, List.cons_append, List.getD_cons_zero]; exact b8 _ (by omega) (by omega)
        have g1 : gb (enc r ++ t) 1 = (128 + r / 64 % 64).toNat := by rw [e]; simp only [gb, List.cons_append, List.getD_cons_zero, List.getD_cons_succ]; exact b8 _ (by omega) (by omega)
        have g2 : gb (enc r ++ t) 2 = (128 + r % 64).toNat := by rw [e]; simp only [gb, List.cons_append, List.getD_cons_zero, List.getD_cons_succ]; exact b8 _ (by omega) (by omega)
        have c1 : ct (enc r ++ t) 1 = true := by unfold ct; rw [g1, e]; simp; omega
        have c2 : ct (enc r ++ t) 2 = true := by unfold ct; rw [g2, e]; simp; omega
        have hN : gb (enc r ++ t) 0 % 16 * 4096 + gb (enc r ++ t) 1 % 64 * 64 + gb (enc r ++ t) 2 % 64 = r.toNat := by rw [g0, g1, g2]; omega
        unfold dec
        rw [hN, if_neg (by omega), if_neg (by rw [g0]; simp; omega), if_pos (by rw [c1, c2, g0]; simp; omega),
          if_pos (by rw [show ((r.toNat : Nat) : Int) = r by omega, h]; simp; omega), e]
        rfl
      · have e := enc_four (r := r) (by omega) (by omega)
        have g0 : gb (enc r ++ t) 0 = (240 + r / 262144).toNat := by rw [e]; simp only [gb, List.cons_append, List.getD_cons_zero]; exact b8 _ (by omega) (by omega)
        have g1 : gb (enc r ++ t) 1 = (128 + r / 4096 % 64).toNat := by rw [e]; simp only [gb, List.cons_append, List.getD_cons_zero, List.getD_cons_succ]; exact b8 _ (by omega) (by omega)
        have g2 : gb (enc r ++ t) 2 = (128 + r / 64 % 64).toNat := by rw [e]; simp only [gb, List.cons_append, List.getD_cons_zero, List.getD_cons_succ]; exact b8 _ (by omega) (by omega)
        have g3 : gb (enc r ++ t) 3 = (128 + r % 64).toNat := by rw [e]; simp only [gb, List.cons_append, List.getD_cons_zero, List.getD_cons_succ]; exact b8 _ (by omega) (by omega)
        have c1 : ct (enc r ++ t) 1 = true := by unfold ct; rw [g1, e]; simp; omega
        have c2 : ct (enc r ++ t) 2 = true := by unfold ct; rw [g2, e]; simp; omega
        have c3 : ct (enc r ++ t) 3 = true := by unfold ct; rw [g3, e]; simp; omega
        have hN : gb (enc r ++ t) 0 % 8 * 262144 + gb (enc r ++ t) 1 % 64 * 4096 + gb (enc r ++ t) 2 % 64 * 64 + gb (enc r ++ t) 3 % 64 = r.toNat := by rw [g0, g1, g2, g3]; omega
        unfold dec
        rw [hN, if_neg (by omega), if_neg (by rw [g0]; simp; omega), if_neg (by rw [g0]; simp; omega), if_pos (by rw [c1, c2, c3, g0]; simp; omega),
          if_pos (by rw [show ((r.toNat : Nat) : Int) = r by omega, h]; simp; omega), e]
        rfl

/-- the model's own encoding is this one -/
theorem enc_eq (r : Int) : (Utf8.encode r).data.toList = enc r := by
  unfold Utf8.encode
  simp only [validRune_eq]
  by_cases h : validRune r = true
  · have hv := validRune_spec h
    simp only [h, if_true]
    by_cases h1 : r ≤ 127
    · rw [if_pos (by omega), enc_one (by omega) h1]
    · rw [if_neg (by omega)]
      by_cases h2 : r ≤ 2047
      · rw [if_pos (by omega), enc_two (by omega) h2]
        rw [show (192 + r / 64).toNat = 0xC0 + r.toNat / 64 by omega, show (128 + r % 64).toNat = 0x80 + r.toNat % 64 by omega]
      · rw [if_neg (by omega)]
        by_cases h3 : r ≤ 65535
        · rw [if_pos (by omega), enc_three (by omega)]
          rw [show (224 + r / 4096).toNat = 0xE0 + r.toNat / 4096 by omega, show (128 + r / 64 % 64).toNat = 0x80 + r.toNat / 64 % 64 by omega, show (128 + r % 64).toNat = 0x80 + r.toNat % 64 by omega]
        · rw [if_neg (by omega), enc_four (by omega) (by omega)]
          rw [show (240 + r / 262144).toNat = 0xF0 + r.toNat / 262144 by omega, show (128 + r / 4096 % 64).toNat = 0x80 + r.toNat / 4096 % 64 by omega, show (128 + r / 64 % 64).toNat = 0x80 + r.toNat / 64 % 64 by omega, show (128 + r % 64).toNat = 0x80 + r.toNat % 64 by omega]
  · have h' : validRune r = false := by simpa using h
    have hv : r < 0 ∨ (55296 ≤ r ∧ r ≤ 57343) ∨ 1114111 < r := by
      have : ¬ ((0 ≤ r ∧ r < 55296) ∨ (57343 < r ∧ r ≤ 1114111)) := by simpa [validRune] using h'
      omega
    rw [h']
    simp only [enc, Lib.encodeRune, Lib.encodeRuneZ_bad hv, Bool.false_eq_true, if_false, Utf8.runeError]
    decide

/-- the runes of a list of bytes -/
def runesF : Nat → List UInt8 → List Int
  | 0, _ => []
  | n + 1, l => if l = [] then [] else ((dec l).1 : Int) :: runesF n (l.drop (dec l).2)
def runesL (l : List UInt8) : List Int := runesF l.length l
theorem runesF_enough : ∀ (n m : Nat) (l : List UInt8), l.length ≤ n → l.length ≤ m → runesF n l = runesF m l
  | 0, m, l, h, _ => by
    have : l = [] := List.eq_nil_of_length_eq_zero (by omega)
    subst this
    cases m <;> simp [runesF]
  | n + 1, 0, l, _, h => by
    have : l = [] := List.eq_nil_of_length_eq_zero (by omega)
    subst this
    simp [runesF]
  | n + 1, m + 1, l, h, h' => by
    unfold runesF
    split
    · rfl
    · congr 1
      have hp := dec_pos l
      exact runesF_enough n m _ (by rw [List.length_drop]; omega) (by rw [List.length_drop]; omega)
theorem runesL_nil : runesL [] = [] := rfl
theorem runesL_step (l : List UInt8) (h : l ≠ []) : runesL l = ((dec l).1 : Int) :: runesL (l.drop (dec l).2) := by
  have hl : 1 ≤ l.length := by cases l with | nil => exact absurd rfl h | cons => simp
  have hp := dec_pos l
  unfold runesL
  obtain ⟨n, hn⟩ : ∃ n, l.length = n + 1 := ⟨l.length - 1, by omega⟩
  rw [hn]
  show (if l = [] then [] else ((dec l).1 : Int) :: runesF n (l.drop (dec l).2)) = _
  rw [if_neg h]
  congr 1
  exact runesF_enough _ _ _ (by rw [List.length_drop]; omega) (by rw [List.length_drop]; omega)
theorem ind_runes {P : List UInt8 → Prop} (h0 : P []) (h1 : ∀ l, l ≠ [] → P (l.drop (dec l).2) → P l) : ∀ l, P l := by
  have : ∀ n (l : List UInt8), l.length ≤ n → P l := by
    intro n
    induction n with
    | zero =>
      intro l hl
      have e : l = [] := List.eq_nil_of_length_eq_zero (by omega)
      rw [e]; exact h0
    | succ n ih =>
      intro l hl
      by_cases hn : l = []
      · rw [hn]; exact h0
      · refine h1 l hn (ih _ ?_)
        have := dec_pos l
        rw [List.length_drop]; omega
  exact fun l => this l.length l (Nat.le_refl _)
theorem runesL_valid : ∀ (l : List UInt8), ∀ r ∈ runesL l, validRune r = true := by
  refine ind_runes (by simp [runesL_nil]) ?_
  intro l hl ih r hr
  rw [runesL_step l hl] at hr
  rcases List.mem_cons.1 hr with rfl | hr
  · exact dec_valid l
  · exact ih r hr
theorem runesL_length : ∀ (l : List UInt8), (runesL l).length ≤ l.length ∧ l.length ≤ 4 * (runesL l).length := by
  refine ind_runes (by simp [runesL_nil]) ?_
  intro l hl ih
  rw [runesL_step l hl]
  have h1 := dec_pos l
  have h2 := dec_le l hl
  have h3 := dec_small l
  rw [List.length_drop] at ih
  simp only [List.length_cons]
  omega
theorem runesL_enc (r : Int) (t : List UInt8) (h : validRune r = true) : runesL (enc r ++ t) = r :: runesL t := by
  have hv := validRune_spec h
  rw [runesL_step _ (by simp [enc_ne r]), dec_enc r t h]
  simp only
  rw [List.drop_left]
  congr 1
  omega
/-- runes as bytes -/
def unrunes (rs : List Int) : List UInt8 := rs.flatMap enc
theorem unrunes_cons (r : Int) (rs : List Int) : unrunes (r :: rs) = enc r ++ unrunes rs := by simp [unrunes]
theorem unrunes_append (a b : List Int) : unrunes (a ++ b) = unrunes a ++ unrunes b := by simp [unrunes]
theorem runesL_unrunes : ∀ (rs : List Int), (∀ r ∈ rs, validRune r = true) → runesL (unrunes rs) = rs
  | [], _ => rfl
  | r :: rs, h => by
    rw [unrunes_cons, runesL_enc r _ (h r (by simp)), runesL_unrunes rs (fun x hx => h x (by simp [hx]))]
theorem unrunes_length (rs : List Int) : (unrunes rs).length ≤ 4 * rs.length := by
  induction rs with
  | nil => simp [unrunes]
  | cons r rs ih =>
    have := enc_length r
    rw [unrunes_cons, List.length_append, List.length_cons]
    omega

theorem gb_getElem {l : List UInt8} {k : Nat} (h : k < l.length) : (l[k]).toNat = gb l k := by simp [gb, h]
set_option maxHeartbeats 2000000 in
theorem dec_back (l : List UInt8) (hl : l ≠ []) (h : (dec l).1 ≠ 65533) : l.take (dec l).2 = enc ((dec l).1 : Int) := by
  have h0 := gb_lt l 0; have b1 := gb_lt l 1; have b2 := gb_lt l 2; have b3 := gb_lt l 3
  have hn : 0 < l.length := by cases l with | nil => exact absurd rfl hl | cons => simp
  have key : ∀ (a b : UInt8), a.toNat = b.toNat → a = b := fun a b h => UInt8.toNat_inj.1 h
  have t1 : l.take 1 = [l[0]] := by
    apply List.ext_getElem
    · simp; omega
    · intro i h1 h2; have : i = 0 := by simp at h2; omega
      subst this; simp
  unfold dec at h ⊢
  split
  · rename_i c
    simp only [c, if_true]
    rw [enc_one (by omega) (by omega), t1]
    congr 1
    apply key
    rw [gb_getElem, b8 _ (by omega) (by omega)]; omega
  · rename_i c
    simp only [c, if_false] at h
    split
    · rename_i d
      simp only [d, if_true] at h
      split
      · rename_i e
        simp only [Bool.and_eq_true, beq_iff_eq] at d
        have c1 := ct_spec d.2
        rw [enc_two (by omega) (by omega)]
        apply List.ext_getElem
        · simp; omega
        · intro i h1 h2
          simp only [List.length_cons, List.length_nil] at h2
          have hi : i = 0 ∨ i = 1 := by omega
          rcases hi with rfl | rfl
          · simp only [List.getElem_take, List.getElem_cons_zero]
            apply key; rw [gb_getElem, b8 _ (by omega) (by omega)]; omega
          · simp only [List.getElem_take, List.getElem_cons_zero, List.getElem_cons_succ]
            apply key; rw [gb_getElem, b8 _ (by omega) (by omega)]; omega
      · rename_i e; simp only [e, if_false] at h; exact absurd rfl h
    · rename_i d
      simp only [d, if_false] at h
      split
      · rename_i d2
        simp only [d2, if_true] at h
        split
        · rename_i e
          simp only [Bool.and_eq_true, beq_iff_eq, decide_eq_true_eq] at d2 e
          have c1 := ct_spec d2.1.2
          have c2 := ct_spec d2.2
          have hv := validRune_spec e.2
          have e1 := e.1
          rw [enc_three (by omega)]
          apply List.ext_getElem
          · simp; omega
          · intro i h1 h2
            simp only [List.length_cons, List.length_nil] at h2
            have hi : i = 0 ∨ i = 1 ∨ i = 2 := by omega
            rcases hi with rfl | rfl | rfl
            · simp only [List.getElem_take, List.getElem_cons_zero]
              apply key; rw [gb_getElem, b8 _ (by omega) (by omega)]; omega
            · simp only [List.getElem_take, List.getElem_cons_zero, List.getElem_cons_succ]
              apply key; rw [gb_getElem, b8 _ (by omega) (by omega)]; omega
            · simp only [List.getElem_take, List.getElem_cons_zero, List.getElem_cons_succ]
              apply key; rw [gb_getElem, b8 _ (by omega) (by omega)]; omega
        · rename_i e; simp only [e, Bool.false_eq_true, if_false] at h; exact absurd rfl h
      · rename_i d2
        simp only [d2, Bool.false_eq_true, if_false] at h
        split
        · rename_i d3
          simp only [d3, if_true] at h
          split
          · rename_i e
            simp only [Bool.and_eq_true, beq_iff_eq, decide_eq_true_eq] at d3 e
            have c1 := ct_spec d3.1.1.2
            have c2 := ct_spec d3.1.2
            have c3 := ct_spec d3.2
            have hv := validRune_spec e.2
            have e1 := e.1
            rw [enc_four (by omega) (by omega)]
            apply List.ext_getElem
            · simp; omega
            · intro i h1 h2
              simp only [List.length_cons, List.length_nil] at h2
              have hi : i = 0 ∨ i = 1 ∨ i = 2 ∨ i = 3 := by omega
              rcases hi with rfl | rfl | rfl | rfl
              · simp only [List.getElem_take, List.getElem_cons_zero]
                apply key; rw [gb_getElem, b8 _ (by omega) (by omega)]; omega
              · simp only [List.getElem_take, List.getElem_cons_zero, List.getElem_cons_succ]
                apply key; rw [gb_getElem, b8 _ (by omega) (by omega)]; omega
              · simp only [List.getElem_take, List.getElem_cons_zero, List.getElem_cons_succ]
                apply key; rw [gb_getElem, b8 _ (by omega) (by omega)]; omega
              · simp only [List.getElem_take, List.getElem_cons_zero, List.getElem_cons_succ]
                apply key; rw [gb_getElem, b8 _ (by omega) (by omega)]; omega
          · rename_i e; simp only [e, Bool.false_eq_true, if_false] at h; exact absurd rfl h
        · rename_i d3; simp only [d3, Bool.false_eq_true, if_false] at h; exact absurd rfl h
theorem unrunes_back : ∀ (l : List UInt8), (∀ r ∈ runesL l, r ≠ 65533) → unrunes (runesL l) = l := by
  refine ind_runes (by simp [runesL_nil, unrunes]) ?_
  intro l hl ih h
  rw [runesL_step l hl] at h ⊢
  have hd : (dec l).1 ≠ 65533 := fun e => h ((dec l).1 : Int) (by simp) (by rw [e]; rfl)
  rw [unrunes_cons, ih (fun r hr => h r (by simp [hr])), ← dec_back l hl hd, List.take_append_drop]

/-! ### kinds -/
def lowB (r : Int) : Bool := decide ((97 ≤ r ∧ r ≤ 122) ∨ (224 ≤ r ∧ r ≤ 254 ∧ r ≠ 247) ∨ (945 ≤ r ∧ r ≤ 969 ∧ r ≠ 962) ∨ (1072 ≤ r ∧ r ≤ 1103))
def uppB (r : Int) : Bool := decide ((65 ≤ r ∧ r ≤ 90) ∨ (192 ≤ r ∧ r ≤ 222 ∧ r ≠ 215) ∨ (913 ≤ r ∧ r ≤ 937 ∧ r ≠ 930) ∨ (1040 ≤ r ∧ r ≤ 1071))
def kd (r : Int) : Int := if lowB r = true then 1 else if 48 ≤ r ∧ r ≤ 57 then 2 else if r = 45 ∨ r = 46 then 3 else if uppB r = true then 4 else 0
theorem lowB_iff (r : Int) : lowB r = true ↔ ((97 ≤ r ∧ r ≤ 122) ∨ (224 ≤ r ∧ r ≤ 254 ∧ r ≠ 247) ∨ (945 ≤ r ∧ r ≤ 969 ∧ r ≠ 962) ∨ (1072 ≤ r ∧ r ≤ 1103)) := by simp [lowB]
theorem uppB_iff (r : Int) : uppB r = true ↔ ((65 ≤ r ∧ r ≤ 90) ∨ (192 ≤ r ∧ r ≤ 222 ∧ r ≠ 215) ∨ (913 ≤ r ∧ r ≤ 937 ∧ r ≠ 930) ∨ (1040 ≤ r ∧ r ≤ 1071)) := by simp [uppB]
theorem low_up (r : Int) : lowB (r + 32) = uppB r := by rw [Bool.eq_iff_iff, lowB_iff, uppB_iff]; omega
theorem kd_range (r : Int) : 0 ≤ kd r ∧ kd r ≤ 4 := by 
  unfold kd
  repeat' split
  all_goals decide
theorem kd_four (r : Int) : kd r = 4 ↔ uppB r = true := by
  unfold kd
  constructor
  · intro h
    repeat' split at h
    all_goals first | omega | assumption
  · intro h
    have h' := (uppB_iff r).1 h
    rw [if_neg (by rw [lowB_iff]; omega), if_neg (by omega), if_neg (by omega), if_pos h]
def foldR (r : Int) : Int := if kd r = 4 then r + 32 else r
theorem foldR_no (r : Int) : kd (foldR r) ≠ 4 := by
  unfold foldR
  by_cases h : kd r = 4
  · rw [if_pos h]
    intro h2
    rw [kd_four, uppB_iff] at h h2
    omega
  · rw [if_neg h]; exact h
theorem foldR_two (r : Int) : foldR (foldR r) = foldR r := by
  show (if kd (foldR r) = 4 then foldR r + 32 else foldR r) = _
  rw [if_neg (foldR_no r)]
theorem foldR_valid (r : Int) (h : validRune r = true) : validRune (foldR r) = true := by
  unfold foldR
  by_cases hk : kd r = 4
  · rw [if_pos hk]
    rw [kd_four, uppB_iff] at hk
    simp [validRune]; omega
  · rw [if_neg hk]; exact h
/-- a name's rune -/
def nameR (r : Int) : Bool := decide (1 ≤ kd r ∧ kd r ≤ 3)
theorem nameR_keep {r : Int} (h : nameR r = true) : foldR r = r ∧ r ≠ 65533 := by
  simp only [nameR, decide_eq_true_eq] at h
  refine ⟨by unfold foldR; rw [if_neg (by omega)], fun e => ?_⟩
  subst e
  revert h
  decide

def foldL (l : List UInt8) : List UInt8 := unrunes ((runesL l).map foldR)
def nameL (l : List UInt8) : Bool := (runesL l).all nameR && decide (1 ≤ (runesL l).length) && decide ((runesL l).length ≤ 16)
theorem runesL_fold (l : List UInt8) : runesL (foldL l) = (runesL l).map foldR := by
  unfold foldL
  apply runesL_unrunes
  intro r hr
  obtain ⟨x, hx, rfl⟩ := List.mem_map.1 hr
  exact foldR_valid x (runesL_valid l x hx)
theorem foldL_two (l : List UInt8) : foldL (foldL l) = foldL l := by
  show unrunes ((runesL (foldL l)).map foldR) = _
  rw [runesL_fold, List.map_map]
  show _ = unrunes ((runesL l).map foldR)
  congr 1
  apply List.map_congr_left
  intro r _
  exact foldR_two r
theorem foldL_count (l : List UInt8) : (runesL (foldL l)).length = (runesL l).length := by rw [runesL_fold, List.length_map]
theorem foldL_name (l : List UInt8) (h : nameL l = true) : foldL l = l := by
  simp only [nameL, Bool.and_eq_true, List.all_eq_true] at h
  have h1 := h.1.1
  unfold foldL
  have e : (runesL l).map foldR = runesL l := by
    conv => rhs; rw [← List.map_id (runesL l)]
    apply List.map_congr_left
    intro r hr
    exact (nameR_keep (h1 r hr)).1
  rw [e]
  exact unrunes_back l (fun r hr => (nameR_keep (h1 r hr)).2)
theorem foldL_length (l : List UInt8) : (foldL l).length ≤ 4 * l.length := by
  have h1 := unrunes_length ((runesL l).map foldR)
  have h2 := (runesL_length l).1
  rw [List.length_map] at h1
  unfold foldL
  omega

/-! ### the first runes -/
/-- how many bytes the first n runes take -/
def headF : Nat → List UInt8 → Nat
  | 0, _ => 0
  | n + 1, l => if l = [] then 0 else (dec l).2 + headF n (l.drop (dec l).2)
theorem headF_step (n : Nat) (l : List UInt8) (h : l ≠ []) : headF (n + 1) l = (dec l).2 + headF n (l.drop (dec l).2) := by
  show (if l = [] then 0 else _) = _
  rw [if_neg h]
theorem headF_nil (n : Nat) : headF n [] = 0 := by cases n <;> simp [headF]
theorem headF_le : ∀ (n : Nat) (l : List UInt8), headF n l ≤ l.length
  | 0, l => by simp [headF]
  | n + 1, l => by
    unfold headF
    split
    · simp
    · rename_i h
      have h1 := headF_le n (l.drop (dec l).2)
      have h2 := dec_le l h
      rw [List.length_drop] at h1
      omega
theorem runes_drop : ∀ (n : Nat) (l : List UInt8), runesL (l.drop (headF n l)) = (runesL l).drop n
  | 0, l => by simp [headF]
  | n + 1, l => by
    by_cases h : l = []
    · subst h; simp [headF, runesL_nil]
    · unfold headF
      rw [if_neg h, ← List.drop_drop, runes_drop n, runesL_step l h, List.drop_succ_cons]
theorem runes_take : ∀ (n : Nat) (l : List UInt8), runesL (l.take (headF n l)) = (runesL l).take n
  | 0, l => by simp [headF, runesL_nil]
  | n + 1, l => by
    by_cases h : l = []
    · subst h; simp [headF, runesL_nil]
    · have h1 := dec_pos l
      have h2 := dec_le l h
      have hd : dec (l.take (headF (n + 1) l)) = dec l := dec_take l _ (by rw [headF_step n l h]; omega) (by rw [headF_step n l h]; omega)
      have hne : l.take (headF (n + 1) l) ≠ [] := by
        intro e
        have := congrArg List.length e
        rw [List.length_take, List.length_nil] at this
        have h3 : (dec l).2 ≤ headF (n + 1) l := by rw [headF_step n l h]; omega
        omega
      rw [runesL_step _ hne, hd, runesL_step l h, List.take_succ_cons]
      congr 1
      rw [List.drop_take]
      have : headF (n + 1) l - (dec l).2 = headF n (l.drop (dec l).2) := by rw [headF_step n l h]; omega
      rw [this, runes_take n]

end Tx
