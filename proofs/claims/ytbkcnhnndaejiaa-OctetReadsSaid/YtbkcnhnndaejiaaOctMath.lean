/-
  Plain lemmas on bytes and numbers for layer 1 (octet): no program is named here.
-/
import Derived.Lib.BitFns
import Derived.Lib.ItoaNum
namespace Bil

/-- a string's bytes -/
def bl (s : ByteArray) : List UInt8 := s.data.toList
theorem bl_length (s : ByteArray) : (bl s).length = s.size := by show s.data.toList.length = s.data.size; rw [Array.length_toList]
theorem bl_mk (l : List UInt8) : bl ⟨l.toArray⟩ = l := by simp [bl]
theorem mk_bl (s : ByteArray) : (⟨(bl s).toArray⟩ : ByteArray) = s := by unfold bl; rw [Array.toArray_toList]
theorem bl_get (s : ByteArray) (k : Nat) (h : k < s.size) : (bl s)[k]'(by rw [bl_length]; exact h) = s[k] := by simp only [bl, Array.getElem_toList]; rfl
theorem bl_getD (s : ByteArray) (k : Nat) (h : k < s.size) : (bl s).getD k 0 = s[k] := by
  rw [List.getD_eq_getElem?_getD, List.getElem?_eq_getElem (by rw [bl_length]; exact h), Option.getD_some, bl_get]
theorem size_mk (l : List UInt8) : (ByteArray.mk l.toArray).size = l.length := by simp [ByteArray.size]

/-! ### big-endian numbers -/
def fixedL (v : Nat) : Nat → List UInt8
  | 0 => []
  | n + 1 => UInt8.ofNat (v / 256 ^ n) :: fixedL v n

theorem fixedL_length (v : Nat) : ∀ n, (fixedL v n).length = n
  | 0 => rfl
  | n + 1 => by simp [fixedL, fixedL_length v n]

theorem fixedL_get (v : Nat) : ∀ (n j : Nat) (h : j < (fixedL v n).length), (fixedL v n)[j] = UInt8.ofNat (v / 256 ^ (n - 1 - j))
  | 0, j, h => by simp [fixedL] at h
  | n + 1, 0, h => by simp [fixedL]
  | n + 1, j + 1, h => by
    simp only [fixedL, List.getElem_cons_succ]
    rw [fixedL_get v n j]
    congr 3
    omega

def number (l : List UInt8) : Nat := l.foldl (fun a b => a * 256 + b.toNat) 0

theorem foldl_number (l : List UInt8) : ∀ a, l.foldl (fun a b => a * 256 + b.toNat) a = a * 256 ^ l.length + number l := by
  induction l with
  | nil => intro a; simp [number]
  | cons b r ih =>
    intro a
    simp only [List.foldl_cons, List.length_cons, number]
    rw [ih, ih (0 * 256 + b.toNat), Nat.pow_succ]
    simp only [Nat.zero_mul, Nat.zero_add, Nat.add_mul]
    rw [Nat.mul_assoc a 256, Nat.mul_comm 256, Nat.add_assoc]

theorem number_cons (b : UInt8) (r : List UInt8) : number (b :: r) = b.toNat * 256 ^ r.length + number r := by
  have := foldl_number r (0 * 256 + b.toNat)
  simpa [number] using this

theorem number_snoc (l : List UInt8) (b : UInt8) : number (l ++ [b]) = number l * 256 + b.toNat := by simp [number]

theorem number_lt : ∀ (l : List UInt8), number l < 256 ^ l.length
  | [] => by simp [number]
  | b :: r => by
    rw [number_cons, List.length_cons, Nat.pow_succ]
    have h1 := number_lt r
    have h2 := b.toNat_lt
    have : b.toNat * 256 ^ r.length ≤ 255 * 256 ^ r.length := Nat.mul_le_mul_right _ (by omega)
    omega

theorem number_fixedL (v : Nat) : ∀ n, number (fixedL v n) = v % 256 ^ n
  | 0 => by simp [fixedL, number, Nat.mod_one]
  | n + 1 => by
    rw [fixedL, number_cons, number_fixedL v n, fixedL_length]
    have : (UInt8.ofNat (v / 256 ^ n)).toNat = v / 256 ^ n % 256 := by simp
    rw [this, Nat.pow_succ, Nat.mod_mul, Nat.mul_comm (v / 256 ^ n % 256)]
    omega

def fixedR (v : Nat) (n : Int) : List UInt8 × Int :=
  if n < 1 ∨ 8 < n then ([], 1) else if v / 256 ^ n.toNat = 0 then (fixedL v n.toNat, 0) else ([], 1)
def numberR (l : List UInt8) : Nat × Int := if l.length < 1 ∨ 8 < l.length then (0, 1) else (number l, 0)

theorem fixedR_back (v : Nat) (n : Int) (h : (fixedR v n).2 = 0) : numberR (fixedR v n).1 = (v, 0) := by
  unfold fixedR at h ⊢
  by_cases h1 : n < 1 ∨ 8 < n
  · rw [if_pos h1] at h; cases h
  · rw [if_neg h1] at h ⊢
    by_cases h2 : v / 256 ^ n.toNat = 0
    · rw [if_pos h2]
      have hp : 0 < 256 ^ n.toNat := Nat.pow_pos (by omega)
      have h3 : v < 256 ^ n.toNat := by rcases (Nat.div_eq_zero_iff).1 h2 with h | h <;> omega
      unfold numberR
      simp only [fixedL_length]
      rw [if_neg (by omega), number_fixedL, Nat.mod_eq_of_lt h3]
    · rw [if_neg h2] at h; cases h

theorem bitLen_le_iff (x k : Nat) (hx : x < 18446744073709551616) (hk : k ≤ 64) : Go.Lib.bitLen x ≤ k ↔ x < 2 ^ k := by
  constructor
  · intro h
    by_cases h0 : x = 0
    · subst h0; exact Nat.pow_pos (by omega)
    · obtain ⟨_, _, c⟩ := Go.Lib.bitLenAux_bounds 64 x hx h0
      exact Nat.lt_of_lt_of_le c (Nat.pow_le_pow_right (by omega) h)
  · exact Go.Lib.bitLen_le x k hk

theorem pow256 (n : Nat) : 256 ^ n = 2 ^ (8 * n) := by rw [Nat.pow_mul]

/-! ### varints -/
def chain (v : Nat) : List UInt8 :=
  if v < 128 then [UInt8.ofNat v] else UInt8.ofNat (v % 128 + 128) :: chain (v / 128)
  termination_by v
  decreasing_by omega

theorem chain_lt {v : Nat} (h : v < 128) : chain v = [UInt8.ofNat v] := by rw [chain, if_pos h]
theorem chain_ge {v : Nat} (h : 128 ≤ v) : chain v = UInt8.ofNat (v % 128 + 128) :: chain (v / 128) := by rw [chain, if_neg (by omega)]

theorem chain_length_le : ∀ (k v : Nat), v < 128 ^ (k + 1) → (chain v).length ≤ k + 1
  | 0, v, h => by rw [chain_lt (by simpa using h)]; simp
  | k + 1, v, h => by
    by_cases hv : v < 128
    · rw [chain_lt hv]; simp
    · rw [chain_ge (by omega)]
      have := chain_length_le k (v / 128) (by rw [Nat.div_lt_iff_lt_mul (by omega)]; rwa [Nat.pow_succ] at h)
      simp; omega

theorem chain_length_10 (v : Nat) (h : v < 18446744073709551616) : (chain v).length ≤ 10 :=
  chain_length_le 9 v (Nat.lt_of_lt_of_le h (by decide))

theorem chain_pos (v : Nat) : 0 < (chain v).length := by
  by_cases hv : v < 128
  · rw [chain_lt hv]; simp
  · rw [chain_ge (by omega)]; simp

/-- how many bytes a varint takes -/
def chainN (v : Nat) : Nat := if v < 128 then 1 else chainN (v / 128) + 1
  termination_by v
  decreasing_by omega
theorem chainN_lt {v : Nat} (h : v < 128) : chainN v = 1 := by rw [chainN, if_pos h]
theorem chainN_ge {v : Nat} (h : 128 ≤ v) : chainN v = chainN (v / 128) + 1 := by rw [chainN, if_neg (by omega)]
theorem chain_length (v : Nat) : (chain v).length = chainN v := by
  induction v using Nat.strongRecOn with
  | ind v ih =>
    by_cases hv : v < 128
    · rw [chain_lt hv, chainN_lt hv]; rfl
    · rw [chain_ge (by omega), chainN_ge (by omega), List.length_cons, ih _ (by omega)]
theorem chainN_pos (v : Nat) : 1 ≤ chainN v := by rw [← chain_length]; exact chain_pos v

theorem bitLen_zero : Go.Lib.bitLen 0 = 0 := by decide
theorem chainN_bits (v : Nat) (h : v < 18446744073709551616) : chainN v = max 1 ((Go.Lib.bitLen v + 6) / 7) := by
  induction v using Nat.strongRecOn with
  | ind v ih =>
    by_cases hv : v < 128
    · rw [chainN_lt hv]
      have := (bitLen_le_iff v 7 h (by omega)).2 hv
      omega
    · rw [chainN_ge (by omega), ih _ (by omega) (by omega), Go.Lib.bitLen_shift 7 v (by omega) (by omega)]
      have : ¬ Go.Lib.bitLen (v / 2 ^ 7) ≤ 0 := fun hh => by
        have := (bitLen_le_iff (v / 2 ^ 7) 0 (by omega) (by omega)).1 hh
        omega
      have e : v / 2 ^ 7 = v / 128 := rfl
      rw [e] at this ⊢
      omega

/-- the byte at place j of a varint of n bytes -/
theorem chain_get : ∀ (j v : Nat) (h : j < (chain v).length), (chain v)[j] = if j + 1 < (chain v).length then UInt8.ofNat (v / 128 ^ j % 128 + 128) else UInt8.ofNat (v / 128 ^ j)
  | j, v, h => by
    by_cases hv : v < 128
    · have e := chain_lt hv
      have hj : j = 0 := by rw [e] at h; simpa using h
      subst hj
      simp [e]
    · have e := chain_ge (v := v) (by omega)
      cases j with
      | zero =>
        have hp := chain_pos (v / 128)
        simp [e]
        intro hh; rw [hh] at hp; simp at hp
      | succ j =>
        have h' : j < (chain (v / 128)).length := by rw [e] at h; simpa using h
        have ih := chain_get j (v / 128) h'
        simp only [e, List.getElem_cons_succ, List.length_cons, ih, Nat.div_div_eq_div_mul]
        have ep : 128 * 128 ^ j = 128 ^ (j + 1) := by rw [Nat.pow_succ, Nat.mul_comm]
        rw [ep]
        by_cases hj : j + 1 < (chain (v / 128)).length
        · rw [if_pos hj, if_pos (by omega)]
        · rw [if_neg hj, if_neg (by omega)]

theorem chain_last_lt : ∀ (v : Nat), v / 128 ^ ((chain v).length - 1) < 128 := by
  intro v
  induction v using Nat.strongRecOn with
  | ind v ih =>
    by_cases hv : v < 128
    · rw [chain_lt hv]; simpa using hv
    · rw [chain_ge (by omega)]
      have hp := chain_pos (v / 128)
      have := ih (v / 128) (by omega)
      rw [Nat.div_div_eq_div_mul] at this
      have e : 128 * 128 ^ ((chain (v / 128)).length - 1) = 128 ^ ((UInt8.ofNat (v % 128 + 128) :: chain (v / 128)).length - 1) := by
        rw [List.length_cons, Nat.mul_comm, ← Nat.pow_succ]; congr 1; omega
      rwa [e] at this

/-- how many bytes with the highest bit l begins with, ten at most -/
def leadG : Nat → List UInt8 → Nat
  | 0, _ => 0
  | _ + 1, [] => 0
  | k + 1, b :: r => if 128 ≤ b.toNat then leadG k r + 1 else 0
def lead (l : List UInt8) : Nat := leadG 10 l

theorem leadG_eq : ∀ (f k : Nat) (l : List UInt8), k ≤ f → k ≤ l.length → (∀ j, j < k → 128 ≤ (l.getD j 0).toNat) → (k = f ∨ k = l.length ∨ (l.getD k 0).toNat < 128) → leadG f l = k
  | 0, k, l, h1, _, _, _ => by simp [leadG]; omega
  | f + 1, k, [], _, h2, _, _ => by simp [leadG]; simp at h2; omega
  | f + 1, 0, b :: r, _, _, _, hs => by
    have : b.toNat < 128 := by simpa using hs
    simp [leadG]; omega
  | f + 1, k + 1, b :: r, h1, h2, ha, hs => by
    have h0 := ha 0 (by omega)
    have ih := leadG_eq f k r (by omega) (by simpa using h2) (fun j hj => by simpa using ha (j + 1) (by omega)) (by simpa using hs)
    have h0' : 128 ≤ b.toNat := by simpa using h0
    rw [leadG, if_pos h0', ih]

theorem lead_eq {k : Nat} {l : List UInt8} (h1 : k ≤ 10) (h2 : k ≤ l.length) (ha : ∀ j, j < k → 128 ≤ (l.getD j 0).toNat) (hs : k = 10 ∨ k = l.length ∨ (l.getD k 0).toNat < 128) : lead l = k := leadG_eq 10 k l h1 h2 ha hs

theorem leadG_spec : ∀ (f : Nat) (l : List UInt8), leadG f l ≤ f ∧ leadG f l ≤ l.length ∧ (∀ j, j < leadG f l → 128 ≤ (l.getD j 0).toNat) ∧ (leadG f l = f ∨ leadG f l = l.length ∨ (l.getD (leadG f l) 0).toNat < 128)
  | 0, l => by simp [leadG]
  | f + 1, [] => by simp [leadG]
  | f + 1, b :: r => by
    have ⟨a1, a2, a3, a4⟩ := leadG_spec f r
    by_cases h : 128 ≤ b.toNat
    · simp only [leadG, if_pos h, List.length_cons]
      refine ⟨by omega, by omega, fun j hj => ?_, ?_⟩
      · cases j with
        | zero => simpa using h
        | succ j => simpa using a3 j (by omega)
      · rcases a4 with h | h | h
        · left; omega
        · right; left; omega
        · right; right; simpa using h
    · simp only [leadG, if_neg h]
      refine ⟨by omega, by omega, fun j hj => by omega, .inr (.inr ?_)⟩
      simp; omega

/-- the number whose groups of seven bits are the bytes' low ones -/
def val : List UInt8 → Nat
  | [] => 0
  | b :: r => b.toNat % 128 + 128 * val r

theorem val_snoc : ∀ (l : List UInt8) (b : UInt8), val (l ++ [b]) = val l + b.toNat % 128 * 128 ^ l.length
  | [], b => by simp [val]
  | c :: r, b => by
    simp only [List.cons_append, val, val_snoc r b, List.length_cons, Nat.pow_succ, Nat.mul_add]
    rw [Nat.mul_comm (128 ^ r.length) 128, ← Nat.mul_assoc, ← Nat.mul_assoc, Nat.mul_comm 128 (b.toNat % 128)]
    omega

theorem val_lt : ∀ (l : List UInt8), val l < 128 ^ l.length
  | [] => by simp [val]
  | b :: r => by
    have := val_lt r
    simp only [val, List.length_cons, Nat.pow_succ]
    omega

def unchain (l : List UInt8) : Nat × Nat × Int :=
  if lead l = 10 then (0, 0, 3) else if lead l = l.length then (0, 0, 2)
  else if (lead l = 9 ∧ 1 < (l.getD (lead l) 0).toNat) ∨ (0 < lead l ∧ (l.getD (lead l) 0).toNat = 0) then (0, 0, 3)
  else (val (l.take (lead l + 1)), lead l + 1, 0)

theorem take_succ_getD (l : List UInt8) (k : Nat) (h : k < l.length) : l.take (k + 1) = l.take k ++ [l.getD k 0] := by
  rw [List.take_succ_eq_append_getElem h, List.getD_eq_getElem?_getD, List.getElem?_eq_getElem h]; rfl

/-- what is decoded fits 64 bits -/
theorem unchain_lt (l : List UInt8) : (unchain l).1 < 18446744073709551616 := by
  have ⟨a1, a2, a3, a4⟩ := leadG_spec 10 l
  unfold unchain
  split
  · simp
  · split
    · simp
    · split
      · simp
      · rename_i h1 h2 h3
        change lead l ≤ 10 at a1
        change lead l ≤ l.length at a2
        have hl : lead l < l.length := by omega
        have hlen : (l.take (lead l + 1)).length = lead l + 1 := by rw [List.length_take]; omega
        by_cases h9 : lead l = 9
        · have hb : (l.getD 9 0).toNat ≤ 1 := by rw [h9] at h3; omega
          simp only [h9] at hl ⊢
          rw [take_succ_getD l 9 hl, val_snoc]
          have hl9 : (l.take 9).length = 9 := by rw [List.length_take]; omega
          have := val_lt (l.take 9)
          rw [hl9] at this ⊢
          have e : (l.getD 9 0).toNat % 128 = (l.getD 9 0).toNat := by omega
          rw [e]
          have : (128 : Nat) ^ 9 = 9223372036854775808 := by decide
          omega
        · have h := val_lt (l.take (lead l + 1))
          rw [hlen] at h
          have h' : 128 ^ (lead l + 1) ≤ 128 ^ 9 := Nat.pow_le_pow_right (by omega) (by omega)
          have : (128 : Nat) ^ 9 = 9223372036854775808 := by decide
          simp only
          omega

theorem unchain_n (l : List UInt8) : (unchain l).2.1 ≤ l.length ∧ (unchain l).2.1 ≤ 10 := by
  have ⟨a1, a2, a3, a4⟩ := leadG_spec 10 l
  change lead l ≤ 10 at a1
  change lead l ≤ l.length at a2
  unfold unchain
  split
  · simp
  · split
    · simp
    · split
      · simp
      · simp only; omega

theorem getD_append_left (a b : List UInt8) (j : Nat) (h : j < a.length) : (a ++ b).getD j 0 = a.getD j 0 := by
  simp only [List.getD_eq_getElem?_getD]; rw [List.getElem?_append_left h]

theorem val_chain (v : Nat) : val (chain v) = v := by
  induction v using Nat.strongRecOn with
  | ind v ih =>
    by_cases hv : v < 128
    · rw [chain_lt hv]; simp [val]; omega
    · rw [chain_ge (by omega), val, ih _ (by omega)]; simp; omega

theorem chain_getD (v j : Nat) (h : j < (chain v).length) : ((chain v).getD j 0) = if j + 1 < (chain v).length then UInt8.ofNat (v / 128 ^ j % 128 + 128) else UInt8.ofNat (v / 128 ^ j) := by
  rw [List.getD_eq_getElem?_getD, List.getElem?_eq_getElem h, Option.getD_some, chain_get]

/-- the last byte of a varint of several bytes is not 0 -/
theorem chain_last_pos : ∀ (v : Nat), 1 < (chain v).length → 0 < v / 128 ^ ((chain v).length - 1) := by
  intro v
  induction v using Nat.strongRecOn with
  | ind v ih =>
    intro h
    by_cases hv : v < 128
    · rw [chain_lt hv] at h; simp at h
    · rw [chain_ge (by omega)]
      have hp := chain_pos (v / 128)
      have e : 128 ^ ((UInt8.ofNat (v % 128 + 128) :: chain (v / 128)).length - 1) = 128 * 128 ^ ((chain (v / 128)).length - 1) := by
        rw [List.length_cons, Nat.mul_comm, ← Nat.pow_succ]; congr 1; omega
      rw [e, ← Nat.div_div_eq_div_mul]
      by_cases h1 : 1 < (chain (v / 128)).length
      · exact ih (v / 128) (by omega) h1
      · have : (chain (v / 128)).length = 1 := by omega
        rw [this]; simp; omega

theorem unchain_chain (v : Nat) (h : v < 18446744073709551616) (m : List UInt8) : unchain (chain v ++ m) = (v, (chain v).length, 0) := by
  have hp := chain_pos v
  have h10 := chain_length_10 v h
  have hlt := chain_last_lt v
  have hg : ∀ j, j < (chain v).length → ((chain v ++ m).getD j 0) = if j + 1 < (chain v).length then UInt8.ofNat (v / 128 ^ j % 128 + 128) else UInt8.ofNat (v / 128 ^ j) := fun j hj => by
    rw [getD_append_left _ _ _ hj, chain_getD v j hj]
  have hlast : ((chain v ++ m).getD ((chain v).length - 1) 0).toNat = v / 128 ^ ((chain v).length - 1) := by
    rw [hg _ (by omega), if_neg (by omega)]; simp; omega
  have hlead : lead (chain v ++ m) = (chain v).length - 1 := by
    refine lead_eq (by omega) (by simp; omega) (fun j hj => ?_) (.inr (.inr ?_))
    · rw [hg j (by omega), if_pos (by omega)]; simp; omega
    · rw [hlast]; exact hlt
  unfold unchain
  rw [hlead, hlast, if_neg (by omega), if_neg (by simp; omega), if_neg]
  · have e : (chain v).length - 1 + 1 = (chain v).length := by omega
    rw [e, List.take_left, val_chain]
  · intro hh
    rcases hh with ⟨h1, h2⟩ | ⟨h1, h2⟩
    · rw [h1] at h2
      have : (128 : Nat) ^ 9 = 9223372036854775808 := by decide
      rw [this] at h2
      omega
    · have := chain_last_pos v (by omega)
      omega

/-- what was decoded is the varint of its number -/
theorem chain_val : ∀ (l : List UInt8) (b : UInt8), (∀ j, j < l.length → 128 ≤ (l.getD j 0).toNat) → b.toNat < 128 → (l ≠ [] → 0 < b.toNat) → chain (val (l ++ [b])) = l ++ [b]
  | [], b, _, h2, _ => by
    simp only [List.nil_append, val]
    have e : b.toNat % 128 + 128 * 0 = b.toNat := by omega
    rw [e, chain_lt h2]
    simp
  | c :: r, b, h1, h2, h3 => by
    have h0 : 128 ≤ c.toNat := by simpa using h1 0 (by simp)
    have hc := c.toNat_lt
    have hb := h3 (by simp)
    have ih := chain_val r b (fun j hj => by simpa using h1 (j + 1) (by simpa using hj)) h2 (fun _ => hb)
    have hpos : 0 < val (r ++ [b]) := by
      rw [val_snoc]
      have : 0 < b.toNat % 128 * 128 ^ r.length := Nat.mul_pos (by omega) (Nat.pow_pos (by omega))
      omega
    simp only [List.cons_append, val]
    rw [chain_ge (by omega)]
    have e1 : (c.toNat % 128 + 128 * val (r ++ [b])) % 128 + 128 = c.toNat := by omega
    have e2 : (c.toNat % 128 + 128 * val (r ++ [b])) / 128 = val (r ++ [b]) := by omega
    rw [e1, e2, ih]
    simp

theorem unchain_back (l : List UInt8) (h : (unchain l).2.2 = 0) : chain (unchain l).1 = l.take (unchain l).2.1 := by
  have ⟨a1, a2, a3, a4⟩ := leadG_spec 10 l
  change lead l ≤ 10 at a1
  change lead l ≤ l.length at a2
  unfold unchain at h ⊢
  split at h
  · cases h
  · split at h
    · cases h
    · split at h
      · cases h
      · rename_i h1 h2 h3
        rw [if_neg h1, if_neg h2, if_neg h3]
        have hl : lead l < l.length := by omega
        have hb : (l.getD (lead l) 0).toNat < 128 := by
          rcases a4 with h | h | h
          · exact absurd h h1
          · exact absurd h h2
          · exact h
        have htl : (l.take (lead l)).length = lead l := by rw [List.length_take]; omega
        simp only
        rw [take_succ_getD l _ hl]
        refine chain_val _ _ (fun j hj => ?_) hb (fun hne => ?_)
        · rw [htl] at hj
          have := a3 j hj
          rw [List.getD_eq_getElem?_getD] at this ⊢
          rwa [List.getElem?_take_of_lt hj]
        · have : lead l ≠ 0 := fun e => hne (by rw [e]; simp)
          omega

def text (l : List UInt8) : List UInt8 := chain l.length ++ l
def untext (l : List UInt8) (most : Int) : List UInt8 × Int × Int :=
  if (unchain l).2.2 ≠ 0 then ([], 0, (unchain l).2.2)
  else if most < 0 ∨ most < ((unchain l).1 : Int) then ([], 0, 4)
  else if l.length - (unchain l).2.1 < (unchain l).1 then ([], 0, 2)
  else ((l.drop (unchain l).2.1).take (unchain l).1, ((unchain l).2.1 + (unchain l).1 : Nat), 0)

theorem untext_text (t s : List UInt8) (h : t.length < 18446744073709551616) : untext (text t ++ s) t.length = (t, ((text t).length : Int), 0) := by
  unfold untext text
  rw [List.append_assoc, unchain_chain _ h]
  simp only [List.length_append]
  rw [if_neg (by simp), if_neg (by omega), if_neg (by omega)]
  simp
theorem val_drop_le : ∀ (j : Nat) (l : List UInt8), val (l.drop j) ≤ val l
  | 0, l => by simp
  | j + 1, [] => by simp
  | j + 1, b :: r => by
    have := val_drop_le j r
    simp only [List.drop_succ_cons, val]
    omega

theorem drop_take_cons (l : List UInt8) (n j : Nat) (h : j < n) (hn : n ≤ l.length) : (l.take n).drop j = l.getD j 0 :: (l.take n).drop (j + 1) := by
  have hj : j < (l.take n).length := by rw [List.length_take]; omega
  rw [List.drop_eq_getElem_cons hj]
  congr 1
  rw [List.getElem_take, List.getD_eq_getElem?_getD, List.getElem?_eq_getElem (by omega), Option.getD_some]

theorem val_take_lt (l : List UInt8) (n : Nat) (hn : n < l.length) (h9 : n ≤ 9) (h : n = 9 → (l.getD n 0).toNat ≤ 1) : val (l.take (n + 1)) < 18446744073709551616 := by
  have hlen : (l.take (n + 1)).length = n + 1 := by rw [List.length_take]; omega
  have e9 : (128 : Nat) ^ 9 = 9223372036854775808 := by decide
  by_cases hn9 : n = 9
  · subst hn9
    rw [take_succ_getD l 9 hn, val_snoc]
    have hl9 : (l.take 9).length = 9 := by rw [List.length_take]; omega
    have := val_lt (l.take 9)
    rw [hl9] at this ⊢
    have e : (l.getD 9 0).toNat % 128 = (l.getD 9 0).toNat := by have := h rfl; omega
    have := h rfl
    rw [e]
    omega
  · have h := val_lt (l.take (n + 1))
    rw [hlen] at h
    have h' : 128 ^ (n + 1) ≤ 128 ^ 9 := Nat.pow_le_pow_right (by omega) (by omega)
    omega

theorem val_take_lt63 (l : List UInt8) (n : Nat) (hn : n ≤ l.length) (h9 : n ≤ 9) : val (l.take n) < 128 ^ n ∧ 128 ^ n ≤ 9223372036854775808 := by
  have hlen : (l.take n).length = n := by rw [List.length_take]; omega
  have h := val_lt (l.take n)
  rw [hlen] at h
  have h' : 128 ^ n ≤ 128 ^ 9 := Nat.pow_le_pow_right (by omega) (by omega)
  have e9 : (128 : Nat) ^ 9 = 9223372036854775808 := by decide
  omega

/-- how unchain ends, told by the place at which its loop ends -/
theorem unchain_at {k : Nat} {l : List UInt8} (h1 : k ≤ 10) (h2 : k ≤ l.length) (ha : ∀ j, j < k → 128 ≤ (l.getD j 0).toNat) (hs : k = 10 ∨ k = l.length ∨ (l.getD k 0).toNat < 128) :
    unchain l = if k = 10 then (0, 0, 3) else if k = l.length then (0, 0, 2)
      else if (k = 9 ∧ 1 < (l.getD k 0).toNat) ∨ (0 < k ∧ (l.getD k 0).toNat = 0) then (0, 0, 3)
      else (val (l.take (k + 1)), k + 1, 0) := by
  have e := lead_eq h1 h2 ha hs
  unfold unchain
  rw [e]

def aboveB (v m : Int) : Bool := decide (m < 0 ∨ m < v)

def mayEndB (i x : Int) : Bool := if i = 9 then decide (x = 1) else decide (i = 0 ∨ x ≠ 0)


theorem bl_append (a b : ByteArray) : bl (a ++ b) = bl a ++ bl b := by
  simp [bl]

theorem extract_bl (s : ByteArray) (a b : Nat) : s.extract a b = ⟨(((bl s).drop a).take (b - a)).toArray⟩ := by
  apply ByteArray.ext
  rw [ByteArray.data_extract]
  apply Array.ext'
  simp [bl]

theorem text_length (l : List UInt8) (h : l.length < 18446744073709551616) : (text l).length ≤ 10 + l.length := by
  have := chain_length_10 l.length h
  simp [text]; omega

theorem untext_n (l : List UInt8) (m : Int) : 0 ≤ (untext l m).2.1 ∧ (untext l m).2.1 ≤ (l.length : Int) ∧ (untext l m).1.length ≤ l.length := by
  have h := unchain_n l
  unfold untext
  split
  · simp
  · split
    · simp
    · split
      · simp
      · simp; omega

theorem chain300 : chain 300 = [172, 2] := by
  rw [chain_ge (by omega), chain_lt (by omega)]; decide

theorem untext_live : untext [2, 97, 98, 99] 9 = ([97, 98], 3, 0) := by decide

theorem fixedR_e (v : Nat) (n : Int) : 0 ≤ (fixedR v n).2 ∧ (fixedR v n).2 ≤ 9 := by
  unfold fixedR; split
  · simp
  · split <;> simp
theorem numberR_e (l : List UInt8) : 0 ≤ (numberR l).2 ∧ (numberR l).2 ≤ 9 := by
  unfold numberR; split <;> simp
theorem unchain_e (l : List UInt8) : 0 ≤ (unchain l).2.2 ∧ (unchain l).2.2 ≤ 9 := by
  unfold unchain; split
  · simp
  · split
    · simp
    · split <;> simp
theorem untext_e (l : List UInt8) (m : Int) : 0 ≤ (untext l m).2.2 ∧ (untext l m).2.2 ≤ 9 := by
  have := unchain_e l
  unfold untext; split
  · exact this
  · split
    · simp
    · split <;> simp

/-! ### readers -/
def rdS {α : Type} (d : α) (s : ByteArray) (e : Int) (r : α × Nat × Int) : α × ByteArray × Int :=
  if e ≠ 0 then (d, s, e) else if r.2.2 ≠ 0 then (d, s, r.2.2) else (r.1, s.extract r.2.1 s.size, 0)
theorem rdS_bad {α : Type} (d : α) (s : ByteArray) (e : Int) (r : α × Nat × Int) (h : e ≠ 0) : rdS d s e r = (d, s, e) := by unfold rdS; rw [if_pos h]
theorem rdS_err {α : Type} (d : α) (s : ByteArray) (r : α × Nat × Int) (h : r.2.2 ≠ 0) : rdS d s 0 r = (d, s, r.2.2) := by unfold rdS; rw [if_neg (by omega), if_pos h]
theorem rdS_ok {α : Type} (d : α) (s : ByteArray) (r : α × Nat × Int) (h : r.2.2 = 0) : rdS d s 0 r = (r.1, s.extract r.2.1 s.size, 0) := by unfold rdS; rw [if_neg (by omega), if_neg (by omega)]

def intD (m : Int) (l : List UInt8) : Nat × Nat × Int :=
  if (unchain l).2.2 ≠ 0 then (0, 0, (unchain l).2.2) else if aboveB (unchain l).1 m = true then (0, 0, 4) else unchain l
def flagD (l : List UInt8) : Bool × Nat × Int :=
  if (unchain l).2.2 ≠ 0 then (false, 0, (unchain l).2.2) else if 1 < (unchain l).1 then (false, 0, 3) else ((unchain l).1 == 1, (unchain l).2.1, 0)
def strD (m : Int) (l : List UInt8) : List UInt8 × Nat × Int := ((untext l m).1, (untext l m).2.1.toNat, (untext l m).2.2)

theorem untext_bad (l : List UInt8) (m : Int) (h : (untext l m).2.2 ≠ 0) : (untext l m).1 = [] := by
  unfold untext at h ⊢
  split
  · rfl
  · rename_i h1; rw [if_neg h1] at h
    split
    · rfl
    · rename_i h2; rw [if_neg h2] at h
      split
      · rfl
      · rename_i h3; rw [if_neg h3] at h; exact absurd rfl h
theorem unchain_bad (l : List UInt8) (h : (unchain l).2.2 ≠ 0) : (unchain l).1 = 0 ∧ (unchain l).2.1 = 0 := by
  unfold unchain at h ⊢
  split
  · exact ⟨rfl, rfl⟩
  · rename_i h1; rw [if_neg h1] at h
    split
    · exact ⟨rfl, rfl⟩
    · rename_i h2; rw [if_neg h2] at h
      split
      · exact ⟨rfl, rfl⟩
      · rename_i h3; rw [if_neg h3] at h; exact absurd rfl h

attribute [irreducible] rdS intD flagD strD aboveB mayEndB fixedR numberR unchain untext fixedL number val lead
end Bil
