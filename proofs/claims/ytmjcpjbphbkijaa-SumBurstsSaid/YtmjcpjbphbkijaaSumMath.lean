/-
  The checksum as a function on bit vectors: one bit, eight bits, a row of bytes; it is linear and loses nothing, so that a change within 32 bits in a row changes it.
-/
import Derived.Handy
namespace Go.Proofs.Ytmjcpjbphbkijaa
namespace Sm

/-- one bit -/
def step (x : BitVec 32) : BitVec 32 := if x.msb then (x <<< 1) ^^^ 79764919#32 else x <<< 1
def steps : Nat → BitVec 32 → BitVec 32
  | 0, x => x
  | n + 1, x => steps n (step x)
/-- a byte in the highest place -/
def high (b : UInt8) : BitVec 32 := BitVec.ofNat 32 (b.toNat * 16777216)
def crc : BitVec 32 → List UInt8 → BitVec 32
  | r, [] => r
  | r, b :: l => crc (steps 8 (r ^^^ high b)) l

theorem crc_append (r : BitVec 32) (l m : List UInt8) : crc r (l ++ m) = crc (crc r l) m := by
  induction l generalizing r with
  | nil => rfl
  | cons b l ih => exact ih _

theorem steps_add (m n : Nat) (x : BitVec 32) : steps (m + n) x = steps n (steps m x) := by
  induction m generalizing x with
  | zero => rw [Nat.zero_add]; rfl
  | succ m ih => rw [show m + 1 + n = (m + n) + 1 from by omega]; exact ih _

theorem step_xor (x y : BitVec 32) : step (x ^^^ y) = step x ^^^ step y := by
  unfold step
  rw [BitVec.msb_xor, BitVec.shiftLeft_xor_distrib]
  cases x.msb <;> cases y.msb <;> simp <;> (apply BitVec.eq_of_getLsbD_eq; intro i hi; simp only [BitVec.getLsbD_xor]; cases (x <<< 1).getLsbD i <;> cases (y <<< 1).getLsbD i <;> cases (79764919#32).getLsbD i <;> rfl)

theorem steps_xor (n : Nat) (x y : BitVec 32) : steps n (x ^^^ y) = steps n x ^^^ steps n y := by
  induction n generalizing x y with
  | zero => rfl
  | succ n ih => show steps n (step (x ^^^ y)) = steps n (step x) ^^^ steps n (step y); rw [step_xor, ih]

theorem step_zero {x : BitVec 32} (h : step x = 0#32) : x = 0#32 := by
  have hm : x.msb = false := by
    cases hb : x.msb
    · rfl
    · exfalso
      have h0 := congrArg (fun z => BitVec.getLsbD z 0) h
      simp [step, hb] at h0
  have h2 : x <<< 1 = 0#32 := by rw [step, hm] at h; simpa using h
  have hl : x.toNat < 2147483648 := by
    have := BitVec.msb_eq_decide x
    rw [hm] at this
    have h3 := of_decide_eq_false this.symm
    simpa using h3
  have h4 := congrArg BitVec.toNat h2
  rw [BitVec.toNat_shiftLeft, Nat.shiftLeft_eq] at h4
  apply BitVec.eq_of_toNat_eq
  simp at h4 ⊢
  omega

theorem steps_zero {n : Nat} {x : BitVec 32} (h : steps n x = 0#32) : x = 0#32 := by
  induction n generalizing x with
  | zero => exact h
  | succ n ih => exact step_zero (ih h)

/-- the highest bit -/
def top : BitVec 32 := 2147483648#32

theorem step_shl {x : BitVec 32} (h : x.msb = false) : step x = x <<< 1 := by rw [step, h]; rfl

/-- bit 31 - i moves up to the highest place in i steps -/
theorem steps_top (i : Nat) (hi : i ≤ 31) : steps i (BitVec.ofNat 32 (2 ^ (31 - i))) = top := by
  have hh : ∀ i : Fin 32, steps i.val (BitVec.ofNat 32 (2 ^ (31 - i.val))) = top := by decide +kernel
  exact hh ⟨i, by omega⟩

/-- bit k of l (from the highest of the first byte on) turned over -/
def flip : Nat → List UInt8 → List UInt8
  | _, [] => []
  | k, b :: l => if k < 8 then (b ^^^ UInt8.ofNat (2 ^ (7 - k))) :: l else b :: flip (k - 8) l

theorem flip_length (k : Nat) (l : List UInt8) : (flip k l).length = l.length := by
  induction l generalizing k with
  | nil => rfl
  | cons b l ih => unfold flip; split <;> simp [ih]

theorem flip_get (k : Nat) (l : List UInt8) (j : Nat) (hj : j < l.length) :
    (flip k l)[j]? = some (if j = k / 8 then l[j] ^^^ UInt8.ofNat (2 ^ (7 - k % 8)) else l[j]) := by
  induction l generalizing k j with
  | nil => simp at hj
  | cons b l ih =>
    unfold flip
    by_cases hk : k < 8
    · rw [if_pos hk, show k / 8 = 0 from by omega, show k % 8 = k from by omega]
      cases j with
      | zero => simp
      | succ j => simp
    · rw [if_neg hk]
      cases j with
      | zero => rw [if_neg (by omega)]; rfl
      | succ j =>
        have := ih (k - 8) j (by simpa using hj)
        rw [List.getElem?_cons_succ, this, show (k - 8) % 8 = k % 8 from by omega]
        simp only [List.getElem_cons_succ]
        have e : (j = (k - 8) / 8) ↔ (j + 1 = k / 8) := by omega
        simp only [e]

theorem high_xor (b c : UInt8) : high (b ^^^ c) = high b ^^^ high c := by
  apply BitVec.eq_of_toNat_eq
  unfold high
  rw [BitVec.toNat_xor, BitVec.toNat_ofNat, BitVec.toNat_ofNat, BitVec.toNat_ofNat, UInt8.toNat_xor]
  have hb := UInt8.toNat_lt b
  have hc := UInt8.toNat_lt c
  have hx : b.toNat ^^^ c.toNat < 2 ^ 8 := Nat.xor_lt_two_pow hb hc
  rw [Nat.mod_eq_of_lt (by omega), Nat.mod_eq_of_lt (by omega), Nat.mod_eq_of_lt (by omega)]
  have e := fun n : Nat => (Nat.shiftLeft_eq n 24).symm
  rw [show (16777216 : Nat) = 2 ^ 24 from rfl, e, e, e, Nat.shiftLeft_xor_distrib]

theorem high_pow (k : Nat) (hk : k < 8) : steps 8 (high (UInt8.ofNat (2 ^ (7 - k)))) = steps (8 - k) top := by
  have hh : ∀ k : Fin 8, steps 8 (high (UInt8.ofNat (2 ^ (7 - k.val)))) = steps (8 - k.val) top := by decide +kernel
  exact hh ⟨k, hk⟩

theorem crc_xor (r d : BitVec 32) (l : List UInt8) : crc (r ^^^ d) l = crc r l ^^^ steps (8 * l.length) d := by
  induction l generalizing r d with
  | nil => rfl
  | cons b l ih =>
    unfold crc
    rw [show r ^^^ d ^^^ high b = (r ^^^ high b) ^^^ d from by rw [BitVec.xor_assoc, BitVec.xor_comm d, BitVec.xor_assoc], steps_xor, ih, ← steps_add]
    rw [show 8 * (b :: l).length = 8 + 8 * l.length from by simp; omega]

theorem crc_flip (r : BitVec 32) (k : Nat) (l : List UInt8) (hk : k < 8 * l.length) : crc r (flip k l) = crc r l ^^^ steps (8 * l.length - k) top := by
  induction l generalizing r k with
  | nil => simp at hk
  | cons b l ih =>
    have hk' : k < 8 * l.length + 8 := by simpa [Nat.mul_add] using hk
    have hl : 8 * (b :: l).length = 8 * l.length + 8 := by simp [Nat.mul_add]
    unfold flip
    by_cases h8 : k < 8
    · rw [if_pos h8]
      unfold crc
      rw [high_xor, ← BitVec.xor_assoc, steps_xor, high_pow k h8, crc_xor, ← steps_add, hl]
      congr 2
      omega
    · rw [if_neg h8]
      unfold crc
      rw [ih _ (k - 8) (by omega), hl]
      congr 2
      omega

/-- the first n of the 32 bits from bit 'at' on turned over where t says so -/
def burst (k t : Nat) (l : List UInt8) : Nat → List UInt8
  | 0 => l
  | n + 1 => if t / 2 ^ n % 2 = 1 then flip (k + n) (burst k t l n) else burst k t l n
/-- the same bits, as they stand in the register -/
def rev (t : Nat) : Nat → BitVec 32
  | 0 => 0#32
  | n + 1 => if t / 2 ^ n % 2 = 1 then rev t n ^^^ BitVec.ofNat 32 (2 ^ (31 - n)) else rev t n

theorem burst_length (k t : Nat) (l : List UInt8) (n : Nat) : (burst k t l n).length = l.length := by
  induction n with
  | zero => rfl
  | succ n ih => unfold burst; split; rw [flip_length, ih]; exact ih

theorem crc_burst (r : BitVec 32) (k t : Nat) (l : List UInt8) (n : Nat) (hk : k + 32 ≤ 8 * l.length) (hn : n ≤ 32) :
    crc r (burst k t l n) = crc r l ^^^ steps (8 * l.length - k) (rev t n) := by
  induction n with
  | zero =>
    have h0 : ∀ m, steps m 0#32 = 0#32 := fun m => by
      induction m with
      | zero => rfl
      | succ m ih => exact ih
    show crc r l = _
    rw [rev, h0]; simp
  | succ n ih =>
    have ih := ih (by omega)
    unfold burst rev
    split
    · rw [crc_flip r (k + n) _ (by rw [burst_length]; omega), ih, burst_length, steps_xor, ← BitVec.xor_assoc]
      congr 1
      rw [show 8 * l.length - k = n + (8 * l.length - (k + n)) from by omega, steps_add, steps_top n (by omega)]
    · exact ih

theorem rev_bit (t n : Nat) (hn : n ≤ 32) (j : Nat) (hj : j < 32) : (rev t n).getLsbD (31 - j) = (decide (j < n) && decide (t / 2 ^ j % 2 = 1)) := by
  induction n with
  | zero => unfold rev; simp
  | succ n ih =>
    have ih := ih (by omega)
    unfold rev
    have hp : (BitVec.ofNat 32 (2 ^ (31 - n))).getLsbD (31 - j) = decide (j = n) := by
      rw [BitVec.getLsbD_ofNat, Nat.testBit_two_pow]
      have : (31 - n = 31 - j) ↔ j = n := by omega
      simp only [this, show 31 - j < 32 from by omega, decide_true, Bool.true_and]
    split
    · rename_i h
      rw [BitVec.getLsbD_xor, ih, hp]
      by_cases e : j = n
      · subst e; simp [h]
      · have h1 : (j < n + 1) ↔ (j < n) := by omega
        simp [e, h1]
    · rename_i h
      rw [ih]
      by_cases e : j = n
      · subst e; simp [h]
      · have h1 : (j < n + 1) ↔ (j < n) := by omega
        simp [h1]

theorem rev_ne (t : Nat) (h0 : t ≠ 0) (h1 : t < 4294967296) : rev t 32 ≠ 0#32 := by
  intro h
  apply h0
  apply Nat.eq_of_testBit_eq
  intro i
  rw [Nat.zero_testBit]
  by_cases hi : i < 32
  · have := rev_bit t 32 (Nat.le_refl _) i hi
    rw [h] at this
    simp [hi] at this
    rw [Nat.testBit_eq_decide_div_mod_eq]
    simp [this]
  · have h2 : 2 ^ 32 ≤ 2 ^ i := Nat.pow_le_pow_right (by omega) (by omega)
    have h3 : (2 : Nat) ^ 32 = 4294967296 := by decide
    rw [← h3] at h1
    exact Nat.testBit_lt_two_pow (Nat.lt_of_lt_of_le h1 h2)

theorem crc_ne (r : BitVec 32) (k t : Nat) (l : List UInt8) (hk : k + 32 ≤ 8 * l.length) (h0 : t ≠ 0) (h1 : t < 4294967296) : crc r (burst k t l 32) ≠ crc r l := by
  intro h
  rw [crc_burst r k t l 32 hk (Nat.le_refl _)] at h
  refine rev_ne t h0 h1 (steps_zero (n := 8 * l.length - k) ?_)
  have := congrArg (fun z => crc r l ^^^ z) h
  simp only [← BitVec.xor_assoc, BitVec.xor_self, BitVec.zero_xor] at this
  exact this

/-! ### in numbers -/
theorem step_nat (x : BitVec 32) : (step x).toNat = if 2147483648 ≤ x.toNat then ((x.toNat - 2147483648) * 2) ^^^ 79764919 else x.toNat * 2 := by
  have hx := x.isLt
  have hm := BitVec.msb_eq_decide x
  have hs : (x <<< 1).toNat = x.toNat * 2 % 4294967296 := by rw [BitVec.toNat_shiftLeft, Nat.shiftLeft_eq]
  unfold step
  by_cases h : 2147483648 ≤ x.toNat
  · rw [if_pos h, hm, show decide (2 ^ (32 - 1) ≤ x.toNat) = true from by simpa using h, if_pos rfl, BitVec.toNat_xor, hs, show x.toNat * 2 % 4294967296 = (x.toNat - 2147483648) * 2 from by omega, show (79764919#32).toNat = 79764919 from by decide]
  · rw [if_neg h, hm, show decide (2 ^ (32 - 1) ≤ x.toNat) = false from by simpa using h]
    simp only [Bool.false_eq_true, if_false]
    rw [hs]
    omega

theorem xor_high_nat (x : BitVec 32) (b : UInt8) : (x ^^^ high b).toNat = x.toNat ^^^ (b.toNat * 16777216) := by
  have hb := UInt8.toNat_lt b
  rw [BitVec.toNat_xor]
  unfold high
  rw [BitVec.toNat_ofNat, Nat.mod_eq_of_lt (by omega)]

theorem steps_snoc (n : Nat) (x : BitVec 32) : steps (n + 1) x = step (steps n x) := by
  rw [steps_add n 1]; rfl

theorem crc_snoc (r : BitVec 32) (l : List UInt8) (b : UInt8) : crc r (l ++ [b]) = steps 8 (crc r l ^^^ high b) := by
  rw [crc_append]; rfl

theorem crc_live : crc 4294967295#32 [49, 50, 51, 52, 53, 54, 55, 56, 57] = 58124007#32 := by decide +kernel

end Sm
end Go.Proofs.Ytmjcpjbphbkijaa
