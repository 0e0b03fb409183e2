/-
  The place of a percentage in a histogram, over no program.
-/
import Derived.Test.YtmdpfinadffcaaaHistMath
namespace Qu
open Go
set_option linter.unusedVariables false

/-- there is an answer -/
structure Good (l : List Int) (p : Int) : Prop where
  ok : Hi.ok l = true
  ne : Hi.tot l ≠ 0
  lo : 1 ≤ p
  hi : p ≤ 100

/-- b is the least bucket up to which there are enough -/
structure IsPlace (l : List Int) (p : Int) (b : Nat) : Prop where
  lt : b < 16
  enough : Hi.tot l * p ≤ 100 * Hi.tot (l.take (b + 1))
  least : ∀ j, j < b → 100 * Hi.tot (l.take (j + 1)) < Hi.tot l * p

theorem take_nonneg {l : List Int} (h : Hi.nonneg l) (k : Nat) : 0 ≤ Hi.tot (l.take k) ∧ Hi.tot (l.take k) ≤ Hi.tot l := by
  have e : Hi.tot l = Hi.tot (l.take k) + Hi.tot (l.drop k) := by rw [← Hi.tot_append, List.take_append_drop]
  have h1 := Hi.tot_nonneg (l := l.take k) (fun x hx => h x (List.mem_of_mem_take hx))
  have h2 := Hi.tot_nonneg (l := l.drop k) (fun x hx => h x (List.mem_of_mem_drop hx))
  omega
theorem ok_nonneg {l : List Int} (h : Hi.ok l = true) : Hi.nonneg l := (Hi.ok_iff.1 h).1.nonneg
theorem ok_tot {l : List Int} (h : Hi.ok l = true) : 0 ≤ Hi.tot l ∧ Hi.tot l ≤ 64 := ⟨Hi.tot_nonneg (ok_nonneg h), (Hi.ok_iff.1 h).2⟩
theorem ok_take {l : List Int} (h : Hi.ok l = true) (k : Nat) : 0 ≤ Hi.tot (l.take k) ∧ Hi.tot (l.take k) ≤ 64 := by
  have h1 := take_nonneg (ok_nonneg h) k
  have h2 := ok_tot h
  omega
/-- what all counts times the percentage can be -/
theorem Good.prod {l : List Int} {p : Int} (h : Good l p) : 1 ≤ Hi.tot l ∧ Hi.tot l ≤ 64 ∧ 1 ≤ Hi.tot l * p ∧ Hi.tot l * p ≤ 100 * Hi.tot l := by
  obtain ⟨h1, h2⟩ := ok_tot h.ok
  have h3 := h.ne
  have h4 : 1 ≤ Hi.tot l := by omega
  have h5 := Int.mul_le_mul h4 h.lo (by omega) (by omega)
  have h6 := Int.mul_le_mul_of_nonneg_left h.hi h1
  omega

theorem place_upto {l : List Int} (p : Int) (k : Nat) : k ≤ 16 → (∃ b, IsPlace l p b) ∨ ∀ j, j < k → 100 * Hi.tot (l.take (j + 1)) < Hi.tot l * p := by
  induction k with
  | zero => exact fun _ => Or.inr fun j hj => absurd hj (by omega)
  | succ k ih =>
    intro hk
    rcases ih (by omega) with h | h
    · exact Or.inl h
    · by_cases e : Hi.tot l * p ≤ 100 * Hi.tot (l.take (k + 1))
      · exact Or.inl ⟨k, by omega, e, h⟩
      · refine Or.inr fun j hj => ?_
        rcases (show j < k ∨ j = k by omega) with hj | rfl
        · exact h j hj
        · omega
theorem Good.place {l : List Int} {p : Int} (h : Good l p) (hl : l.length = 16) : ∃ b, IsPlace l p b := by
  rcases place_upto p 16 (Nat.le_refl _) with h1 | h1
  · exact h1
  · have h2 := h1 15 (by omega)
    rw [List.take_of_length_le (by omega)] at h2
    have := h.prod
    omega
theorem IsPlace.mono {l : List Int} {p q : Int} {a b : Nat} (ho : Hi.ok l = true) (ha : IsPlace l p a) (hb : IsPlace l q b) (h : p ≤ q) : a ≤ b := by
  rcases Nat.lt_or_ge b a with h' | h'
  · have h1 := ha.least b h'
    have h2 := hb.enough
    have h3 := Int.mul_le_mul_of_nonneg_left h (ok_tot ho).1
    omega
  · exact h'

theorem high_mono_dec : ∀ b : Nat, b < 16 → ∀ j : Nat, j < 16 → (decide (Hi.high (j : Nat) ≤ Hi.high (b : Nat)) = decide (j ≤ b)) := by decide
/-- a bucket's greatest number tells the bucket -/
theorem high_le {b j : Nat} (hb : b < 16) (hj : j < 16) : Hi.high (j : Nat) ≤ Hi.high (b : Nat) ↔ j ≤ b := by
  have := high_mono_dec b hb j hj
  simpa using this

theorem one_dec : ∀ k : Nat, k < 16 → Hi.tot (Hi.inc Hi.zeros k) = 1 ∧ Hi.ok (Hi.inc Hi.zeros k) = true ∧ Hi.tot ((Hi.inc Hi.zeros k).take (k + 1)) = 1 ∧ ∀ j : Nat, j < k → Hi.tot ((Hi.inc Hi.zeros k).take (j + 1)) = 0 := by decide
/-- one number more, in a histogram that had none -/
theorem add_zeros (k : Nat) : Hi.add Hi.zeros k = Hi.inc Hi.zeros k := by
  unfold Hi.add Hi.base
  rw [if_pos Hi.zeros_ok, if_neg (by decide)]
theorem one_good {k : Nat} (hk : k < 16) {p : Int} (h0 : 1 ≤ p) (h1 : p ≤ 100) : Good (Hi.inc Hi.zeros k) p := by
  obtain ⟨e1, e2, _, _⟩ := one_dec k hk
  exact ⟨e2, by omega, h0, h1⟩
theorem one_place {k : Nat} (hk : k < 16) {p : Int} (h0 : 1 ≤ p) (h1 : p ≤ 100) : IsPlace (Hi.inc Hi.zeros k) p k := by
  obtain ⟨e1, _, e3, e4⟩ := one_dec k hk
  refine ⟨hk, ?_, fun j hj => ?_⟩
  · rw [e1, e3]; omega
  · rw [e1, e4 j hj]; omega
end Qu
