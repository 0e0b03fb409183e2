/-
  Plain lemmas for tick: doubling below a limit.
-/
import Init
set_option linter.unusedVariables false
namespace Tk
/-- b doubled k times, but at most m -/
def dub (b m : Int) : Nat → Int
  | 0 => if b < m then b else m
  | k + 1 => if dub b m k > m / 2 then m else dub b m k * 2
theorem dub_in {b m : Int} (hb : 1 ≤ b) (hm : 1 ≤ m) (k : Nat) : 1 ≤ dub b m k ∧ dub b m k ≤ m := by
  induction k with
  | zero => unfold dub; split <;> omega
  | succ k ih => unfold dub; split <;> omega
theorem dub_hi {b m : Int} {k : Nat} (h : dub b m k > m / 2) : dub b m (k + 1) = m := by rw [dub, if_pos h]
theorem dub_lo {b m : Int} {k : Nat} (h : ¬ dub b m k > m / 2) : dub b m (k + 1) = dub b m k * 2 := by rw [dub, if_neg h]
theorem dub_top {b m : Int} (hb : 1 ≤ b) (hm : 1 ≤ m) {k : Nat} (h : dub b m k = m) (j : Nat) : dub b m (k + j) = m := by
  induction j with
  | zero => exact h
  | succ j ih => rw [← Nat.add_assoc]; exact dub_hi (by rw [ih]; omega)
theorem dub_top' {b m : Int} (hb : 1 ≤ b) (hm : 1 ≤ m) {k n : Nat} (h : dub b m k = m) (hn : k ≤ n) : dub b m n = m := by
  obtain ⟨j, rfl⟩ := Nat.exists_eq_add_of_le hn
  exact dub_top hb hm h j
theorem dub_step {b m : Int} (hb : 1 ≤ b) (hm : 1 ≤ m) (k : Nat) : dub b m k ≤ dub b m (k + 1) ∧ dub b m (k + 1) ≤ dub b m k * 2 := by
  have h := dub_in hb hm k
  by_cases e : dub b m k > m / 2
  · rw [dub_hi e]; omega
  · rw [dub_lo e]; omega
theorem dub_big {b m : Int} (hb : 1 ≤ b) (hm : 1 ≤ m) (k : Nat) : dub b m k = m ∨ (2 : Int) ^ k ≤ dub b m k := by
  induction k with
  | zero => right; have := (dub_in hb hm 0).1; simpa using this
  | succ k ih =>
    by_cases e : dub b m k > m / 2
    · exact Or.inl (dub_hi e)
    · right
      rw [dub_lo e, Int.pow_succ]
      rcases ih with ih | ih
      · omega
      · omega
theorem dub_63 {b m : Int} (hb : 1 ≤ b) (hm : 1 ≤ m) (h : m ≤ 9223372036854775807) : dub b m 63 = m := by
  have h1 := dub_in hb hm 63
  rcases dub_big hb hm 63 with e | e
  · exact e
  · have h2 : (2 : Int) ^ 63 = 9223372036854775808 := by decide
    omega
/-- the delay before the n-th retry -/
def wait (b m n : Int) : Int := if n < 1 ∨ b < 1 ∨ m < 1 then 0 else dub b m (n - 1).toNat
theorem wait_no {b m n : Int} (h : n < 1 ∨ b < 1 ∨ m < 1) : wait b m n = 0 := by unfold wait; rw [if_pos h]
theorem wait_at {b m : Int} (hb : 1 ≤ b) (hm : 1 ≤ m) (k : Nat) : wait b m (k + 1 : Nat) = dub b m k := by
  unfold wait; rw [if_neg (by omega)]; congr 1; omega
/-- r is the least number of a retry whose delay is m -/
def IsRounds (b m : Int) (r : Nat) : Prop := 1 ≤ r ∧ r ≤ 64 ∧ dub b m (r - 1) = m ∧ ∀ j, j + 1 < r → dub b m j < m
theorem rounds_is {b m : Int} (hb : 1 ≤ b) (hm : 1 ≤ m) (h : m ≤ 9223372036854775807) : ∃ r, IsRounds b m r := by
  have key : ∀ n, dub b m n = m → ∃ r, 1 ≤ r ∧ r ≤ n + 1 ∧ dub b m (r - 1) = m ∧ ∀ j, j + 1 < r → dub b m j < m := by
    intro n
    induction n with
    | zero => intro e; exact ⟨1, by omega, by omega, e, fun j hj => by omega⟩
    | succ n ih =>
      intro e
      by_cases e2 : dub b m n = m
      · obtain ⟨r, h1, h2, h3, h4⟩ := ih e2; exact ⟨r, h1, by omega, h3, h4⟩
      · refine ⟨n + 2, by omega, by omega, e, fun j hj => ?_⟩
        have h1 := dub_in hb hm j
        by_cases e3 : dub b m j = m
        · exact absurd (dub_top' hb hm e3 (by omega)) e2
        · omega
  obtain ⟨r, h1, h2, h3, h4⟩ := key 63 (dub_63 hb hm h)
  exact ⟨r, h1, by omega, h3, h4⟩
theorem rounds_one {b m : Int} (hb : 1 ≤ b) (hm : 1 ≤ m) {r s : Nat} (hr : IsRounds b m r) (hs : 1 ≤ s) (h : dub b m (s - 1) = m) (h2 : ∀ j, j + 1 < s → dub b m j < m) : s = r := by
  obtain ⟨a1, a2, a3, a4⟩ := hr
  rcases Nat.lt_trichotomy s r with c | c | c
  · have := a4 (s - 1) (by omega); omega
  · exact c
  · have := h2 (r - 1) (by omega); omega
end Tk
