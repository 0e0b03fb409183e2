/-
  Which configurations are valid, as plain functions: tenants and limits by their index, rows of numbers.
-/
import Derived.Test.YtafighelgdlocaaBase
namespace Cf
set_option linter.unusedVariables false

/-- is n from a to b? -/
def inR (n a b : Int) : Bool := decide (a ≤ n) && decide (n ≤ b)
theorem inR_is (n a b : Int) : inR n a b = decide (a ≤ n ∧ n ≤ b) := by unfold inR; rw [Bool.decide_and]
theorem inR_lo {n a b : Int} (h : decide (n < a) = true) : inR n a b = false := by
  have := of_decide_eq_true h
  rw [inR_is]; exact decide_eq_false (by omega)
theorem inR_hi {n a b : Int} (h : decide (n > b) = true) : inR n a b = false := by
  have := of_decide_eq_true h
  rw [inR_is]; exact decide_eq_false (by omega)
theorem inR_yes {n a b : Int} (h1 : decide (n < a) = false) (h2 : decide (n > b) = false) : inR n a b = true := by
  have h1 := of_decide_eq_false h1
  have h2 := of_decide_eq_false h2
  rw [inR_is]; exact decide_eq_true (by omega)

/-- a row: a value, the least, the greatest -/
abbrev Row := Int × Int × Int
def rowOk (r : Row) : Bool := inR r.1 r.2.1 r.2.2
/-- the cells of rows -/
def cellsOf : List Row → List Go.Value
  | [] => []
  | r :: l => .int .i64 r.1 :: .int .i64 r.2.1 :: .int .i64 r.2.2 :: cellsOf l
theorem cellsOf_at : ∀ (l : List Row) (k : Nat) (h : k < l.length),
    (cellsOf l)[k * 3]? = some (.int .i64 l[k].1) ∧ (cellsOf l)[k * 3 + 1]? = some (.int .i64 l[k].2.1) ∧ (cellsOf l)[k * 3 + 2]? = some (.int .i64 l[k].2.2)
  | r :: l, 0, _ => by simp [cellsOf]
  | r :: l, k + 1, h => by
    have := cellsOf_at l k (by simpa using h)
    rw [show (k + 1) * 3 = k * 3 + 1 + 1 + 1 by omega]
    simpa [cellsOf] using this

/-- what is before number i -/
def prev (l : Nat → Int) : Nat → Int
  | 0 => 0
  | i + 1 => l i
/-- do k numbers from number i on rise? -/
def rise (l : Nat → Int) : Nat → Nat → Bool
  | 0, _ => true
  | k + 1, i => decide (prev l i < l i) && decide (l i ≤ 1048576) && rise l k (i + 1)

theorem rise_step {l : Nat → Int} {k i : Nat} (h1 : decide (l i ≤ prev l i) = false) (h2 : decide (l i > 1048576) = false) : rise l (k + 1) i = rise l k (i + 1) := by
  have h1 := of_decide_eq_false h1
  have h2 := of_decide_eq_false h2
  simp only [rise]
  rw [decide_eq_true (by omega), decide_eq_true (by omega), Bool.true_and, Bool.true_and]
theorem rise_lo {l : Nat → Int} {k i : Nat} (h1 : decide (l i ≤ prev l i) = true) : rise l (k + 1) i = false := by
  have h1 := of_decide_eq_true h1
  simp only [rise]
  rw [decide_eq_false (by omega), Bool.false_and, Bool.false_and]
theorem rise_hi {l : Nat → Int} {k i : Nat} (h1 : decide (l i > 1048576) = true) : rise l (k + 1) i = false := by
  have h1 := of_decide_eq_true h1
  simp only [rise]
  rw [show decide (l i ≤ 1048576) = false from decide_eq_false (by omega), Bool.and_false, Bool.false_and]
theorem rise_in {l : Nat → Int} {k i : Nat} (h0 : 0 ≤ prev l i) (h1 : inR (l i) 1 1048576 = false) : rise l (k + 1) i = false := by
  rw [inR_is] at h1
  have h1 := of_decide_eq_false h1
  by_cases h : l i ≤ prev l i
  · exact rise_lo (decide_eq_true h)
  · exact rise_hi (decide_eq_true (by omega))
theorem rise_ok {l : Nat → Int} {k i : Nat} (h1 : inR (l i) 1 1048576 = true) (h2 : decide (l i ≤ prev l i) = false) : rise l (k + 1) i = rise l k (i + 1) ∧ 0 ≤ prev l (i + 1) := by
  rw [inR_is] at h1
  have h1 := of_decide_eq_true h1
  exact ⟨rise_step h2 (decide_eq_false (by omega)), show 0 ≤ l i by omega⟩
theorem prev_succ (l : Nat → Int) (i : Nat) (h : 0 < i) : prev l i = l (i - 1) := by
  obtain ⟨j, rfl⟩ : ∃ j, i = j + 1 := ⟨i - 1, by omega⟩
  rfl

/-- a tenant: name, weight, quota -/
abbrev T := ByteArray × Int × Int
/-- has one of the first i the name n? -/
def seen (t : Nat → T) (n : ByteArray) : Nat → Bool
  | 0 => false
  | i + 1 => seen t n i || decide ((t i).1 = n)
theorem seen_iff (t : Nat → T) (n : ByteArray) (i : Nat) : seen t n i = true ↔ ∃ k, k < i ∧ (t k).1 = n := by
  induction i with
  | zero => simp [seen]
  | succ i ih =>
    simp only [seen, Bool.or_eq_true, ih, decide_eq_true_eq]
    constructor
    · rintro (⟨k, h, e⟩ | e)
      · exact ⟨k, by omega, e⟩
      · exact ⟨i, by omega, e⟩
    · rintro ⟨k, h, e⟩
      by_cases hk : k = i
      · exact Or.inr (hk ▸ e)
      · exact Or.inl ⟨k, by omega, e⟩
theorem seen_none {t : Nat → T} {n : ByteArray} {i : Nat} (h : ∀ k, k < i → (t k).1 ≠ n) : seen t n i = false := by
  cases hs : seen t n i with
  | false => rfl
  | true => obtain ⟨k, hk, e⟩ := (seen_iff _ _ _).1 hs; exact absurd e (h k hk)
theorem seen_some {t : Nat → T} {n : ByteArray} {i k : Nat} (h : k < i) (e : (t k).1 = n) : seen t n i = true := (seen_iff _ _ _).2 ⟨k, h, e⟩
/-- the first error of k tenants from number i on -/
def tenGo (nm : ByteArray → Bool) (t : Nat → T) : Nat → Nat → Int
  | 0, _ => 0
  | k + 1, i => if nm (t i).1 = false then 5 else if (inR (t i).2.1 1 16 && inR (t i).2.2 1 256) = false then 1 else if seen t (t i).1 i = true then 8 else tenGo nm t k (i + 1)
def tenErr (nm : ByteArray → Bool) (t : Nat → T) (n : Nat) : Int := if n < 1 ∨ 6 < n then 9 else tenGo nm t n 0

/-- a configuration: its slices and its numbers -/
structure C where
  ta : Option Go.Addr
  tl : Nat
  tc : Nat
  la : Option Go.Addr
  ll : Nat
  lc : Nat
  f2 : Int
  f3 : Int
  f4 : Int
  f5 : Int
  f6 : Int
  f7 : Int
  f8 : Int
  f9 : Int
  f10 : Int
  f11 : Int
  f12 : Int
  f13 : Int
  f14 : Int
  f15 : Int
  f16 : Int
  f17 : Int
  f18 : Int
def C.rows (c : C) : List Row :=
  [(c.f2, 1, 64), (c.f3, 1, 64), (c.f4, 1, 32), (c.f5, 1, 8), (c.f6, 1, 16), (c.f7, 1, 8), (c.f8, 0, 5), (c.f9, 0, 5), (c.f10, 1, 1048576), (c.f11, c.f10, 1048576), (c.f12, 1, 1048576), (c.f13, 1, 32), (c.f14, 1, 64), (c.f15, 1, 32), (c.f16, 1, 100), (c.f17, 1, 16), (c.f18, 0, 16)]
def check (nm : ByteArray → Bool) (c : C) (t : Nat → T) (l : Nat → Int) : Int :=
  if tenErr nm t c.tl ≠ 0 then tenErr nm t c.tl else if 3 < c.ll then 9 else if (rise l c.ll 0 && c.rows.all rowOk) = false then 1 else 0
end Cf
