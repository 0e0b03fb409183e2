/-
  Scale, both.
-/
import Derived.Test.YtipljafpmpagjaaFracI
namespace Go.Proofs.Ytipljafpmpagjaa
open Go.RowKit
set_option linter.unusedVariables false

@[irreducible] def scaleN (a b c : Nat) : Nat := if c = 0 then 0 else min (a * b / c) 18446744073709551615
theorem scaleN_le (a b c : Nat) : scaleN a b c ≤ 18446744073709551615 := by unfold scaleN; split <;> omega
theorem scaleN_big {a b c : Nat} (hc : 0 < c) (h : c ≤ a * b / 18446744073709551616) : scaleN a b c = 18446744073709551615 := by
  unfold scaleN
  rw [if_neg (by omega), Nat.min_eq_right]
  rw [Nat.le_div_iff_mul_le hc]
  have h1 := Nat.div_mul_le_self (a * b) 18446744073709551616
  have h2 := Nat.mul_le_mul_right 18446744073709551616 h
  generalize a * b = p at *
  omega
theorem scaleN_fits {a b c : Nat} (hc : 0 < c) (h : a * b / 18446744073709551616 < c) : scaleN a b c = a * b / c := by
  unfold scaleN
  rw [if_neg (by omega), Nat.min_eq_left]
  have : a * b / c < 18446744073709551616 := by
    rw [Nat.div_lt_iff_lt_mul hc]
    rw [Nat.div_lt_iff_lt_mul (by omega)] at h
    generalize a * b = p at *
    omega
  omega

theorem fracScaleC (a b c : Nat) (ha : a < 18446744073709551616) (hb : b < 18446744073709551616) (hc : c < 18446744073709551616) (w : World) :
    Calls Try.prog 11 #[.int .u64 a, .int .u64 b, .int .u64 c] w (Drew (.int .u64 (scaleN a b c)) w) := by
  by_cases h0 : c = 0
  · subst h0
    rw [show scaleN a b 0 = 0 by unfold scaleN; simp]
    go_enter Try.func11, Try.ntmps11
    go_wp2
    go_ret
    exact ⟨rfl, 0, rfl⟩
  · have m1 := fun W => mul64C a b ha hb W
    have e0 : (((c : Nat) : Int) == 0) = false := by simp; omega
    by_cases h1 : c ≤ a * b / 18446744073709551616
    · rw [scaleN_big (by omega) h1]
      generalize a * b / 18446744073709551616 = hi at *
      generalize a * b % 18446744073709551616 = lo at *
      have e1 : decide (c ≤ hi) = true := by simp; omega
      have M1 := Lib.hid m1; clear m1 ha hb hc h0 h1
      go_enter Try.func11, Try.ntmps11
      go_wp2_with (go_at_call 15; (with_reducible refine (M1.out _).mono ?_); rintro e w1 ⟨rfl, rfl⟩)
      go_ret
      exact ⟨rfl, 0, rfl⟩
    · have hlo : a * b % 18446744073709551616 < 18446744073709551616 := Nat.mod_lt _ (by omega)
      have m2 := fun W => div64C _ _ c (Nat.lt_of_not_le h1) hlo hc W
      rw [scaleN_fits (by omega) (Nat.lt_of_not_le h1)]
      rw [Nat.mul_comm (a * b / 18446744073709551616), Nat.div_add_mod] at m2
      generalize a * b / c = q at *
      generalize a * b / 18446744073709551616 = hi at *
      generalize a * b % 18446744073709551616 = lo at *
      generalize a * b % c = r at *
      have e1 : decide (c ≤ hi) = false := by simp; omega
      have M1 := Lib.hid m1
      have M2 := Lib.hid m2
      clear m1 m2 ha hb hc h0 h1 hlo
      go_enter Try.func11, Try.ntmps11
      go_wp2_with (first | (go_at_call 15; (with_reducible refine (M1.out _).mono ?_); rintro e w1 ⟨rfl, rfl⟩) | (go_at_call 18; (with_reducible refine (M2.out _).mono ?_); rintro e w1 ⟨rfl, n, rfl⟩))
      go_ret
      exact ⟨rfl, _, rfl⟩

@[irreducible] def belowB (n c a b : Nat) : Bool := decide (n * c ≤ a * b)
theorem belowC (n c a b : Nat) (hn : n < 18446744073709551616) (hc : c < 18446744073709551616) (ha : a < 18446744073709551616) (hb : b < 18446744073709551616) (w : World) :
    Calls Try.prog 19 #[.int .u64 n, .int .u64 c, .int .u64 a, .int .u64 b] w (Same (.bool (belowB n c a b)) w) := by
  have m1 := fun W => partsC n c hn hc W
  have m2 := fun W => partsC a b ha hb W
  have hl := Fr.halves_lt (n * c) (a * b) 18446744073709551616 (by omega)
  have he := Fr.halves_eq (n * c) (a * b) 18446744073709551616
  have hB : belowB n c a b = decide (n * c / 18446744073709551616 < a * b / 18446744073709551616 ∨ (n * c / 18446744073709551616 = a * b / 18446744073709551616 ∧ n * c % 18446744073709551616 ≤ a * b % 18446744073709551616)) := by
    unfold belowB
    rw [decide_eq_decide]
    omega
  rw [hB]
  clear hl he hB
  generalize n * c / 18446744073709551616 = h1 at *
  generalize n * c % 18446744073709551616 = l1 at *
  generalize a * b / 18446744073709551616 = h2 at *
  generalize a * b % 18446744073709551616 = l2 at *
  have M1 := Lib.hid m1
  have M2 := Lib.hid m2
  clear m1 m2 ha hb hc hn
  rcases Nat.lt_trichotomy h1 h2 with h | rfl | h
  · rw [show decide (h1 < h2 ∨ (h1 = h2 ∧ l1 ≤ l2)) = true by simp; omega]
    have e1 : decide (h1 < h2) = true := by simpa using h
    clear h
    go_enter Try.func19, Try.ntmps19
    go_wp2_with (first | (go_at_call 17; (with_reducible refine (M1.out _).mono ?_); rintro e w1 ⟨rfl, rfl⟩) | (go_at_call 17; (with_reducible refine (M2.out _).mono ?_); rintro e w1 ⟨rfl, rfl⟩))
    go_ret
    exact ⟨rfl, rfl⟩
  · rw [show decide (h1 < h1 ∨ (h1 = h1 ∧ l1 ≤ l2)) = decide (l1 ≤ l2) by simp]
    go_enter Try.func19, Try.ntmps19
    go_wp2_with (first | (go_at_call 17; (with_reducible refine (M1.out _).mono ?_); rintro e w1 ⟨rfl, rfl⟩) | (go_at_call 17; (with_reducible refine (M2.out _).mono ?_); rintro e w1 ⟨rfl, rfl⟩))
    go_ret
    exact ⟨rfl, rfl⟩
  · rw [show decide (h1 < h2 ∨ (h1 = h2 ∧ l1 ≤ l2)) = false by simp; omega]
    have e1 : decide (h1 < h2) = false := by simp; omega
    have e2 : ((h1 : Int) == (h2 : Int)) = false := by simp; omega
    clear h
    go_enter Try.func19, Try.ntmps19
    go_wp2_with (first | (go_at_call 17; (with_reducible refine (M1.out _).mono ?_); rintro e w1 ⟨rfl, rfl⟩) | (go_at_call 17; (with_reducible refine (M2.out _).mono ?_); rintro e w1 ⟨rfl, rfl⟩))
    go_ret
    exact ⟨rfl, rfl⟩
end Go.Proofs.Ytipljafpmpagjaa
