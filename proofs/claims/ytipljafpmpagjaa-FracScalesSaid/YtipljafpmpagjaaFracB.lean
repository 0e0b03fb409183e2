/-
  What the functions of layer 5 (frac) return: the document's Compare and below, Ceil both, Near both.
-/
import Derived.Test.YtipljafpmpagjaaFracA
namespace Go.Proofs.Ytipljafpmpagjaa
open Go.RowKit
set_option linter.unusedVariables false

theorem refCompareC (a b c d : Nat) (ha : a < 18446744073709551616) (hb : b < 18446744073709551616) (hc : c < 18446744073709551616) (hd : d < 18446744073709551616) (w : World) :
    Calls Try.prog 7 #[.int .u64 a, .int .u64 b, .int .u64 c, .int .u64 d] w (Same (.int .i64 (cmpI ((a * d : Nat) : Int) ((b * c : Nat) : Int))) w) := by
  have m1 := fun W => partsC a d ha hd W
  have m2 := fun W => partsC b c hb hc W
  have hh := cmpI_halves (a * d) (b * c)
  obtain ⟨h1, e1⟩ : ∃ h1 : Int, h1 = ((a * d / 18446744073709551616 : Nat) : Int) := ⟨_, rfl⟩
  obtain ⟨l1, e2⟩ : ∃ h1 : Int, h1 = ((a * d % 18446744073709551616 : Nat) : Int) := ⟨_, rfl⟩
  obtain ⟨h2, e3⟩ : ∃ h1 : Int, h1 = ((b * c / 18446744073709551616 : Nat) : Int) := ⟨_, rfl⟩
  obtain ⟨l2, e4⟩ : ∃ h1 : Int, h1 = ((b * c % 18446744073709551616 : Nat) : Int) := ⟨_, rfl⟩
  rw [← e1, ← e2] at m1
  rw [← e3, ← e4] at m2
  rw [← e1, ← e2, ← e3, ← e4] at hh
  rw [hh]
  clear e1 e2 e3 e4 hh ha hb hc hd
  have M1 := Lib.hid m1; clear m1
  have M2 := Lib.hid m2; clear m2
  by_cases h : h1 = h2
  · subst h
    rw [if_pos rfl]
    rcases Int.lt_trichotomy l1 l2 with h | h | h
    · rw [cmpI_lt h]
      go_enter Try.func7, Try.ntmps7
      go_wp2_with (first
        | (go_at_call 17; (with_reducible refine (M1.out _).mono ?_); rintro e w1 ⟨rfl, rfl⟩)
        | (go_at_call 17; (with_reducible refine (M2.out _).mono ?_); rintro e w1 ⟨rfl, rfl⟩))
      go_ret
      exact ⟨rfl, rfl⟩
    · subst h
      rw [cmpI_eq]
      go_enter Try.func7, Try.ntmps7
      go_wp2_with (first
        | (go_at_call 17; (with_reducible refine (M1.out _).mono ?_); rintro e w1 ⟨rfl, rfl⟩)
        | (go_at_call 17; (with_reducible refine (M2.out _).mono ?_); rintro e w1 ⟨rfl, rfl⟩))
      go_ret
      exact ⟨rfl, rfl⟩
    · rw [cmpI_gt h]
      have h' : ¬ l1 < l2 := by omega
      have h'' : ¬ l1 = l2 := by omega
      go_enter Try.func7, Try.ntmps7
      go_wp2_with (first
        | (go_at_call 17; (with_reducible refine (M1.out _).mono ?_); rintro e w1 ⟨rfl, rfl⟩)
        | (go_at_call 17; (with_reducible refine (M2.out _).mono ?_); rintro e w1 ⟨rfl, rfl⟩))
      go_ret
      exact ⟨rfl, rfl⟩
  · rw [if_neg h]
    rcases Int.lt_trichotomy h1 h2 with h5 | h5 | h5
    · rw [cmpI_lt h5]
      go_enter Try.func7, Try.ntmps7
      go_wp2_with (first
        | (go_at_call 17; (with_reducible refine (M1.out _).mono ?_); rintro e w1 ⟨rfl, rfl⟩)
        | (go_at_call 17; (with_reducible refine (M2.out _).mono ?_); rintro e w1 ⟨rfl, rfl⟩))
      go_ret
      exact ⟨rfl, rfl⟩
    · exact absurd h5 h
    · rw [cmpI_gt h5]
      have h' : ¬ h1 < h2 := by omega
      go_enter Try.func7, Try.ntmps7
      go_wp2_with (first
        | (go_at_call 17; (with_reducible refine (M1.out _).mono ?_); rintro e w1 ⟨rfl, rfl⟩)
        | (go_at_call 17; (with_reducible refine (M2.out _).mono ?_); rintro e w1 ⟨rfl, rfl⟩))
      go_ret
      exact ⟨rfl, rfl⟩
end Go.Proofs.Ytipljafpmpagjaa
