/-
  Ceil, both; the page's examples; Compare and Near as a law.
-/
import Derived.Test.YtipljafpmpagjaaFracB
import Derived.Test.YtipljafpmpagjaaFracD
namespace Go.Proofs.Ytipljafpmpagjaa
open Go.RowKit
set_option linter.unusedVariables false

@[irreducible] def ceilI (a b : Int) : Int := if b = 0 then 0 else if a % b = 0 then a / b else a / b + 1
theorem ceil_fits {a b : Int} (h0 : 0 ≤ a) (h1 : a < 18446744073709551616) (hb : 0 < b) (h : ¬ a % b = 0) : IntKind.u64.wrap (a / b + 1) = a / b + 1 := by
  have h2 : b ≠ 1 := by rintro rfl; omega
  have h3 := Int.ediv_nonneg h0 (Int.le_of_lt hb)
  have h4 := Int.mul_ediv_add_emod a b
  have h5 := Int.emod_nonneg a (show b ≠ 0 by omega)
  have h6 := Int.mul_le_mul_of_nonneg_right (show 2 ≤ b by omega) h3
  exact wrap64_in (by omega) (by omega)
theorem fracCeilC (a b : Int) (ha : 0 ≤ a) (ha' : a < 18446744073709551616) (hb : 0 ≤ b) (w : World) :
    Calls Try.prog 9 #[.int .u64 a, .int .u64 b] w (Same (.int .u64 (ceilI a b)) w) := by
  by_cases h0 : b = 0
  · subst h0
    have e : ceilI a 0 = 0 := by unfold ceilI; simp
    rw [e]
    go_enter Try.func9, Try.ntmps9
    go_wp2
    go_ret
    exact ⟨rfl, rfl⟩
  · have e0 : (b == 0) = false := by simpa using h0
    by_cases h1 : a % b = 0
    · have e : ceilI a b = a / b := by unfold ceilI; rw [if_neg h0, if_pos h1]
      have e1 : (a % b == 0) = true := by simpa using h1
      have e2 : (a % b != 0) = false := by simpa using h1
      rw [e]
      clear e h1
      go_enter Try.func9, Try.ntmps9
      go_wp2
      go_ret
      exact ⟨rfl, rfl⟩
    · have e : ceilI a b = a / b + 1 := by unfold ceilI; rw [if_neg h0, if_neg h1]
      have e1 : (a % b == 0) = false := by simpa using h1
      have e2 : (a % b != 0) = true := by simpa using h1
      have e3 : IntKind.u64.wrap (a / b + 1) = a / b + 1 := ceil_fits ha ha' (by omega) h1
      rw [e]
      clear e h1
      go_enter Try.func9, Try.ntmps9
      go_wp2
      go_ret
      exact ⟨rfl, rfl⟩
theorem refCeilC (a b : Int) (ha : 0 ≤ a) (ha' : a < 18446744073709551616) (hb : 0 ≤ b) (w : World) :
    Calls Try.prog 10 #[.int .u64 a, .int .u64 b] w (Same (.int .u64 (ceilI a b)) w) := by
  by_cases h0 : b = 0
  · subst h0
    have e : ceilI a 0 = 0 := by unfold ceilI; simp
    rw [e]
    go_enter Try.func10, Try.ntmps10
    go_wp2
    go_ret
    exact ⟨rfl, rfl⟩
  · have e0 : (b == 0) = false := by simpa using h0
    by_cases h1 : a % b = 0
    · have e : ceilI a b = a / b := by unfold ceilI; rw [if_neg h0, if_pos h1]
      have e1 : (a % b == 0) = true := by simpa using h1
      have e2 : (a % b != 0) = false := by simpa using h1
      rw [e]
      clear e h1
      go_enter Try.func10, Try.ntmps10
      go_wp2
      go_ret
      exact ⟨rfl, rfl⟩
    · have e : ceilI a b = a / b + 1 := by unfold ceilI; rw [if_neg h0, if_neg h1]
      have e1 : (a % b == 0) = false := by simpa using h1
      have e2 : (a % b != 0) = true := by simpa using h1
      have e3 : IntKind.u64.wrap (a / b + 1) = a / b + 1 := ceil_fits ha ha' (by omega) h1
      rw [e]
      clear e h1
      go_enter Try.func10, Try.ntmps10
      go_wp2
      go_ret
      exact ⟨rfl, rfl⟩

theorem liveOk (w : World) : Calls Try.prog 8 #[] w (Same (.bool true) w) := by
  have c1 : ∀ W, Calls Try.prog 6 #[.int .u64 1, .int .u64 3, .int .u64 2, .int .u64 6] W (Same (.int .i64 0) W) := fun W => by
    have h := fracCompareC 1 3 2 6 (by omega) (by omega) (by omega) (by omega) W
    rw [show cmpI ((1 * 6 : Nat) : Int) ((3 * 2 : Nat) : Int) = 0 from cmpI_eq _] at h
    exact h
  have c2 : ∀ W, Calls Try.prog 9 #[.int .u64 7, .int .u64 2] W (Same (.int .u64 4) W) := fun W => by
    have h := fracCeilC 7 2 (by omega) (by omega) (by omega) W
    rw [show ceilI 7 2 = 4 from by unfold ceilI; decide] at h
    exact h
  have c3 : ∀ W, Calls Try.prog 13 #[.int .u64 5, .int .u64 1, .int .u64 12, .int .u64 2, .int .u64 0, .int .u64 0] W (Same (.bool false) W) := fun W => by
    have h := fracNearC 5 1 12 2 0 0 ⟨by omega, by omega, by omega, by omega, by omega, by omega⟩ W
    rw [show nearI 5 1 12 2 0 0 = false from by unfold nearI; decide] at h
    exact h
  have c4 : ∀ W, Calls Try.prog 13 #[.int .u64 5, .int .u64 1, .int .u64 12, .int .u64 2, .int .u64 1, .int .u64 0] W (Same (.bool true) W) := fun W => by
    have h := fracNearC 5 1 12 2 1 0 ⟨by omega, by omega, by omega, by omega, by omega, by omega⟩ W
    rw [show nearI 5 1 12 2 1 0 = true from by unfold nearI; decide] at h
    exact h
  have C1 := Lib.hid c1; clear c1
  have C2 := Lib.hid c2; clear c2
  have C3 := Lib.hid c3; clear c3
  have C4 := Lib.hid c4; clear c4
  go_enter Try.func8, Try.ntmps8
  go_wp2_with (first | (go_at_call 6; (with_reducible refine (C1.out _).mono ?_); rintro e w1 ⟨rfl, rfl⟩) | (go_at_call 9; (with_reducible refine (C2.out _).mono ?_); rintro e w1 ⟨rfl, rfl⟩) | (go_at_call 13; (with_reducible refine (C3.out _).mono ?_); rintro e w1 ⟨rfl, rfl⟩) | (go_at_call 13; (with_reducible refine (C4.out _).mono ?_); rintro e w1 ⟨rfl, rfl⟩))
  go_ret
  exact ⟨rfl, rfl⟩
end Go.Proofs.Ytipljafpmpagjaa
