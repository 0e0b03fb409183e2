/-
  What tick.Left, tick.Add and the document's own return; Wait, both.
-/
import Derived.Test.YtdjpedgfhdfghaaBase
import Derived.Test.YtdjpedgfhdfghaaTickMath
import Derived.LoopTactic
namespace Go.Proofs.Ytdjpedgfhdfghaa
open Go.RowKit
set_option linter.unusedVariables false

@[irreducible] def leftI (a b : Int) : Int := if b ≤ a then 0 else b - a
theorem leftC (a b : Int) (ha : 0 ≤ a) (ha2 : a < 18446744073709551616) (hb : 0 ≤ b) (hb2 : b < 18446744073709551616) (w : World) :
    Calls Try.prog 7 #[.int .u64 a, .int .u64 b] w (Same (.int .u64 (leftI a b)) w) := by
  by_cases h : b ≤ a
  · have e : leftI a b = 0 := by unfold leftI; rw [if_pos h]
    rw [e]; clear e
    go_enter Try.func7, Try.ntmps7
    go_wp2
    go_ret
    exact ⟨rfl, rfl⟩
  · have e : leftI a b = b - a := by unfold leftI; rw [if_neg h]
    rw [e]; clear e
    go_enter Try.func7, Try.ntmps7
    go_wp2
    go_ret
    exact ⟨rfl, rfl⟩
theorem refLeftC (a b : Int) (ha : 0 ≤ a) (ha2 : a < 18446744073709551616) (hb : 0 ≤ b) (hb2 : b < 18446744073709551616) (w : World) :
    Calls Try.prog 8 #[.int .u64 a, .int .u64 b] w (Same (.int .u64 (leftI a b)) w) := by
  by_cases h : b ≤ a
  · have e : leftI a b = 0 := by unfold leftI; rw [if_pos h]
    rw [e]; clear e
    go_enter Try.func8, Try.ntmps8
    go_wp2
    go_ret
    exact ⟨rfl, rfl⟩
  · have e : leftI a b = b - a := by unfold leftI; rw [if_neg h]
    rw [e]; clear e
    go_enter Try.func8, Try.ntmps8
    go_wp2
    go_ret
    exact ⟨rfl, rfl⟩
@[irreducible] def addI (a n : Int) : Int := if n < 0 then a else if a + n > 18446744073709551615 then 18446744073709551615 else a + n
theorem addC (a n : Int) (ha : 0 ≤ a) (ha2 : a < 18446744073709551616) (hn : n ≤ 9223372036854775807) (w : World) :
    Calls Try.prog 5 #[.int .u64 a, .int .i64 n] w (Same (.int .u64 (addI a n)) w) := by
  by_cases h : n < 0
  · have e : addI a n = a := by unfold addI; rw [if_pos h]
    rw [e]; clear e
    go_enter Try.func5, Try.ntmps5
    go_wp2
    go_ret
    exact ⟨rfl, rfl⟩
  · have c : ∀ W, Calls Try.prog 7 #[.int .u64 a, .int .u64 18446744073709551615] W (Same (.int .u64 (18446744073709551615 - a)) W) := fun W => by
      have h := leftC a 18446744073709551615 ha ha2 (by omega) (by omega) W
      have e : leftI a 18446744073709551615 = 18446744073709551615 - a := by unfold leftI; split <;> omega
      rw [e] at h; exact h
    have C := Lib.hid c; clear c
    by_cases h2 : a + n > 18446744073709551615
    · have e : addI a n = 18446744073709551615 := by unfold addI; rw [if_neg h, if_pos h2]
      rw [e]; clear e
      go_enter Try.func5, Try.ntmps5
      go_wp2_with (go_at_call 7; (with_reducible refine (C.out _).mono ?_); rintro e w1 ⟨rfl, rfl⟩)
      go_ret
      exact ⟨rfl, rfl⟩
    · have e : addI a n = a + n := by unfold addI; rw [if_neg h, if_neg h2]
      rw [e]; clear e
      go_enter Try.func5, Try.ntmps5
      go_wp2_with (go_at_call 7; (with_reducible refine (C.out _).mono ?_); rintro e w1 ⟨rfl, rfl⟩)
      go_ret
      exact ⟨rfl, rfl⟩
theorem refAddC (a n : Int) (ha : 0 ≤ a) (ha2 : a < 18446744073709551616) (hn : n ≤ 9223372036854775807) (w : World) :
    Calls Try.prog 6 #[.int .u64 a, .int .i64 n] w (Same (.int .u64 (addI a n)) w) := by
  by_cases h : n < 0
  · have e : addI a n = a := by unfold addI; rw [if_pos h]
    rw [e]; clear e
    go_enter Try.func6, Try.ntmps6
    go_wp2
    go_ret
    exact ⟨rfl, rfl⟩
  · by_cases h2 : a + n > 18446744073709551615
    · have e : addI a n = 18446744073709551615 := by unfold addI; rw [if_neg h, if_pos h2]
      have e2 : IntKind.u64.wrap (a + n) = a + n - 18446744073709551616 := by rw [IntKind.wrap_u64]; omega
      have e3 : decide (a + n - 18446744073709551616 < a) = true := by simp; omega
      rw [e]; clear e
      go_enter Try.func6, Try.ntmps6
      go_wp2
      go_ret
      exact ⟨rfl, rfl⟩
    · have e : addI a n = a + n := by unfold addI; rw [if_neg h, if_neg h2]
      rw [e]; clear e
      go_enter Try.func6, Try.ntmps6
      go_wp2
      go_ret
      exact ⟨rfl, rfl⟩
end Go.Proofs.Ytdjpedgfhdfghaa
