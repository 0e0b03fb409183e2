/-
  The laws of layer 1 (octet), walked.
-/
import Derived.Test.YtbkcnhnndaejiaaOctD
namespace Go.Proofs.Ytbkcnhnndaejiaa
open Go.RowKit
set_option linter.unusedVariables false
open Bil (bl)

theorem wf_u64 {v : Int} (h : (Lit.int .u64 v).wf = true) : 0 ≤ v ∧ v < 18446744073709551616 := by
  have e1 : IntKind.u64.min = 0 := by decide
  have e2 : IntKind.u64.max = 18446744073709551615 := by decide
  simp [Lit.wf] at h
  omega
theorem wf_i64 {v : Int} (h : (Lit.int .i64 v).wf = true) : -9223372036854775808 ≤ v ∧ v ≤ 9223372036854775807 := by
  have e1 : IntKind.i64.min = -9223372036854775808 := by decide
  have e2 : IntKind.i64.max = 9223372036854775807 := by decide
  simp [Lit.wf] at h
  omega
theorem len_max {n : Nat} (h : n ≤ maxLen) : n ≤ 9223372036854775807 := h

set_option maxRecDepth 100000 in
set_option maxHeartbeats 1000000 in
theorem octetFixed_walk (v n : Int) (s : ByteArray) (w : World) (w0 : (Lit.int .u64 v).wf = true) (w1 : (Lit.int .i64 n).wf = true) (w2 : s.size ≤ maxLen) :
    Calls Try.prog 3 #[.int .u64 v, .int .i64 n, .string s] w (Ret (.bool true) w) := by
  obtain ⟨h0, h1⟩ := wf_u64 w0
  obtain ⟨n0, n1⟩ := wf_i64 w1
  have hs := len_max w2
  clear w0 w1 w2
  have hback := Bil.fixedR_back v.toNat n
  have he := Bil.fixedR_e v.toNat n
  obtain ⟨l, e, hf⟩ : ∃ l e, Bil.fixedR v.toNat n = (l, e) := ⟨_, _, rfl⟩
  have c1 := octFixed v n w h0 h1 n0 n1
  have c2 := fun W => refFixed v n W h0 h1 n0 n1
  have he2 := Bil.numberR_e (bl s)
  obtain ⟨x, g, hg⟩ : ∃ x g, Bil.numberR (bl s) = (x, g) := ⟨_, _, rfl⟩
  have c3 := fun W => octNumber s W hs
  have c4 := fun W => refNumber s W hs
  rw [hf] at hback he
  simp only [hf] at c1 c2
  rw [hg] at he2
  simp only [hg] at c3 c4
  simp only at hback he he2
  obtain ⟨X, HX⟩ : ∃ X : Int, Hid (X = (x : Int)) := ⟨_, rfl⟩
  rw [← HX.out] at c3 c4
  have C1 := Lib.hid c1; clear c1
  have C2 := Lib.hid c2; clear c2
  have C3 := Lib.hid c3; clear c3
  have C4 := Lib.hid c4; clear c4
  clear hf hg
  by_cases hz : e = 0
  · subst hz
    have hb := hback rfl
    have hsz : (ByteArray.mk l.toArray).size ≤ 9223372036854775807 := by
      have hh : ¬ (l.length < 1 ∨ 8 < l.length) := fun hh => by
        unfold Bil.numberR at hb
        rw [if_pos hh] at hb
        have := congrArg Prod.snd hb
        simp at this
      rw [Bil.size_mk]; omega
    have c5 := fun W => octNumber ⟨l.toArray⟩ W hsz
    rw [Bil.bl_mk] at c5
    simp only [hb] at c5
    have ev : ((v.toNat : Nat) : Int) = v := by omega
    rw [ev] at c5
    have C5 := Lib.hid c5; clear c5
    clear hback hb hsz ev
    go_enter Try.func3, Try.ntmps3
    go_wp2_with (first | (go_at_call 7; (with_reducible refine C1.out.mono ?_); rintro e w1 ⟨rfl, hb1⟩) | (go_at_call 8; (with_reducible refine (C2.out _).mono ?_); rintro e w2 ⟨rfl, hb2⟩) | (go_at_call 9; (with_reducible refine (C3.out _).mono ?_); rintro e w' ⟨rfl, rfl⟩) | (go_at_call 9; (with_reducible refine (C5.out _).mono ?_); rintro e w' ⟨rfl, rfl⟩) | (go_at_call 10; (with_reducible refine (C4.out _).mono ?_); rintro e w' ⟨rfl, rfl⟩) | (go_at_call 11; (with_reducible refine (numOk _ _ (by omega)).mono ?_); rintro e w' ⟨rfl, rfl⟩) | (go_at_call 12; (with_reducible refine (liveOk _).mono ?_); rintro e w3 ⟨rfl, hb3⟩))
    go_ret
    exact ⟨rfl, (hb1.trans (hb2.mono hb1.size)).trans (hb3.mono (Nat.le_trans hb1.size hb2.size))⟩
  · have hzb : (e == 0) = false := beq_eq_false_iff_ne.2 hz
    clear hback hz
    go_enter Try.func3, Try.ntmps3
    go_wp2_with (first | (go_at_call 7; (with_reducible refine C1.out.mono ?_); rintro e w1 ⟨rfl, hb1⟩) | (go_at_call 8; (with_reducible refine (C2.out _).mono ?_); rintro e w2 ⟨rfl, hb2⟩) | (go_at_call 9; (with_reducible refine (C3.out _).mono ?_); rintro e w' ⟨rfl, rfl⟩) | (go_at_call 10; (with_reducible refine (C4.out _).mono ?_); rintro e w' ⟨rfl, rfl⟩) | (go_at_call 11; (with_reducible refine (numOk _ _ (by omega)).mono ?_); rintro e w' ⟨rfl, rfl⟩) | (go_at_call 12; (with_reducible refine (liveOk _).mono ?_); rintro e w3 ⟨rfl, hb3⟩))
    go_ret
    exact ⟨rfl, (hb1.trans (hb2.mono hb1.size)).trans (hb3.mono (Nat.le_trans hb1.size hb2.size))⟩
end Go.Proofs.Ytbkcnhnndaejiaa
