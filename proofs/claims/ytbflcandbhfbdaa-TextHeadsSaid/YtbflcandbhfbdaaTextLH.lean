/-
  The law of heads.
-/
import Derived.Test.YtbflcandbhfbdaaTextL
namespace Go.Proofs.Ytbflcandbhfbdaa
open Go.RowKit
set_option linter.unusedVariables false

set_option maxHeartbeats 4000000 in
set_option maxRecDepth 100000 in
theorem textHeads_walk (s : ByteArray) (n : Int) (w : World) (w0 : s.size ≤ maxLen) (w1 : (Lit.int .i64 n).wf = true) :
    Calls Try.prog 5 #[.string s, .int .i64 n] w (Ret (.bool true) w) := by
  have hs := len_max w0
  obtain ⟨h0, h1⟩ := wf_i64 w1
  clear w0 w1
  have hb := Below.refl w.heap.size w
  by_cases hz : s.size ≤ 1000
  · have hle := hd_le s n
    have c1 := fun W => headC s n W (by omega) h0 h1
    have c2 := fun W => refHeadC s n W hs h0 h1
    have c3 := fun W => countC (Hd s n) W (by omega)
    have c4 := fun W => countC s W hs
    have hpre := hd_prefix s n
    have c5 := fun W => countC (s.extract (Hd s n).size s.size) W (by simp; omega)
    rw [hd_rest] at c5
    rw [hd_count] at c3
    have hl : (Tx.runesL (bl s)).length ≤ 1000 := by have := (Tx.runesL_length (bl s)).1; rw [bl_length] at this; omega
    generalize Hd s n = h at *
    generalize (Tx.runesL (bl s)).length = m at *
    have hz2 : s.size ≤ 1000 := hz
    clear hz
    by_cases hn0 : n ≤ 0
    · rw [show min n.toNat m = 0 by omega] at c3
      rw [show m - n.toNat = m by omega] at c5
      have q1 : min n (m : Int) = n := by omega
      have q2 : max 0 n = 0 := by omega
      have q3 : IntKind.i64.wrap (m : Int) = (m : Int) := IntWalk.i64_in _ (by omega)
      have C1 := Lib.hid c1; clear c1
      have C2 := Lib.hid c2; clear c2
      have C3 := Lib.hid c3; clear c3
      have C4 := Lib.hid c4; clear c4
      have C5 := Lib.hid c5; clear c5
      go_enter Try.func5, Try.ntmps5
      go_wp2_with (first | (go_at_call 16; (with_reducible refine (C1.out _).mono ?_); rintro e w1 ⟨rfl, hbx⟩; (first | replace hb := hb.trans (hbx.mono hb.size) | replace hb := hb.drew.trans (hbx.mono hb.size)); clear hbx))
      go_region_held3 (fun _ => True) (trivial) (first | (go_at_call 17; (with_reducible refine (C2.out _).mono ?_); rintro e w1 ⟨rfl, hbx⟩; (first | replace hb := hb.trans (hbx.mono hb.size) | replace hb := hb.drew.trans (hbx.mono hb.size)); clear hbx) | (go_at_call 14; (with_reducible refine (C3.out _).mono ?_); rintro e w1 ⟨rfl, hbx⟩; (first | replace hb := hb.trans (hbx.mono hb.size) | replace hb := hb.drew.trans (hbx.mono hb.size)); clear hbx) | (go_at_call 14; (with_reducible refine (C4.out _).mono ?_); rintro e w1 ⟨rfl, hbx⟩; (first | replace hb := hb.trans (hbx.mono hb.size) | replace hb := hb.drew.trans (hbx.mono hb.size)); clear hbx) | (go_at_call 14; (with_reducible refine (C5.out _).mono ?_); rintro e w1 ⟨rfl, hbx⟩; (first | replace hb := hb.trans (hbx.mono hb.size) | replace hb := hb.drew.trans (hbx.mono hb.size)); clear hbx) | (go_at_call 9; (with_reducible refine (liveOk _).mono ?_); rintro e w1 ⟨rfl, hbx⟩; (first | replace hb := hb.trans (hbx.mono hb.size) | replace hb := hb.drew.trans (hbx.mono hb.size)); clear hbx))
      all_goals (go_wp2; go_ret; exact ⟨rfl, hb⟩)
    · by_cases hnm : n ≤ (m : Int)
      · obtain ⟨a, rfl⟩ : ∃ a : Nat, n = (a : Int) := ⟨n.toNat, by omega⟩
        obtain ⟨b, rfl⟩ : ∃ b : Nat, m = a + b := ⟨m - a, by omega⟩
        rw [show min (a : Int).toNat (a + b) = a by omega] at c3
        rw [show a + b - (a : Int).toNat = b by omega] at c5
        have q1 : min (a : Int) ((a : Int) + (b : Int)) = (a : Int) := by omega
        have q2 : max 0 (a : Int) = (a : Int) := by omega
        have q3 : IntKind.i64.wrap ((a : Int) + (b : Int)) = (a : Int) + (b : Int) := IntWalk.i64_in _ (by omega)
        clear hn0 hnm
        have C1 := Lib.hid c1; clear c1
        have C2 := Lib.hid c2; clear c2
        have C3 := Lib.hid c3; clear c3
        have C4 := Lib.hid c4; clear c4
        have C5 := Lib.hid c5; clear c5
        go_enter Try.func5, Try.ntmps5
        go_wp2_with (first | (go_at_call 16; (with_reducible refine (C1.out _).mono ?_); rintro e w1 ⟨rfl, hbx⟩; (first | replace hb := hb.trans (hbx.mono hb.size) | replace hb := hb.drew.trans (hbx.mono hb.size)); clear hbx))
        go_region_held3 (fun _ => True) (trivial) (first | (go_at_call 17; (with_reducible refine (C2.out _).mono ?_); rintro e w1 ⟨rfl, hbx⟩; (first | replace hb := hb.trans (hbx.mono hb.size) | replace hb := hb.drew.trans (hbx.mono hb.size)); clear hbx) | (go_at_call 14; (with_reducible refine (C3.out _).mono ?_); rintro e w1 ⟨rfl, hbx⟩; (first | replace hb := hb.trans (hbx.mono hb.size) | replace hb := hb.drew.trans (hbx.mono hb.size)); clear hbx) | (go_at_call 14; (with_reducible refine (C4.out _).mono ?_); rintro e w1 ⟨rfl, hbx⟩; (first | replace hb := hb.trans (hbx.mono hb.size) | replace hb := hb.drew.trans (hbx.mono hb.size)); clear hbx) | (go_at_call 14; (with_reducible refine (C5.out _).mono ?_); rintro e w1 ⟨rfl, hbx⟩; (first | replace hb := hb.trans (hbx.mono hb.size) | replace hb := hb.drew.trans (hbx.mono hb.size)); clear hbx) | (go_at_call 9; (with_reducible refine (liveOk _).mono ?_); rintro e w1 ⟨rfl, hbx⟩; (first | replace hb := hb.trans (hbx.mono hb.size) | replace hb := hb.drew.trans (hbx.mono hb.size)); clear hbx))
        all_goals (go_wp2; go_ret; exact ⟨rfl, hb⟩)
      · rw [show min n.toNat m = m by omega] at c3
        rw [show m - n.toNat = 0 by omega] at c5
        have q1 : min n (m : Int) = (m : Int) := by omega
        have q2 : max 0 (m : Int) = (m : Int) := by omega
        have q3 : IntKind.i64.wrap (m : Int) = (m : Int) := IntWalk.i64_in _ (by omega)
        clear hn0 hnm
        have C1 := Lib.hid c1; clear c1
        have C2 := Lib.hid c2; clear c2
        have C3 := Lib.hid c3; clear c3
        have C4 := Lib.hid c4; clear c4
        have C5 := Lib.hid c5; clear c5
        go_enter Try.func5, Try.ntmps5
        go_wp2_with (first | (go_at_call 16; (with_reducible refine (C1.out _).mono ?_); rintro e w1 ⟨rfl, hbx⟩; (first | replace hb := hb.trans (hbx.mono hb.size) | replace hb := hb.drew.trans (hbx.mono hb.size)); clear hbx))
        go_region_held3 (fun _ => True) (trivial) (first | (go_at_call 17; (with_reducible refine (C2.out _).mono ?_); rintro e w1 ⟨rfl, hbx⟩; (first | replace hb := hb.trans (hbx.mono hb.size) | replace hb := hb.drew.trans (hbx.mono hb.size)); clear hbx) | (go_at_call 14; (with_reducible refine (C3.out _).mono ?_); rintro e w1 ⟨rfl, hbx⟩; (first | replace hb := hb.trans (hbx.mono hb.size) | replace hb := hb.drew.trans (hbx.mono hb.size)); clear hbx) | (go_at_call 14; (with_reducible refine (C4.out _).mono ?_); rintro e w1 ⟨rfl, hbx⟩; (first | replace hb := hb.trans (hbx.mono hb.size) | replace hb := hb.drew.trans (hbx.mono hb.size)); clear hbx) | (go_at_call 14; (with_reducible refine (C5.out _).mono ?_); rintro e w1 ⟨rfl, hbx⟩; (first | replace hb := hb.trans (hbx.mono hb.size) | replace hb := hb.drew.trans (hbx.mono hb.size)); clear hbx) | (go_at_call 9; (with_reducible refine (liveOk _).mono ?_); rintro e w1 ⟨rfl, hbx⟩; (first | replace hb := hb.trans (hbx.mono hb.size) | replace hb := hb.drew.trans (hbx.mono hb.size)); clear hbx))
        all_goals (go_wp2; go_ret; exact ⟨rfl, hb⟩)
  · have hz2 : 1000 < s.size := by omega
    clear hz
    go_enter Try.func5, Try.ntmps5
    go_wp2_with (go_at_call 9; (with_reducible refine (liveOk _).mono ?_); rintro e w1 ⟨rfl, hbx⟩; (first | replace hb := hb.trans (hbx.mono hb.size) | replace hb := hb.drew.trans (hbx.mono hb.size)); clear hbx)
    go_ret
    exact ⟨rfl, hb⟩
end Go.Proofs.Ytbflcandbhfbdaa
