/-
  The chapter's example; QuantTells.
-/
import Derived.Test.YtomgbcbdmnhejaaQuA
import Derived.Test.YtomgbcbdmnhejaaQuD
namespace Go.Proofs.Ytomgbcbdmnhejaa
open Go.RowKit
set_option linter.unusedVariables false

/-- the example's histogram -/
def ex : List Int := [0, 3, 0, 0, 1, 0, 0, 0, 0, 0, 0, 0, 0, 0, 0, 0]
theorem ex_good {p : Int} (h0 : 1 ≤ p) (h1 : p ≤ 100) : Qu.Good ex p := ⟨by decide, by decide, h0, h1⟩
theorem ex_75 : Qu.IsPlace ex 75 1 := ⟨by decide, by decide, by decide⟩
theorem ex_76 : Qu.IsPlace ex 76 4 := ⟨by decide, by decide, by decide⟩
theorem ex_new {w : World} {g : Nat} (h : Bx w g Hi.zeros) : Bx ((w.setCell ⟨g, 1, none⟩ (.int .i64 3)).setCell ⟨g, 4, none⟩ (.int .i64 1)) g ex := (h.set 1 3).set 4 1

set_option maxRecDepth 100000 in
set_option maxHeartbeats 1000000 in
theorem liveOk (w : World) : Calls Try.prog 10 #[] w (Ret (.bool true) w) := by
  have B0 := Lib.hid (zeros_new w)
  have W0 := Lib.hid ((Below.refl w.heap.size w).alloc (Nat.le_refl _) (.cells #[.int .i64 0, .int .i64 0, .int .i64 0, .int .i64 0, .int .i64 0, .int .i64 0, .int .i64 0, .int .i64 0, .int .i64 0, .int .i64 0, .int .i64 0, .int .i64 0, .int .i64 0, .int .i64 0, .int .i64 0, .int .i64 0] 23))
  have C1 := Lib.hid (fun W => ofYes ex rfl 75 1 (ex_good (by omega) (by omega)) ex_75 W)
  have C2 := Lib.hid (fun W => ofYes ex rfl 76 4 (ex_good (by omega) (by omega)) ex_76 W)
  rw [show Hi.high ((1 : Nat) : Int) = 1 by decide] at C1
  rw [show Hi.high ((4 : Nat) : Int) = 15 by decide] at C2
  go_enter Try.func10, Try.ntmps10
  go_wp2_with (first
      | (refine storeB B0.out (l := Hi.zeros) rfl rfl _ _ rfl rfl rfl ?_; replace B0 := Lib.hid (B0.out.row (m := Hi.zeros) rfl); replace W0 := Lib.hid (below_row W0.out (Nat.le_refl _) (Hi.cells Hi.zeros)); generalize (World.setRow _ w.heap.size (Hi.cells Hi.zeros)) = W1 at *; have c1 := B0.out.frozen 1; have c4 := B0.out.frozen 4; have d1 := B0.out.cell (k := 1) (by omega); have d4 := B0.out.cell (k := 4) (by omega))
      | (refine loadB (ex_new B0.out) _ rfl rfl rfl ?_)
      | (go_at_call 8; (with_reducible refine (C1.out _).mono ?_); rintro e w1 ⟨rfl, hb1⟩; (have W2 := Lib.hid (((W0.out.setCell (p := ⟨w.heap.size, 1, none⟩) (Nat.le_refl _) _).setCell (p := ⟨w.heap.size, 4, none⟩) (Nat.le_refl _) _).trans (hb1.mono (by have := W0.out.size; simp; omega))); have B2 := Lib.hid ((ex_new B0.out).below hb1); clear hb1))
      | (refine loadB B2.out _ rfl rfl rfl ?_)
      | (go_at_call 8; (with_reducible refine (C2.out _).mono ?_); rintro e w2 ⟨rfl, hb2⟩))
  go_ret
  exact ⟨rfl, W2.out.trans (hb2.mono W2.out.size)⟩

theorem run_max_none (ts : Array TypeId) (t : TypeId) (P : Program) (w : World) : (Builtin.max_ ts t #[.int .i64 (-1), .int .i64 0]).run P w = .ok (.int .i64 0) w := by
  simp [Builtin.max_, Builtin.max2]
theorem run_max_some (b : Nat) (ts : Array TypeId) (t : TypeId) (P : Program) (w : World) : (Builtin.max_ ts t #[.int .i64 (b : Int), .int .i64 0]).run P w = .ok (.int .i64 (b : Int)) w := by
  have : ¬ ((b : Int) < 0) := by omega
  simp [Builtin.max_, Builtin.max2, this]

set_option maxRecDepth 100000 in
set_option maxHeartbeats 1000000 in
theorem quantTells_no (l : List Int) (hl : l.length = 16) (p : Int) (h : ¬ Qu.Good l p) (w : World) :
    Calls Try.prog 3 #[.agg (Hi.cells l), .int .i64 p] w (Ret (.bool true) w) := by
  have B0 := Lib.hid (Bx.new w hl)
  have W0 := Lib.hid ((Below.refl w.heap.size w).alloc (Nat.le_refl _) (boxH l))
  have C1 := Lib.hid (fun W => placeNo l hl p h W)
  have C2 := Lib.hid (fun W => refPlaceNo l hl p h W)
  have C3 := Lib.hid (fun W => ofNo l hl p h W)
  have C4 := Lib.hid (fun W => refOfNo l hl p h W)
  have C5 := Lib.hid (fun W => liveOk W)
  have r := run_max_none
  clear h
  go_enter Try.func3, Try.ntmps3
  go_wp2_with (first
      | (refine loadB B0.out _ rfl rfl rfl ?_)
      | (go_at_call 6; (with_reducible refine (C1.out _).mono ?_); rintro e w1 ⟨rfl, hb1⟩; replace B0 := Lib.hid (B0.out.below hb1); replace W0 := Lib.hid (W0.out.trans (hb1.mono W0.out.size)); clear hb1)
      | (go_at_call 7; (with_reducible refine (C2.out _).mono ?_); rintro e w1 ⟨rfl, hb1⟩; replace B0 := Lib.hid (B0.out.below hb1); replace W0 := Lib.hid (W0.out.trans (hb1.mono W0.out.size)); clear hb1)
      | (go_at_call 8; (with_reducible refine (C3.out _).mono ?_); rintro e w1 ⟨rfl, hb1⟩; replace B0 := Lib.hid (B0.out.below hb1); replace W0 := Lib.hid (W0.out.trans (hb1.mono W0.out.size)); clear hb1)
      | (go_at_call 9; (with_reducible refine (C4.out _).mono ?_); rintro e w1 ⟨rfl, hb1⟩; replace B0 := Lib.hid (B0.out.below hb1); replace W0 := Lib.hid (W0.out.trans (hb1.mono W0.out.size)); clear hb1)
      | (go_at_call 10; (with_reducible refine (C5.out _).mono ?_); rintro e w1 ⟨rfl, hb1⟩; replace W0 := Lib.hid (W0.out.trans (hb1.mono W0.out.size)); clear hb1))
  go_ret
  exact ⟨rfl, W0.out⟩

set_option maxRecDepth 100000 in
set_option maxHeartbeats 1000000 in
theorem quantTells_yes (l : List Int) (hl : l.length = 16) (p : Int) (b : Nat) (hg : Qu.Good l p) (hb : Qu.IsPlace l p b) (w : World) :
    Calls Try.prog 3 #[.agg (Hi.cells l), .int .i64 p] w (Ret (.bool true) w) := by
  have B0 := Lib.hid (Bx.new w hl)
  have W0 := Lib.hid ((Below.refl w.heap.size w).alloc (Nat.le_refl _) (boxH l))
  have C1 := Lib.hid (fun W => placeYes l hl p b hg hb W)
  have C2 := Lib.hid (fun W => refPlaceYes l hl p b hg hb W)
  have C3 := Lib.hid (fun W => ofYes l hl p b hg hb W)
  have C4 := Lib.hid (fun W => refOfYes l hl p b hg hb W)
  have C5 := Lib.hid (fun W => liveOk W)
  have r := run_max_some b
  generalize Hi.high (b : Int) = H at *
  clear hg hb
  go_enter Try.func3, Try.ntmps3
  go_wp2_with (first
      | (refine loadB B0.out _ rfl rfl rfl ?_)
      | (go_at_call 6; (with_reducible refine (C1.out _).mono ?_); rintro e w1 ⟨rfl, hb1⟩; replace B0 := Lib.hid (B0.out.below hb1); replace W0 := Lib.hid (W0.out.trans (hb1.mono W0.out.size)); clear hb1)
      | (go_at_call 7; (with_reducible refine (C2.out _).mono ?_); rintro e w1 ⟨rfl, hb1⟩; replace B0 := Lib.hid (B0.out.below hb1); replace W0 := Lib.hid (W0.out.trans (hb1.mono W0.out.size)); clear hb1)
      | (go_at_call 8; (with_reducible refine (C3.out _).mono ?_); rintro e w1 ⟨rfl, hb1⟩; replace B0 := Lib.hid (B0.out.below hb1); replace W0 := Lib.hid (W0.out.trans (hb1.mono W0.out.size)); clear hb1)
      | (go_at_call 9; (with_reducible refine (C4.out _).mono ?_); rintro e w1 ⟨rfl, hb1⟩; replace B0 := Lib.hid (B0.out.below hb1); replace W0 := Lib.hid (W0.out.trans (hb1.mono W0.out.size)); clear hb1)
      | (go_at_call 10; (with_reducible refine (C5.out _).mono ?_); rintro e w1 ⟨rfl, hb1⟩; replace W0 := Lib.hid (W0.out.trans (hb1.mono W0.out.size)); clear hb1))
  go_ret
  exact ⟨rfl, W0.out⟩
end Go.Proofs.Ytomgbcbdmnhejaa
