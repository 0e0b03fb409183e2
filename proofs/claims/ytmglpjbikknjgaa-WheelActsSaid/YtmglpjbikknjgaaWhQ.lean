/-
  The law WheelNil, by what a nil wheel's methods return.
-/
import Derived.Test.YtmglpjbikknjgaaWhM
namespace Go.Proofs.Ytmglpjbikknjgaa
open Go.RowKit
set_option linter.unusedVariables false

structure NilC : Prop where
  at_ : ∀ (id : Int) (w : World), Calls Try.prog 20 #[.pointer none, .int .i64 id] w (Ret (.tuple #[.int .u64 0, .bool false]) w)
  next : ∀ (w : World), Calls Try.prog 21 #[.pointer none] w (Ret (.tuple #[.int .u64 0, .bool false]) w)
  put : ∀ (id a : Int) (w : World), Calls Try.prog 9 #[.pointer none, .int .i64 id, .int .u64 a] w (Ret (.int .i64 19) w)
  drop : ∀ (id : Int) (w : World), Calls Try.prog 11 #[.pointer none, .int .i64 id] w (Ret (.bool false) w)
  len : ∀ (w : World), Calls Try.prog 18 #[.pointer none] w (Ret (.int .i64 0) w)
  tick : ∀ (w : World), Calls Try.prog 19 #[.pointer none] w (Ret (.int .u64 0) w)
  turn : ∀ (tm : Int) (w : World), Calls Try.prog 14 #[.pointer none, .int .u64 tm] w fun e w' => (∃ a cap, e = .returned (.slice a 0 cap)) ∧ Below w.heap.size w w'

set_option maxRecDepth 100000 in
set_option maxHeartbeats 8000000 in
theorem wheelNil_at {Is : WS} (K : WheelC Is) (N : NilC) (id a : Int) (w : World) : Calls Try.prog 5 #[.int .i64 id, .int .u64 a] w (Ret (.bool true) w) := by
  have K0 := Lib.hid (liveOk K)
  have K1 := Lib.hid N.at_
  have K2 := Lib.hid N.next
  have K3 := Lib.hid N.put
  have K4 := Lib.hid N.drop
  have K5 := Lib.hid N.len
  have K6 := Lib.hid N.tick
  have K7 := Lib.hid N.turn
  have K8 := Lib.hid numC
  have HB := Lib.hid (Below.refl w.heap.size w)
  have HNX := Lib.hid (fun (w1 w2 : World) (h : Below w.heap.size w w1) (g : Below w1.heap.size w1 w2) => h.trans (g.mono h.size))
  go_enter Try.func5, Try.ntmps5
  go_wp2_with (first | (go_at_call 20; (with_reducible refine (K1.out _ _).mono ?_); rintro e wA ⟨rfl, hbA⟩; replace HB := Lib.hid (HNX.out _ _ HB.out hbA); clear hbA) | (go_at_call 21; (with_reducible refine (K2.out _).mono ?_); rintro e wA ⟨rfl, hbA⟩; replace HB := Lib.hid (HNX.out _ _ HB.out hbA); clear hbA) | (go_at_call 9; (with_reducible refine (K3.out _ _ _).mono ?_); rintro e wA ⟨rfl, hbA⟩; replace HB := Lib.hid (HNX.out _ _ HB.out hbA); clear hbA) | (go_at_call 11; (with_reducible refine (K4.out _ _).mono ?_); rintro e wA ⟨rfl, hbA⟩; replace HB := Lib.hid (HNX.out _ _ HB.out hbA); clear hbA) | (go_at_call 18; (with_reducible refine (K5.out _).mono ?_); rintro e wA ⟨rfl, hbA⟩; replace HB := Lib.hid (HNX.out _ _ HB.out hbA); clear hbA) | (go_at_call 19; (with_reducible refine (K6.out _).mono ?_); rintro e wA ⟨rfl, hbA⟩; replace HB := Lib.hid (HNX.out _ _ HB.out hbA); clear hbA) | (go_at_call 14; (with_reducible refine (K7.out _ _).mono ?_); rintro e wA ⟨⟨a', cap', rfl⟩, hbA⟩; replace HB := Lib.hid (HNX.out _ _ HB.out hbA); clear hbA) | (go_at_call 8; (with_reducible refine (K8.out _ _).mono ?_); rintro e wA ⟨rfl, rfl⟩) | (go_at_call 6; (with_reducible refine (K0.out _).mono ?_); rintro e wA ⟨rfl, hbA⟩; replace HB := Lib.hid (HNX.out _ _ HB.out hbA); clear hbA))
  go_ret
  exact ⟨rfl, HB.out⟩
theorem wheelNil_any {Is : WS} (K : WheelC Is) (N : NilC) (id a : Int) (w : World) (h1 : (Lit.int .i64 id).wf = true) (h2 : (Lit.int .u64 a).wf = true) : Calls Try.prog 5 #[.int .i64 id, .int .u64 a] w (Ret (.bool true) w) := wheelNil_at K N id a w
end Go.Proofs.Ytmglpjbikknjgaa
