/-
  The buckets one after another, as an iterator: its contract.
-/
import Derived.RangeFuncFrom
import Derived.RangeFuncLeaves
import Derived.RangeFuncCalls
import Derived.Shelf.Abstract
import Derived.WalkKit
import Derived.OwnWalkIn
import Derived.TacticsInMore
import Derived.LoopNIn
import Derived.LoopIn
import Derived.Test.YtmdpfinadffcaaaHistD
import Derived.Test.YtmdpfinadffcaaaQuMath
namespace Go.Proofs.Ytmdpfinadffcaaa
open Go.RowKit Go.Shelf
set_option linter.unusedVariables false
attribute [local go_sem] Oper.semAt_some

/-- the load of a histogram's box, inside a fence -/
theorem loadIn {F : Fence} {n : Nat} {ops : Array Oper} {rest : List Oper} {o : Oper} {a : Act} {w : World} {Q : Exit → Act → World → Prop} {g : Nat} {l : List Int} (h : Bx w g l) (x : Operand) (ho : o.op = .load 49 x) (hw : Region.wanted o (yielded ops a.tmps) = true)
    (hx : a.eval x = .pointer (some ⟨g, 0, none⟩)) (hK : wpListIn F n Try.prog ops Q rest (a.put o.dst (.agg (Hi.cells l))) w) : wpListIn F n Try.prog ops Q (o :: rest) a w := by
  refine BigFrame.wpListIn_want hw fun K hK' => ?_
  unfold Oper.wpIn
  refine ⟨by simp [Oper.about, ho], ?_⟩
  rw [Oper.semAt_plain F _ _ (by rw [ho]; intro c hc'; cases hc')]
  unfold execOp
  simp only [ho, hx, Instr.loadAt, Instr.sureAddr, Sem.run_bind, Sem.run_pure, Result.andThen_ok, run_loadVar_row w g 49 49 (Hi.cells l) _ _ h.h Try.underlying49 rfl (by rw [infoH, Hi.cells_size, h.n])]
  exact hK' _ _ hK

/-- a bucket -/
abbrev Bk := { k : Nat // k < 16 }
/-- what a round is handed: a bucket, and the sum of the counts up to it -/
abbrev encB (l : List Int) (x : Bk) : Array Value := #[.int .i64 (x.1 : Int), .int .i64 (Hi.tot (l.take (x.1 + 1)))]
/-- all have come · a part has come, at least one -/
def AllB (xs : List Bk) : Prop := xs.map (·.1) = List.range 16
def PartB (xs : List Bk) : Prop := ∃ k, k < 16 ∧ xs.map (·.1) = List.range (k + 1)

set_option maxRecDepth 100000 in
set_option maxHeartbeats 1000000 in
theorem sums1_stops (F : Fence) (n : Nat) (h22 : F.fn 58) (hro : F.round = none) (hn : 1 ≤ n) (Bn : Nat) (l : List Int) (ho : Hi.ok l = true) (w : World) (hB : Bx w Bn l) :
    SeqStopsK F n Try.prog 58 #[.pointer (some ⟨Bn, 0, none⟩)] (encB l) KeepsWalks AllB PartB 16 w := fun l' J Jx W hW hJ hJx hY h0 => by
  have hBW := hB.below (w' := W) hW
  have hl := hB.n
  have HS := Lib.hid (fun k => Qu.ok_take ho k)
  refine callsIn_of_wp Try.func58 rfl h22 ?_ hro
  simp only [Try.ntmps58, List.size_toArray, List.length_cons, List.length_nil, Nat.reduceAdd, Nat.reduceSub, Array.replicate_succ, Array.replicate_zero, List.push_toArray, List.append_toArray, List.nil_append, List.cons_append]
  gi_wp2_with (refine loadIn hBW _ rfl rfl rfl ?_)
  gi_loopw [3, 7] (fun s i wr => ∃ (k : Nat) (pre : List Bk), k ≤ 16 ∧ i = .int .i64 (k : Int) ∧ s = .int .i64 (Hi.tot (l.take k)) ∧ pre.map (·.1) = List.range k ∧ J pre wr) (fun _ i _ => 16 - (intOf i).toNat)
  case atStart => exact ⟨0, [], by omega, rfl, rfl, rfl, h0⟩
  case round =>
    obtain ⟨k, pre, hk, rfl, rfl, hpre, hJs⟩ := hrel
    have hlen : pre.length = k := by have := congrArg List.length hpre; simpa using this
    by_cases hlt : k < 16
    · have hc := fun W => indexH (w := W) hl hlt
      have hT := Hi.tot_take (l := l) (k := k) (by omega)
      have b1 := HS.out k
      have b2 := HS.out (k + 1)
      obtain ⟨fn, tmps, assign, body, hy, hR⟩ := hY pre ⟨k, hlt⟩ wr hJs (by omega)
      dsimp only [encB] at hy
      have hpre2 : (pre ++ [(⟨k, hlt⟩ : Bk)]).map (·.1) = List.range (k + 1) := by simp [hpre, List.range_succ]
      rw [hT] at hy b2
      have HT := Lib.hid hT; clear hT
      generalize Hi.tot (l.take k) = s at *
      generalize l.getD k 0 = x at *
      obtain ⟨b10, b11⟩ := b1
      obtain ⟨b20, b21⟩ := b2
      gi_wp2
      refine hR.mono ?_
      rintro e W3 (⟨rfl, hJ3, hk3⟩ | ⟨rfl, hJx3⟩)
      · gi_wp2
        go_roundw
        case rel => exact ⟨k + 1, _, by omega, by go_num, by rw [HT.out], hpre2, hJ3⟩
        case measure => simp [intOf]; omega
      · gi_wp2
        refine bodyPost_ret (results_none rfl _ _ _) rfl ?_
        exact ⟨⟨_, rfl⟩, .inr ⟨_, ⟨k, hlt, hpre2⟩, hJx3⟩⟩
    · obtain rfl : k = 16 := by omega
      gi_wp2
      go_end0
      exact ⟨⟨_, rfl⟩, .inl ⟨_, hpre, hJs⟩⟩

set_option maxRecDepth 100000 in
/-- sums(h): the histogram is boxed; the function value captures the box -/
theorem sumsC (l : List Int) (w : World) :
    Calls Try.prog 57 #[.agg (Hi.cells l)] w fun e w' => e = .returned (.func (.func 58) #[] #[.pointer (some ⟨w.heap.size, 0, none⟩)]) ∧ w' = w.alloc (boxH l) := by
  go_enter Try.func57, Try.ntmps57
  go_wp2
  go_ret
  exact ⟨rfl, rfl⟩
end Go.Proofs.Ytmdpfinadffcaaa
