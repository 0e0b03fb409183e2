/-
  The strings of a slice from the last one on, as an iterator: its contract.
-/
import Derived.RangeFuncFrom
import Derived.RangeFuncLeaves
import Derived.RangeFuncCalls
import Derived.Shelf.Abstract
import Derived.WalkKit
import Derived.OwnWalkIn
import Derived.TacticsInMore
import Derived.LoopNIn
import Derived.LoopIn
import Derived.Test.YtmdpfinadffcaaaHyA
namespace Go.Proofs.Ytmdpfinadffcaaa
open Go.RowKit Go.Shelf
set_option linter.unusedVariables false
attribute [local go_sem] Oper.semAt_some

/-- these blocks stay -/
def StayG (G : Nat → Prop) (W W' : World) : Prop := ∀ k, G k → W'.heap[k]? = W.heap[k]?
theorem stayG_t {G : Nat → Prop} {A B C : World} (h : StayG G A B) (g : StayG G B C) : StayG G A C := fun k hk => (g k hk).trans (h k hk)
theorem stayG_b {G : Nat → Prop} {w : World} (hG : ∀ k, G k → k < w.heap.size) (W : World) (l : Nat) (o o' : Obj) (hl : w.heap.size ≤ l) (_ : W.heap[l]? = some o) (_ : o.isCells = false) (_ : o.isWalk = false) : StayG G W (W.putObj l o') :=
  fun k hk => World.putObj_heap_other (by have := hG k hk; omega)
/-- a place, and its string -/
abbrev Ix (K : List ByteArray) := { i : Nat // i < K.length }
abbrev encI (K : List ByteArray) (x : Ix K) : Array Value := #[.int .i64 (x.1 : Int), .string (K[x.1]?.getD .empty)]
/-- all have come, the last one first -/
def AllI {K : List ByteArray} (xs : List (Ix K)) : Prop := xs.map (·.1) = (List.range K.length).reverse
theorem down_step {N m : Nat} (h : m < N) : ((List.range N).drop m).reverse = ((List.range N).drop (m + 1)).reverse ++ [m] := by
  rw [List.drop_eq_getElem_cons (by simpa using h)]
  simp

set_option maxRecDepth 100000 in
set_option maxHeartbeats 1000000 in
theorem back1_stops (F : Fence) (n : Nat) (hf : F.fn 54) (hro : F.round = none) (hn : 1 ≤ n) (Bn : Nat) (K : List ByteArray) (hK : K.length ≤ 1000000) (a : Option Addr) (cap : Nat) (w : World)
    (hB : w.heap[Bn]? = some (.cells #[.slice a K.length cap] 91)) (hr : eltS.Flat w a K) :
    SeqStopsK F n Try.prog 54 #[.pointer (some ⟨Bn, 0, none⟩)] (encI K) (StayG (fun k => k = Bn ∨ ∃ g, a = some ⟨g, 0, none⟩ ∧ k = g)) AllI (fun _ => True) K.length w := fun l' J Jx W hW hJ hJx hY h0 => by
  have hBW : W.heap[Bn]? = some (.cells #[.slice a K.length cap] 91) := (hW.block Bn (lt_block hB)).trans hB
  have hrW := hr.below hW
  have c0 : W.cell? ⟨Bn, 0, none⟩ = some (.slice a K.length cap) := by rw [cell_of_row W _ _ _ _ _ hBW]; rfl
  have HB := Lib.hid hBW
  have HR := Lib.hid hrW
  have hwr : IntKind.i64.wrap ((K.length : Int) - 1) = (K.length : Int) - 1 := by rw [IntKind.wrap_i64]; omega
  clear hB hr hBW hrW
  refine callsIn_of_wp Try.func54 rfl hf ?_ hro
  simp only [Try.ntmps54, List.size_toArray, List.length_cons, List.length_nil, Nat.reduceAdd, Nat.reduceSub, Array.replicate_succ, Array.replicate_zero, List.push_toArray, List.append_toArray, List.nil_append, List.cons_append]
  gi_wp2
  gi_loopw [3] (fun s wr => ∃ (m : Nat) (i : Int) (pre : List (Ix K)), m ≤ K.length ∧ i = (m : Int) - 1 ∧ s = .int .i64 i ∧ Hid (pre.map (·.1) = ((List.range K.length).drop m).reverse) ∧ J pre wr ∧ Hid (StayG (fun k => k = Bn ∨ ∃ g, a = some ⟨g, 0, none⟩ ∧ k = g) W wr)) (fun s _ => (intOf s + 1).toNat)
  case atStart => exact ⟨K.length, _, [], Nat.le_refl _, rfl, rfl, Lib.hid (by simp), h0, Lib.hid (fun _ _ => rfl)⟩
  case round =>
    obtain ⟨m, i, pre, hm, hi, rfl, hpre, hJs, hst⟩ := hrel
    clear c0 hwr
    have hBr := (hst.out Bn (Or.inl rfl)).trans HB.out
    have c1 : wr.cell? ⟨Bn, 0, none⟩ = some (.slice a K.length cap) := by rw [cell_of_row wr _ _ _ _ _ hBr]; rfl
    clear hBr
    cases m with
    | zero =>
      obtain rfl : i = -1 := by omega
      clear hi hm
      have hpre' := hpre.out
      rw [List.drop_zero] at hpre'
      gi_wp2
      go_end0
      exact ⟨⟨_, rfl⟩, .inl ⟨_, hpre', hJs⟩⟩
    | succ j =>
      obtain rfl : i = (j : Int) := by omega
      have hj : j < K.length := hm
      clear hi hm
      obtain ⟨g, rfl, hg, hc⟩ := HR.out.is (by omega)
      have hcj := hc j hj 0 _ rfl
      have d0 : wr.cell? ⟨g, j, none⟩ = some (.string (K[j]?.getD .empty)) := by
        have hb := hst.out g (Or.inr ⟨g, rfl, rfl⟩)
        rw [World.cell?_of_block hb]
        have e : j * eltS.size + 0 = j := by simp [eltS]
        rw [e] at hcj
        rw [hcj, List.getElem?_eq_getElem hj]
        rfl
      have hlen : pre.length < K.length := by have := congrArg List.length hpre.out; simp at this; omega
      obtain ⟨fn, tmps, assign, body, hy, hR⟩ := hY pre ⟨j, hj⟩ wr hJs hlen
      dsimp only [encI] at hy
      have hpre2 : Hid ((pre ++ [(⟨j, hj⟩ : Ix K)]).map (·.1) = ((List.range K.length).drop j).reverse) := Lib.hid (by rw [List.map_append, hpre.out, down_step hj]; rfl)
      generalize K[j]?.getD .empty = key at *
      clear hc hcj hlen hpre
      gi_wp2
      refine hR.mono ?_
      rintro e W3 (⟨rfl, hJ3, hk3⟩ | ⟨rfl, hJx3⟩)
      · gi_wp2
        go_roundw
        case rel => exact ⟨j, _, _, Nat.le_of_lt hj, rfl, rfl, hpre2, hJ3, Lib.hid (stayG_t hst.out hk3)⟩
        case measure => simp [intOf]
      · gi_wp2
        refine bodyPost_ret (results_none rfl _ _ _) rfl ?_
        exact ⟨⟨_, rfl⟩, .inr ⟨_, trivial, hJx3⟩⟩

set_option maxRecDepth 100000 in
/-- Backward(s): the slice is boxed; the function value captures the box -/
theorem backC (v : Value) (hv : ∃ a n cap, v = .slice a n cap) (w : World) :
    Calls Try.prog 46 #[v] w fun e w' => e = .returned (.func (.func 54) #[] #[.pointer (some ⟨w.heap.size, 0, none⟩)]) ∧ w' = w.alloc (.cells #[v] 91) := by
  obtain ⟨a, n, cap, rfl⟩ := hv
  go_enter Try.func46, Try.ntmps46
  go_wp2
  go_ret
  exact ⟨rfl, rfl⟩
end Go.Proofs.Ytmdpfinadffcaaa
