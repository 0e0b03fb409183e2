/-
  Two wheels and a row of one's own, apart.
-/
import Derived.Test.YtmglpjbikknjgaaWhS
namespace Go.Proofs.Ytmglpjbikknjgaa
open Go.RowKit
set_option linter.unusedVariables false

structure Duo (Is : WS) (w0 : World) (P1 P2 : Nat) (n1 : Int) (l1 : List Wh.E) (n2 : Int) (l2 : List Wh.E) (u : Value) (o : List Wh.E) (w : World) : Prop where
  s : ∃ F1 F2, Is w w0.heap.size P1 n1 l1 F1 ∧ Is w w0.heap.size P2 n2 l2 F2 ∧ (∀ k, F1 k → ¬ F2 k) ∧ ∀ k, u.ownBlock = some k → ¬ F1 k ∧ ¬ F2 k
  r : RowE w w0.heap.size u o
  b : Below w0.heap.size w0 w
theorem Duo.below {Is : WS} (K : WheelC Is) {w0 : World} {P1 P2 : Nat} {n1 n2 : Int} {l1 l2 : List Wh.E} {u : Value} {o : List Wh.E} {w w' : World} (h : Duo Is w0 P1 P2 n1 l1 n2 l2 u o w) (hb : Below w.heap.size w w') : Duo Is w0 P1 P2 n1 l1 n2 l2 u o w' := by
  obtain ⟨F1, F2, i1, i2, d1, d2⟩ := h.s
  exact ⟨⟨F1, F2, K.keep i1 hb.size (fun k hk => hb.block k (K.lt i1 k hk).2), K.keep i2 hb.size (fun k hk => hb.block k (K.lt i2 k hk).2), d1, d2⟩, h.r.below hb, h.b.trans (hb.mono h.b.size)⟩
theorem Duo.swap {Is : WS} {w0 : World} {P1 P2 : Nat} {n1 n2 : Int} {l1 l2 : List Wh.E} {u : Value} {o : List Wh.E} {w : World} (h : Duo Is w0 P1 P2 n1 l1 n2 l2 u o w) : Duo Is w0 P2 P1 n2 l2 n1 l1 u o w := by
  obtain ⟨F1, F2, i1, i2, d1, d2⟩ := h.s
  exact ⟨⟨F2, F1, i2, i1, fun k h2 h1 => d1 k h1 h2, fun k e => ⟨(d2 k e).2, (d2 k e).1⟩⟩, h.r, h.b⟩
/-- behind a call of the first -/
theorem Duo.first {Is : WS} (K : WheelC Is) {w0 : World} {P1 P2 : Nat} {n1 n2 n' : Int} {l1 l2 l' : List Wh.E} {u : Value} {o : List Wh.E} {w w' : World} {F1 F2 F' : Nat → Prop} (h : Duo Is w0 P1 P2 n1 l1 n2 l2 u o w)
    (i1 : Is w w0.heap.size P1 n1 l1 F1) (i2 : Is w w0.heap.size P2 n2 l2 F2) (d1 : ∀ k, F1 k → ¬ F2 k) (d2 : ∀ k, u.ownBlock = some k → ¬ F1 k ∧ ¬ F2 k)
    (i' : Is w' w0.heap.size P1 n' l' F') (hF : ∀ k, F' k → F1 k ∨ w.heap.size ≤ k) (hc : Chg F1 w w') : Duo Is w0 P1 P2 n' l' n2 l2 u o w' := by
  refine ⟨⟨F', F2, i', K.keep i2 hc.size (fun k hk => hc.block k (K.lt i2 k hk).2 (fun h1 => d1 k h1 hk)), fun k hk h2 => ?_, fun k e => ⟨fun hf => ?_, (d2 k e).2⟩⟩, own_keep h.r (fun k e => hc.block k (World.ownsRow.lt h.r k e).2 (d2 k e).1), h.b.trans (hc.below (fun k hk => (K.lt i1 k hk).1) h.b.size)⟩
  · rcases hF k hk with e | e
    · exact d1 k e h2
    · have := (K.lt i2 k h2).2; omega
  · rcases hF k hf with g | g
    · exact (d2 k e).1 g
    · have := (World.ownsRow.lt h.r k e).2; omega
theorem duo1 {Is : WS} (K : WheelC Is) {w0 : World} {P1 P2 : Nat} {n1 n2 n' : Int} {l1 l2 l' : List Wh.E} {u : Value} {o : List Wh.E} {f : FuncId} {args : Array Value} {r : Value}
    (hc : ∀ w F, Below w0.heap.size w0 w → Is w w0.heap.size P1 n1 l1 F → Calls Try.prog f args w (RetW Is r w0.heap.size P1 n' l' F w)) (w : World) (h : Duo Is w0 P1 P2 n1 l1 n2 l2 u o w) : Calls Try.prog f args w fun e w' => e = .returned r ∧ Duo Is w0 P1 P2 n' l' n2 l2 u o w' := by
  obtain ⟨F1, F2, i1, i2, d1, d2⟩ := h.s
  refine (hc w F1 h.b i1).mono fun e w' hr => ?_
  obtain ⟨F', e1, e2⟩ := hr.s
  exact ⟨hr.r, h.first K i1 i2 d1 d2 e1 e2 hr.c⟩
theorem duo2 {Is : WS} (K : WheelC Is) {w0 : World} {P1 P2 : Nat} {n1 n2 n' : Int} {l1 l2 l' : List Wh.E} {u : Value} {o : List Wh.E} {f : FuncId} {args : Array Value} {r : Value}
    (hc : ∀ w F, Below w0.heap.size w0 w → Is w w0.heap.size P2 n2 l2 F → Calls Try.prog f args w (RetW Is r w0.heap.size P2 n' l' F w)) (w : World) (h : Duo Is w0 P1 P2 n1 l1 n2 l2 u o w) : Calls Try.prog f args w fun e w' => e = .returned r ∧ Duo Is w0 P1 P2 n1 l1 n' l' u o w' :=
  (duo1 K hc w h.swap).mono fun _ _ hr => ⟨hr.1, hr.2.swap⟩
/-- a turn of the first -/
theorem duoTurn {Is : WS} (K : WheelC Is) {w0 : World} {P1 P2 : Nat} {n1 n2 : Int} {l1 l2 : List Wh.E} {u : Value} {o : List Wh.E} {tm : Int} (h1 : (Lit.int .u64 tm).wf = true) (hn : (l1.map (·.1)).Nodup) (hl : l1.length ≤ 1000) (w : World) (h : Duo Is w0 P1 P2 n1 l1 n2 l2 u o w) :
    Calls Try.prog 14 #[.pointer (some ⟨P1, 0, none⟩), .int .u64 tm] w fun e w' => (∃ a cap, e = .returned (.slice a (Wh.turned l1 tm).length cap) ∧ ViewO w' a (Wh.turned l1 tm) ∧ (a = none → cap = 0)) ∧ Duo Is w0 P1 P2 (later n1 tm) (Wh.rest l1 tm) n2 l2 u o w' := by
  obtain ⟨F1, F2, i1, i2, d1, d2⟩ := h.s
  refine (K.turn tm w w0.heap.size P1 n1 l1 F1 h1 hn hl i1).mono fun e w' hr => ?_
  obtain ⟨F', e1, e2⟩ := hr.s
  obtain ⟨a, cap, r1, r2, _, r4⟩ := hr.r
  exact ⟨⟨a, cap, r1, r2, r4⟩, h.first K i1 i2 d1 d2 e1 e2 hr.c⟩
/-- behind an append to the row -/
theorem Duo.grow {Is : WS} (K : WheelC Is) {w0 : World} {P1 P2 : Nat} {n1 n2 : Int} {l1 l2 : List Wh.E} {u u' : Value} {o o' : List Wh.E} {w w' : World} (h : Duo Is w0 P1 P2 n1 l1 n2 l2 u o w)
    (hr : RowE w' w0.heap.size u' o') (hb : Below w0.heap.size w w') (hk : ∀ k, k < w.heap.size → some k ≠ u.ownBlock → w'.heap[k]? = w.heap[k]?) (hl : ∀ k, u'.ownBlock = some k → u.ownBlock = some k ∨ w.heap.size ≤ k) : Duo Is w0 P1 P2 n1 l1 n2 l2 u' o' w' := by
  obtain ⟨F1, F2, i1, i2, d1, d2⟩ := h.s
  refine ⟨⟨F1, F2, K.keep i1 hb.size (fun k hf => hk k (K.lt i1 k hf).2 (fun e => (d2 k e.symm).1 hf)), K.keep i2 hb.size (fun k hf => hk k (K.lt i2 k hf).2 (fun e => (d2 k e.symm).2 hf)), d1, fun k e => ?_⟩, hr, h.b.trans hb⟩
  rcases hl k e with g | g
  · exact d2 k g
  · exact ⟨fun hf => by have := (K.lt i1 k hf).2; omega, fun hf => by have := (K.lt i2 k hf).2; omega⟩
/-- a row of ticks, as it came in -/
def CutAt (w : World) (a : Option Addr) (len : Nat) (t : Nat → Int) : Prop := len = 0 ∨ ∃ b off : Nat, a = some ⟨b, off, none⟩ ∧ b < w.heap.size ∧ ∀ i, i < len → w.cell? ⟨b, off + i, none⟩ = some (.int .u64 (t i)) ∧ (Lit.int .u64 (t i)).wf = true
theorem later_ge (a b : Int) : a ≤ later a b ∧ b ≤ later a b := by unfold later; split <;> omega
theorem later_of {a b : Int} (h : a ≤ b) : later a b = b := by unfold later; split <;> omega
theorem later_wf {a b : Int} (h1 : (Lit.int .u64 a).wf = true) (h2 : (Lit.int .u64 b).wf = true) : (Lit.int .u64 (later a b)).wf = true := by unfold later; split <;> assumption
end Go.Proofs.Ytmglpjbikknjgaa
