/-
  What the laws' walks use: an operation of a drawn region taken with its slot written out; a histogram equals itself; two boxes held.
-/
import Derived.Test.YtnecdelmhfeneaaHistG
import Derived.Deep.Cut
import Derived.OrdersHeld
import Derived.Deep.RegionHeld
import Derived.Deep.QuietTactic
import Derived.BigQuiet
namespace Go.Proofs.Ytnecdelmhfeneaa
open Go.RowKit
set_option linter.unusedVariables false

/-- 'wpAnyH_take' with the slot written out: else the state grows by a layer a take -/
theorem takeH {P : Program} {ops : Array Oper} {Q : Exit → Act → World → Prop} {md : Region.Mode} {S : World → Prop} (i : Nat) (d : Tmp) (v : Value) {oi : Oper} {fuel : Nat} {listed : Array Bool} {a : Act} {w : World} (hi : ops[i]? = some oi) (hd : oi.dst = some d)
    (hs : Region.noSelect ops = true) (hf : Region.free md ops listed i = true) (hr : (Region.ready md ops listed).contains i = true)
    (hQ : ∀ c a w, Q (.panic c) (a.put oi.dst v) w → Q (.panic c) a w) (hy : YieldsIf P ops S oi v a) (hS : S w)
    (h : wpAnyH P md ops Q S fuel (listed.setIfInBounds i true) ⟨a.tmps.setIfInBounds d v, a.defers⟩ w) : wpAnyH P md ops Q S (fuel + 1) listed a w :=
  wpAnyH_take hi hs hf hr hQ hy hS (by rw [hd]; exact h)

theorem yieldH {w : World} {ρ : Operand → Value} {o : Oper} {x : Operand} (ho : o.op = .load 28 x) (g : Nat) (hx : ρ x = .pointer (some ⟨g, 0, none⟩)) {l : List Int} (hb : Bx w g l) :
    (execOp ρ o).run Try.prog w = .ok (.value (.agg (Hi.cells l))) w := by
  unfold execOp
  simp only [ho, hx, Instr.loadAt, Instr.sureAddr, Sem.run_bind, Sem.run_pure, Result.andThen_ok, run_loadVar_row w g 28 28 (Hi.cells l) _ _ hb.h Try.underlying28 rfl (by rw [infoH, Hi.cells_size, hb.n])]

/-- a histogram equals itself -/
theorem run_same (l : List Int) (hl : l.length = 16) (w : World) : (Op.equalIn 10000 28 (.agg (Hi.cells l)) (.agg (Hi.cells l))).run Try.prog w = .ok true w := by
  rw [show (10000 : Nat) = 9999 + 1 from rfl, Op.equalIn]
  simp only [Sem.run_bind, run_underlying Try.underlying28, Result.andThen_ok, Try.sizeOf3, Std.Legacy.Range.forIn_eq_forIn_range', Std.Legacy.Range.size, Nat.sub_zero, Nat.add_sub_cancel, Nat.div_one]
  have hr : ∀ i ∈ List.range' 0 16 1, i < 16 := fun i hi => by simpa using (List.mem_range'_1.1 hi).2
  generalize List.range' 0 16 1 = r at hr ⊢
  induction r with
  | nil => simp
  | cons i r ih =>
    have hi : i < 16 := hr i (by simp)
    have h := Hi.cells_get (l := l) (k := i) (by omega)
    have px : (part 3 (Hi.cells l) (i * 1)).run Try.prog w = .ok (.int .i64 (l.getD i 0)) w := by
      simp [part, Try.isAgg3, h]
    have pe : (Op.equalIn 9999 3 (.int .i64 (l.getD i 0)) (.int .i64 (l.getD i 0))).run Try.prog w = .ok true w := by
      rw [show (9999 : Nat) = 9998 + 1 from rfl, run_equalIn_int w 9998 3 .i64 .i64 _ _ Try.underlying3]
      simp
    simp only [List.forIn_cons, Sem.run_bind, px, pe, Result.andThen_ok, Bool.not_true, Bool.false_eq_true, if_false, Sem.run_pure]
    exact ih fun j hj => hr j (by simp [hj])

/-- the two boxes of a law: the histogram, and what Add made of it -/
structure Held2 (w0 : World) (q : Nat) (l m : List Int) (w : World) : Prop where
  bl : Bx w w0.heap.size l
  bm : Bx w q m
  b : Below w0.heap.size w0 w
theorem Held2.next {w0 w w' : World} {q : Nat} {l m : List Int} (h : Held2 w0 q l m w) (hb : Below w.heap.size w w') : Held2 w0 q l m w' := ⟨h.bl.below hb, h.bm.below hb, h.b.trans (hb.mono h.b.size)⟩
theorem Held2.drew {w0 w : World} {q : Nat} {l m : List Int} (h : Held2 w0 q l m w) : Held2 w0 q l m w.drew := h.next ((Below.refl _ _).drew)
/-- the second box is made -/
theorem Held2.made {w0 w : World} {l m : List Int} (h : Bx w w0.heap.size l) (hb : Below w0.heap.size w0 w) (hm : m.length = 16) : Held2 w0 w.heap.size l m ((w.alloc (boxH Hi.zeros)).setRow w.heap.size (Hi.cells m)) := by
  have hlt := h.lt
  exact ⟨(h.old _).rowO _ _ (by omega), (zeros_new w).row hm, below_row (hb.alloc hb.size _) (by omega) _⟩

end Go.Proofs.Ytnecdelmhfeneaa
