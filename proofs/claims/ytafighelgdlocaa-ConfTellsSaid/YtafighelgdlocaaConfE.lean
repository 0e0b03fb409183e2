/-
  A configuration by value; its rows; which are valid: the program's Check.
-/
import Derived.Test.YtafighelgdlocaaConfD
namespace Cf
open Go
/-- a configuration as a value -/
abbrev C.val (c : C) : Value := .agg #[.slice c.ta c.tl c.tc, .slice c.la c.ll c.lc, .int .i64 c.f2, .int .i64 c.f3, .int .i64 c.f4, .int .i64 c.f5, .int .i64 c.f6, .int .i64 c.f7, .int .i64 c.f8, .int .i64 c.f9, .int .i64 c.f10, .int .i64 c.f11, .int .i64 c.f12, .int .i64 c.f13, .int .i64 c.f14, .int .i64 c.f15, .int .i64 c.f16, .int .i64 c.f17, .int .i64 c.f18]
abbrev C.cells (c : C) : Array Value := #[.slice c.ta c.tl c.tc, .slice c.la c.ll c.lc, .int .i64 c.f2, .int .i64 c.f3, .int .i64 c.f4, .int .i64 c.f5, .int .i64 c.f6, .int .i64 c.f7, .int .i64 c.f8, .int .i64 c.f9, .int .i64 c.f10, .int .i64 c.f11, .int .i64 c.f12, .int .i64 c.f13, .int .i64 c.f14, .int .i64 c.f15, .int .i64 c.f16, .int .i64 c.f17, .int .i64 c.f18]
end Cf
namespace Go.Proofs.Ytafighelgdlocaa
open Go.RowKit
set_option linter.unusedVariables false

theorem alloc2_new (w : World) (o1 o2 : Obj) : ((w.alloc o1).alloc o2).heap[w.heap.size + 1]? = some o2 := by
  have := heap_alloc_new (w.alloc o1) o2
  rwa [show (w.alloc o1).heap.size = w.heap.size + 1 from by simp] at this
/-- it returns the rows of c -/
structure RetRows (c : Cf.C) (w : World) (e : Ending) (w' : World) : Prop where
  r : ∃ g, e = .returned (.slice (some ⟨g, 0, none⟩) 17 17) ∧ w'.heap[g]? = some (.cells (Cf.cellsOf c.rows).toArray 52)
  b : Below w.heap.size w w'

set_option maxRecDepth 100000 in
set_option maxHeartbeats 4000000 in
theorem rowsC (c : Cf.C) (w : World) : Calls Try.prog 21 #[c.val] w (RetRows c w) := by
  obtain ⟨ta, tl, tc, la, ll, lc, f2, f3, f4, f5, f6, f7, f8, f9, f10, f11, f12, f13, f14, f15, f16, f17, f18⟩ := c
  go_enter Try.func21, Try.ntmps21
  go_wp2
  go_ret
  exact ⟨⟨_, rfl, alloc2_new _ _ _⟩, ((Below.refl _ _).alloc (Nat.le_refl _) _).alloc (by simp) _⟩
/-- c's box -/
structure Boxed (w : World) (g : Nat) (c : Cf.C) : Prop where
  b0 : w.cell? ⟨g, 0, none⟩ = some (.slice c.ta c.tl c.tc)
  b1 : w.cell? ⟨g, 1, none⟩ = some (.slice c.la c.ll c.lc)
  b2 : w.cell? ⟨g, 2, none⟩ = some (.int .i64 c.f2)
  b3 : w.cell? ⟨g, 3, none⟩ = some (.int .i64 c.f3)
  b4 : w.cell? ⟨g, 4, none⟩ = some (.int .i64 c.f4)
  b5 : w.cell? ⟨g, 5, none⟩ = some (.int .i64 c.f5)
  b6 : w.cell? ⟨g, 6, none⟩ = some (.int .i64 c.f6)
  b7 : w.cell? ⟨g, 7, none⟩ = some (.int .i64 c.f7)
  b8 : w.cell? ⟨g, 8, none⟩ = some (.int .i64 c.f8)
  b9 : w.cell? ⟨g, 9, none⟩ = some (.int .i64 c.f9)
  b10 : w.cell? ⟨g, 10, none⟩ = some (.int .i64 c.f10)
  b11 : w.cell? ⟨g, 11, none⟩ = some (.int .i64 c.f11)
  b12 : w.cell? ⟨g, 12, none⟩ = some (.int .i64 c.f12)
  b13 : w.cell? ⟨g, 13, none⟩ = some (.int .i64 c.f13)
  b14 : w.cell? ⟨g, 14, none⟩ = some (.int .i64 c.f14)
  b15 : w.cell? ⟨g, 15, none⟩ = some (.int .i64 c.f15)
  b16 : w.cell? ⟨g, 16, none⟩ = some (.int .i64 c.f16)
  b17 : w.cell? ⟨g, 17, none⟩ = some (.int .i64 c.f17)
  b18 : w.cell? ⟨g, 18, none⟩ = some (.int .i64 c.f18)
theorem boxed_of {w : World} {g : Nat} {c : Cf.C} (h : w.heap[g]? = some (.cells c.cells 25)) : Boxed w g c :=
  ⟨by rw [cell_of_row w g 0 _ _ _ h]; rfl, by rw [cell_of_row w g 1 _ _ _ h]; rfl, by rw [cell_of_row w g 2 _ _ _ h]; rfl, by rw [cell_of_row w g 3 _ _ _ h]; rfl, by rw [cell_of_row w g 4 _ _ _ h]; rfl, by rw [cell_of_row w g 5 _ _ _ h]; rfl, by rw [cell_of_row w g 6 _ _ _ h]; rfl, by rw [cell_of_row w g 7 _ _ _ h]; rfl, by rw [cell_of_row w g 8 _ _ _ h]; rfl, by rw [cell_of_row w g 9 _ _ _ h]; rfl, by rw [cell_of_row w g 10 _ _ _ h]; rfl, by rw [cell_of_row w g 11 _ _ _ h]; rfl, by rw [cell_of_row w g 12 _ _ _ h]; rfl, by rw [cell_of_row w g 13 _ _ _ h]; rfl, by rw [cell_of_row w g 14 _ _ _ h]; rfl, by rw [cell_of_row w g 15 _ _ _ h]; rfl, by rw [cell_of_row w g 16 _ _ _ h]; rfl, by rw [cell_of_row w g 17 _ _ _ h]; rfl, by rw [cell_of_row w g 18 _ _ _ h]; rfl⟩
/-- c's box behind calls that make memory -/
theorem boxedNew {W wA : World} {c : Cf.C} (h : Below (W.alloc (.cells c.cells 25)).heap.size (W.alloc (.cells c.cells 25)) wA) : wA.heap[W.heap.size]? = some (.cells c.cells 25) ∧ Below W.heap.size W wA ∧ W.heap.size < wA.heap.size :=
  ⟨(h.block W.heap.size (by simp)).trans (heap_alloc_new _ _), ((Below.refl _ _).alloc (Nat.le_refl _) _).trans (h.mono (by simp)), Nat.lt_of_lt_of_le (by simp) h.size⟩
/-- what a configuration's slices hold -/
structure CfgAt (w : World) (c : Cf.C) (t : Nat → Cf.T) (l : Nat → Int) : Prop where
  t : TenAt w c.ta c.tl t
  l : LimAt w c.la c.ll l
  tl : c.tl ≤ 100
  ll : c.ll ≤ 100
theorem CfgAt.below {w w' : World} {c : Cf.C} {t : Nat → Cf.T} {l : Nat → Int} (h : CfgAt w c t l) (hb : Below w.heap.size w w') : CfgAt w' c t l := ⟨h.t.below hb, h.l.below hb, h.tl, h.ll⟩

theorem infoCfg : (Try.prog.info? 25).map (·.size) = some 19 := by kernel_rfl
/-- the whole of c's box -/
theorem wpLoadCfg {ops : Array Oper} {rest : List Oper} {o : Oper} {a : Act} {w : World} {Q : Exit → Act → World → Prop} (x : Operand) (ho : o.op = .load 25 x) (hw : Region.wanted o (yielded ops a.tmps) = true)
    (g : Nat) (hx : a.eval x = .pointer (some ⟨g, 0, none⟩)) (c : Cf.C) (hg : w.heap[g]? = some (.cells c.cells 25))
    (h : wpList Try.prog ops Q rest (a.put o.dst (.agg c.cells)) w) : wpList Try.prog ops Q (o :: rest) a w :=
  BigFrame.wpList_want hw fun _ hK => wp_load_row 25 x ho g hx 25 c.cells _ _ hg Try.underlying25 rfl infoCfg (hK _ _ h)
end Go.Proofs.Ytafighelgdlocaa
