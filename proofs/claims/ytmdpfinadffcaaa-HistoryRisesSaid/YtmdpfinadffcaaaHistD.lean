/-
  A histogram's box among others; half of all counts.
-/
import Derived.Test.YtmdpfinadffcaaaHistC
namespace Go.Proofs.Ytmdpfinadffcaaa
open Go.RowKit
set_option linter.unusedVariables false

/-- the box at g holds l -/
structure Bx (w : World) (g : Nat) (l : List Int) : Prop where
  n : l.length = 16
  h : w.heap[g]? = some (boxH l)
section
variable {w w' : World} {g : Nat} {l : List Int}
theorem Bx.lt (h : Bx w g l) : g < w.heap.size := lt_block h.h
theorem Bx.below (h : Bx w g l) (hb : Below w.heap.size w w') : Bx w' g l := ⟨h.n, (hb.block g h.lt).trans h.h⟩
theorem Bx.new (w : World) (h : l.length = 16) : Bx (w.alloc (boxH l)) w.heap.size l := ⟨h, heap_alloc_new _ _⟩
theorem Bx.old (h : Bx w g l) (o : Obj) : Bx (w.alloc o) g l := ⟨h.n, (Lib.alloc_old w o g h.lt).trans h.h⟩
theorem Bx.set (h : Bx w g l) (k : Nat) (v : Int) : Bx (w.setCell ⟨g, k, none⟩ (.int .i64 v)) g (l.set k v) :=
  ⟨by rw [List.length_set, h.n], (heap_setCell_same _ _ _ _ _ _ h.h).trans (by rw [Hi.cells_set])⟩
theorem Bx.setO (h : Bx w g l) (g' k : Nat) (v : Value) (hn : g ≠ g') : Bx (w.setCell ⟨g', k, none⟩ v) g l := ⟨h.n, (Below.heap_setCell _ _ _ _ hn).trans h.h⟩
theorem Bx.row (h : Bx w g l) {m : List Int} (hm : m.length = 16) : Bx (w.setRow g (Hi.cells m)) g m := ⟨hm, setRow_heap w g _ _ _ _ h.h⟩
theorem Bx.rowO (h : Bx w g l) (g' : Nat) (c : Array Value) (hn : g ≠ g') : Bx (w.setRow g' c) g l := ⟨h.n, (setRow_other _ _ _ _ hn).trans h.h⟩
theorem Bx.cell (h : Bx w g l) {k : Nat} (hk : k < 16) : w.cell? ⟨g, k, none⟩ = some (.int .i64 (l.getD k 0)) := cellH h.h h.n hk
theorem Bx.frozen (h : Bx w g l) (k : Nat) : w.frozen? ⟨g, k, none⟩ = false := frozenH h.h k
theorem Bx.drew (h : Bx w g l) (n : Nat) : Bx (w.drewN n) g l := ⟨h.n, h.h⟩
end
theorem below_row {B g : Nat} {w w' : World} (h : Below B w w') (hg : B ≤ g) (cs : Array Value) : Below B w (w'.setRow g cs) :=
  ⟨h.os, h.tape, h.output, by rw [setRow_size]; exact h.size, fun k hk => (setRow_other w' g k cs (by omega)).trans (h.block k hk)⟩
theorem loadB {ops : Array Oper} {rest : List Oper} {o : Oper} {a : Act} {w : World} {Q : Exit → Act → World → Prop} {g : Nat} {l : List Int} (h : Bx w g l) (x : Operand) (ho : o.op = .load 49 x) (hw : Region.wanted o (yielded ops a.tmps) = true)
    (hx : a.eval x = .pointer (some ⟨g, 0, none⟩)) (hK : wpList Try.prog ops Q rest (a.put o.dst (.agg (Hi.cells l))) w) : wpList Try.prog ops Q (o :: rest) a w := wpLoadH x ho hw g hx l h.h h.n hK
theorem storeB {ops : Array Oper} {rest : List Oper} {o : Oper} {a : Act} {w : World} {Q : Exit → Act → World → Prop} {g : Nat} {old : List Int} (h : Bx w g old) {l : List Int} (hl : l.length = 16) (hgd : o.guard = none) (x y : Operand) (ho : o.op = .store 49 x y)
    (hx : a.eval x = .pointer (some ⟨g, 0, none⟩)) (hy : a.eval y = .agg (Hi.cells l)) (hK : wpList Try.prog ops Q rest (a.put o.dst undef) (w.setRow g (Hi.cells l))) : wpList Try.prog ops Q (o :: rest) a w := wpStoreH hgd x y ho g l hx hy old h.h h.n hl hK

theorem zeros_new (w : World) : Bx (w.alloc (.cells #[.int .i64 0, .int .i64 0, .int .i64 0, .int .i64 0, .int .i64 0, .int .i64 0, .int .i64 0, .int .i64 0, .int .i64 0, .int .i64 0, .int .i64 0, .int .i64 0, .int .i64 0, .int .i64 0, .int .i64 0, .int .i64 0] 49)) w.heap.size Hi.zeros := ⟨rfl, heap_alloc_new _ _⟩
theorem alloc_size (w : World) (o : Obj) : (w.alloc o).heap.size = w.heap.size + 1 := by simp

theorem half_step {l : List Int} (hl : l.length = 16) {k : Nat} (hk : k < 16) : ((Hi.half l).take k ++ l.drop k).set k (l.getD k 0 / 2) = (Hi.half l).take (k + 1) ++ l.drop (k + 1) := by
  have h1 : ((Hi.half l).take k).length = k := by rw [List.length_take, Hi.half_length]; omega
  rw [List.set_append, if_neg (by omega), h1, Nat.sub_self, List.drop_eq_getElem_cons (by omega), List.set_cons_zero, List.take_add_one, List.append_assoc]
  congr 1
  have h2 : (Hi.half l)[k]? = some (l.getD k 0 / 2) := by
    simp [Hi.half, List.getD_eq_getElem?_getD, List.getElem?_eq_getElem (show k < l.length by omega)]
  rw [h2]
  rfl
theorem half_at {l : List Int} (hl : l.length = 16) {k : Nat} (hk : k < 16) : ((Hi.half l).take k ++ l.drop k).getD k 0 = l.getD k 0 := by
  have h1 : ((Hi.half l).take k).length = k := by rw [List.length_take, Hi.half_length]; omega
  rw [List.getD_eq_getElem?_getD, List.getElem?_append_right (by omega), h1, Nat.sub_self, List.getElem?_drop, Nat.add_zero, ← List.getD_eq_getElem?_getD]

set_option maxRecDepth 100000 in
set_option maxHeartbeats 1000000 in
theorem halvedC (l : List Int) (hl : l.length = 16) (hs : Hi.small l) (w : World) :
    Calls Try.prog 40 #[.agg (Hi.cells l)] w (Ret (.agg (Hi.cells (Hi.half l))) w) := by
  have B0 := Lib.hid (Bx.new w hl)
  have B1 := Lib.hid (zeros_new (w.alloc (boxH l)))
  rw [alloc_size] at B1
  go_enter Try.func40, Try.ntmps40
  go_wp2
  go_loopw [4] (fun i wr => ∃ (k : Nat), k ≤ 16 ∧ i = .int .i64 (k : Int) ∧ Hid (Bx wr w.heap.size ((Hi.half l).take k ++ l.drop k)) ∧ Hid (Bx wr (w.heap.size + 1) Hi.zeros) ∧ Hid (Below w.heap.size w wr)) (fun i _ => 16 - (intOf i).toNat)
  case atStart => exact ⟨0, by omega, rfl, Lib.hid (B0.out.old _), B1, Lib.hid (((Below.refl _ _).alloc (Nat.le_refl _) _).alloc (by simp) _)⟩
  case round =>
    obtain ⟨k, hk, rfl, H0, H1, HB⟩ := hrel
    by_cases hlt : k < 16
    · have hc := H0.out.cell hlt
      have hfz := H0.out.frozen k
      rw [half_at hl hlt] at hc
      have hx := hs.getD (k := k) (by omega)
      have HS := Lib.hid (half_step hl hlt)
      generalize l.getD k 0 = x at *
      obtain ⟨hx0, hx1⟩ := hx
      go_wp2
      go_round
      case rel => exact ⟨k + 1, by omega, by go_num, Lib.hid (by have := H0.out.set k (x / 2); rwa [HS.out] at this), Lib.hid (H1.out.setO _ _ _ (by omega)), Lib.hid (HB.out.setCell (Nat.le_refl _) _)⟩
      case measure => simp [intOf]; omega
    · obtain rfl : k = 16 := by omega
      have H2 : Hid (Bx wr w.heap.size (Hi.half l)) := Lib.hid (by
        have := H0.out
        rwa [List.take_of_length_le (by rw [Hi.half_length]; omega), List.drop_of_length_le (by omega), List.append_nil] at this)
      go_wp2_with (first | (refine loadB H2.out _ rfl rfl rfl ?_) | (refine storeB H1.out H2.out.n rfl _ _ rfl rfl rfl ?_))
      (try simp only [Exit.inBlock, Exit.then])
      refine bodyPost_ret (v := .agg (Hi.cells (Hi.half l))) ?_ rfl ⟨rfl, below_row HB.out (by omega) _⟩
      exact results_cell_row rfl _ _ _ _ _ _ _ rfl (H1.out.row H2.out.n).h Try.underlying49 rfl (by rw [infoH, Hi.cells_size, H2.out.n])
end Go.Proofs.Ytmdpfinadffcaaa
