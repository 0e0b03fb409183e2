/-
  Bucket; a histogram as a value: Total, both sides.
-/
import Derived.Test.YtmdpfinadffcaaaHistA
import Derived.Test.YtmdpfinadffcaaaShelf
import Derived.Laws.ResultCell
import Derived.Laws.Tables
import Derived.Laws.Rows
namespace Go.Proofs.Ytmdpfinadffcaaa
open Go.RowKit
set_option linter.unusedVariables false

theorem run_min15 (ts : Array TypeId) (t : TypeId) (P : Program) (w : World) (v : Nat) :
    (Builtin.min_ ts t #[.int .i64 (Lib.bitLen v : Nat), .int .i64 15]).run P w = .ok (.int .i64 (Hi.bk v : Nat)) w := by
  have e : ((Hi.bk v : Nat) : Int) = if 15 < ((Lib.bitLen v : Nat) : Int) then 15 else ((Lib.bitLen v : Nat) : Int) := by
    unfold Hi.bk; split <;> omega
  rw [e]
  simp [Builtin.min_, Builtin.min2]
theorem bucketC (v : Int) (h0 : 0 ≤ v) (h1 : v < 18446744073709551616) (w : World) :
    Calls Try.prog 41 #[.int .u64 v] w (Same (.int .i64 (Hi.bk v.toNat : Nat)) w) := by
  have r := fun ts t P w => run_min15 ts t P w v.toNat
  go_enter Try.func41, Try.ntmps41
  go_wp2_with (go_at_call 53; refine (Try.bits_Len64 v _ h0 (by omega)).mono ?_; rintro e w' ⟨rfl, rfl⟩)
  go_ret
  exact ⟨rfl, rfl⟩

theorem infoH : (Try.prog.info? 49).map (·.size) = some 16 := by kernel_rfl
/-- a histogram's box -/
abbrev boxH (l : List Int) : Obj := .cells (Hi.cells l) 49
/-- the whole of a histogram's box -/
theorem wpLoadH {ops : Array Oper} {rest : List Oper} {o : Oper} {a : Act} {w : World} {Q : Exit → Act → World → Prop} (x : Operand) (ho : o.op = .load 49 x) (hw : Region.wanted o (yielded ops a.tmps) = true)
    (g : Nat) (hx : a.eval x = .pointer (some ⟨g, 0, none⟩)) (l : List Int) (hg : w.heap[g]? = some (boxH l)) (hl : l.length = 16)
    (h : wpList Try.prog ops Q rest (a.put o.dst (.agg (Hi.cells l))) w) : wpList Try.prog ops Q (o :: rest) a w :=
  BigFrame.wpList_want hw fun _ hK => wp_load_row 49 x ho g hx 49 (Hi.cells l) _ _ hg Try.underlying49 rfl (by rw [infoH, Hi.cells_size, hl]) (hK _ _ h)
/-- 'x = h' where x is a histogram's cell -/
theorem wpStoreH {ops : Array Oper} {rest : List Oper} {o : Oper} {a : Act} {w : World} {Q : Exit → Act → World → Prop} (hgd : o.guard = none) (x y : Operand) (ho : o.op = .store 49 x y)
    (g : Nat) (l : List Int) (hx : a.eval x = .pointer (some ⟨g, 0, none⟩)) (hy : a.eval y = .agg (Hi.cells l)) (old : List Int) (hg : w.heap[g]? = some (boxH old)) (hold : old.length = 16) (hl : l.length = 16)
    (h : wpList Try.prog ops Q rest (a.put o.dst undef) (w.setRow g (Hi.cells l))) : wpList Try.prog ops Q (o :: rest) a w :=
  wpList_store_row hgd 49 x y ho g (Hi.cells l) hx hy 49 (Hi.cells old) hg (by rw [infoH, Hi.cells_size, hl]) (by rw [Hi.cells_size, Hi.cells_size, hold, hl]) (Hi.cells_one l) h
theorem cellH {w : World} {g : Nat} {l : List Int} (hg : w.heap[g]? = some (boxH l)) (hl : l.length = 16) {k : Nat} (hk : k < 16) : w.cell? ⟨g, k, none⟩ = some (.int .i64 (l.getD k 0)) := by
  rw [cell_of_row w g k _ _ _ hg, Hi.cells_get (by omega)]
theorem frozenH {w : World} {g : Nat} {l : List Int} (hg : w.heap[g]? = some (boxH l)) (k : Nat) : w.frozen? ⟨g, k, none⟩ = false := frozen_of_row w g k _ _ hg
theorem indexH {w : World} {l : List Int} (hl : l.length = 16) {k : Nat} (hk : k < 16) : (Instr.index 49 (.agg (Hi.cells l)) (.int .i64 (k : Int))).run Try.prog w = .ok (.int .i64 (l.getD k 0)) w := by
  have h := Hi.cells_get (l := l) (k := k) (by omega)
  have hk' : (k : Int) < 16 := by omega
  simp [Instr.index, asIntOf, Try.underlying49, underlying, part, Try.isAgg3, Try.sizeOf3, hk, h]

set_option maxRecDepth 100000 in
set_option maxHeartbeats 1000000 in
theorem refTotalC (l : List Int) (hl : l.length = 16) (hs : ∀ x ∈ l, -1125899906842624 ≤ x ∧ x ≤ 1125899906842624) (w : World) :
    Calls Try.prog 27 #[.agg (Hi.cells l)] w (Ret (.int .i64 (Hi.tot l)) w) := by
  obtain ⟨R, hR⟩ : ∃ R, R = Hi.tot l := ⟨_, rfl⟩
  rw [← hR]
  have HR := Lib.hid hR; clear hR
  have hg : (w.alloc (boxH l)).heap[w.heap.size]? = some (boxH l) := heap_alloc_new _ _
  go_enter Try.func27, Try.ntmps27
  go_wp2
  go_loop [3, 4] (fun x i => ∃ (k : Nat) (u : Int), k ≤ 16 ∧ i = .int .i64 (k : Int) ∧ x = .int .i64 u ∧ Hid (u = Hi.tot (l.take k)) ∧ -(1125899906842624 * (k : Int)) ≤ u ∧ u ≤ 1125899906842624 * (k : Int)) (fun _ i => 16 - (intOf i).toNat)
  case atStart => exact ⟨0, 0, by omega, rfl, rfl, Lib.hid rfl, by omega, by omega⟩
  case round =>
    obtain ⟨k, u, hk, rfl, rfl, HU, hu0, hu1⟩ := hrel
    by_cases hlt : k < 16
    · have hc := cellH hg hl hlt
      have hx : -1125899906842624 ≤ l.getD k 0 ∧ l.getD k 0 ≤ 1125899906842624 := hs _ (by rw [List.getD_eq_getElem?_getD, List.getElem?_eq_getElem (by omega)]; exact List.getElem_mem _)
      have HT := Lib.hid (Hi.tot_take (l := l) (k := k) (by omega))
      obtain ⟨x, hxe⟩ : ∃ x, x = l.getD k 0 := ⟨_, rfl⟩
      rw [← hxe] at hc hx HT
      clear hxe
      go_wp2
      go_round
      case rel => exact ⟨k + 1, u + x, by omega, by go_num, rfl, Lib.hid (by rw [HT.out, ← HU.out]), by omega, by omega⟩
      case measure => simp [intOf]; omega
    · obtain rfl : k = 16 := by omega
      have HS : Hid (R = u) := Lib.hid (by rw [HR.out, HU.out, List.take_of_length_le (by omega)])
      go_wp2
      go_ret
      exact ⟨by rw [HS.out]; rfl, (Below.refl _ _).alloc (Nat.le_refl _) _⟩
end Go.Proofs.Ytmdpfinadffcaaa
