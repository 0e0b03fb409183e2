/-
  A key with a histogram: built, boxed, made a slice of one, loaded out of a row, stored into one; two of them compared.
-/
import Derived.Test.YtmdpfinadffcaaaLhB
import Derived.Test.YtmdpfinadffcaaaHistD
import Derived.Test.YtmdpfinadffcaaaRowsG
import Derived.Deep.MidRow
import Derived.Great.BuildSlice
import Derived.Laws.CopyRow
namespace Go.Proofs.Ytmdpfinadffcaaa
open Go.RowKit
set_option linter.unusedVariables false

/-! ### built -/
theorem len16 {l : List Int} (h : l.length = 16) : ∃ a b c d e f g h i j k m n o p q : Int, l = [a, b, c, d, e, f, g, h, i, j, k, m, n, o, p, q] := by
  match l, h with
  | [a, b, c, d, e, f, g, h, i, j, k, m, n, o, p, q], _ => exact ⟨a, b, c, d, e, f, g, h, i, j, k, m, n, o, p, q, rfl⟩
theorem built_ent (k : ByteArray) (v : Lr.V) : Try.prog.built 73 [(0, .string k), (1, .agg (Hi.cells v.1))] = some (entC k v) := by
  obtain ⟨l, h⟩ := v
  obtain ⟨a, b, c, d, e, f, g, h, i, j, k', m, n, o, p, q, rfl⟩ := len16 h
  kernel_rfl
theorem built_row (k : ByteArray) (v : Lr.V) : Try.prog.built 58 [(0, .string k), (1, .agg (Hi.cells v.1))] = some (entC k v) := by
  obtain ⟨l, h⟩ := v
  obtain ⟨a, b, c, d, e, f, g, h, i, j, k', m, n, o, p, q, rfl⟩ := len16 h
  kernel_rfl
theorem run_ent (k : ByteArray) (v : Lr.V) (w : World) : (Instr.build 73 #[(0, .string k), (1, .agg (Hi.cells v.1))]).run Try.prog w = .ok (.agg (entC k v)) w := run_build w _ _ _ (built_ent k v)
theorem run_row (k : ByteArray) (v : Lr.V) (w : World) : (Instr.build 58 #[(0, .string k), (1, .agg (Hi.cells v.1))]).run Try.prog w = .ok (.agg (entC k v)) w := run_build w _ _ _ (built_row k v)
noncomputable def infoRow : TypeInfo := (Try.prog.info? 58).getD default
theorem infoRow_is : Try.prog.info? 58 = some infoRow := by kernel_rfl
noncomputable def zeroRow : Value := infoRow.zero.getD default
theorem zeroRow_is : infoRow.zero = some zeroRow := by kernel_rfl
theorem infoRow_size : infoRow.size = 17 := by kernel_rfl
theorem fill_one (k : ByteArray) (v : Lr.V) : Instr.fill (fun i => some (i * 17, 17)) ((Array.range (1 * 17)).map (zeroRow.cells[· % zeroRow.cells.size]!)) [(0, .agg (entC k v))] = some (entC k v) := by
  obtain ⟨l, h⟩ := v
  obtain ⟨a, b, c, d, e, f, g, h, i, j, k', m, n, o, p, q, rfl⟩ := len16 h
  kernel_rfl
theorem run_one (k : ByteArray) (v : Lr.V) (w : World) : (Instr.buildSlice 29 1 #[(0, .agg (entC k v))]).run Try.prog w = .ok (.slice (some ⟨w.heap.size, 0, none⟩) 1 1) (w.alloc (.cells (entC k v) 58)) := by
  refine run_buildSlice w 29 58 1 _ (entC k v) infoRow zeroRow Try.underlying29 infoRow_is zeroRow_is (by rw [infoRow_size]; decide) (by rw [infoRow_size]; decide) ?_
  rw [infoRow_size]
  exact fill_one k v

/-- as operations of a region -/
theorem parts2 (ρ : Operand → Value) (x y : Operand) (k : ByteArray) (v : Lr.V) (hx : ρ x = .string k) (hy : ρ y = .agg (Hi.cells v.1)) : (#[(0, x), (1, y)].map fun (p : Nat × Operand) => (p.1, ρ p.2)) = #[(0, .string k), (1, .agg (Hi.cells v.1))] := by simp [hx, hy]
theorem parts1 (ρ : Operand → Value) (x : Operand) (u : Value) (hx : ρ x = u) : (#[(0, x)].map fun (p : Nat × Operand) => (p.1, ρ p.2)) = #[(0, u)] := by simp [hx]
theorem yieldEnt {w : World} {ρ : Operand → Value} {o : Oper} {x y : Operand} {k : ByteArray} {v : Lr.V} (ho : o.op = .build 73 #[(0, x), (1, y)]) (hx : ρ x = .string k) (hy : ρ y = .agg (Hi.cells v.1)) : (execOp ρ o).run Try.prog w = .ok (.value (.agg (entC k v))) w := by
  have e := parts2 ρ x y k v hx hy
  unfold execOp
  simp only [ho, e, Sem.run_bind, run_ent k v w, Result.andThen_ok]
  rfl
theorem yieldRow {w : World} {ρ : Operand → Value} {o : Oper} {x y : Operand} {k : ByteArray} {v : Lr.V} (ho : o.op = .build 58 #[(0, x), (1, y)]) (hx : ρ x = .string k) (hy : ρ y = .agg (Hi.cells v.1)) : (execOp ρ o).run Try.prog w = .ok (.value (.agg (entC k v))) w := by
  have e := parts2 ρ x y k v hx hy
  unfold execOp
  simp only [ho, e, Sem.run_bind, run_row k v w, Result.andThen_ok]
  rfl
theorem wpBuildRow {ops : Array Oper} {rest : List Oper} {o : Oper} {a : Act} {w : World} {Q : Exit → Act → World → Prop} (hg : o.guard = none) (x y : Operand) (ho : o.op = .build 58 #[(0, x), (1, y)])
    (k : ByteArray) (v : Lr.V) (hx : a.eval x = .string k) (hy : a.eval y = .agg (Hi.cells v.1)) (hK : wpList Try.prog ops Q rest (a.put o.dst (.agg (entC k v))) w) : wpList Try.prog ops Q (o :: rest) a w := by
  refine wpList_plain hg fun K hK' => ?_
  unfold Oper.wp
  rw [yieldRow ho hx hy]
  exact hK' _ _ hK
theorem wpOne {ops : Array Oper} {rest : List Oper} {o : Oper} {a : Act} {w : World} {Q : Exit → Act → World → Prop} (hg : o.guard = none) (x : Operand) (ho : o.op = .buildSlice 29 1 #[(0, x)])
    (k : ByteArray) (v : Lr.V) (hx : a.eval x = .agg (entC k v)) (hK : wpList Try.prog ops Q rest (a.put o.dst (.slice (some ⟨w.heap.size, 0, none⟩) 1 1)) (w.alloc (.cells (entC k v) 58))) : wpList Try.prog ops Q (o :: rest) a w := by
  refine wpList_plain hg fun K hK' => ?_
  have e := parts1 a.eval x _ hx
  unfold Oper.wp execOp
  simp only [ho, e, Sem.run_bind, run_one k v w, Result.andThen_ok]
  exact hK' _ _ hK

/-! ### loaded, stored -/
theorem infoR : (Try.prog.info? 58).map (·.size) = some 17 := by kernel_rfl
/-- the counts lie from off on -/
theorem range_hist {w : World} {g off : Nat} {k : ByteArray} {v : Lr.V} (h : ∀ j u, (entC k v)[j]? = some u → w.cell? ⟨g, off + j, none⟩ = some u) : w.rangeAt g (off + 1) (Hi.cells v.1).toList := by
  intro j u hu
  rw [Nat.add_assoc]
  refine h (1 + j) u ?_
  rw [entC_at]
  simpa using hu
theorem run_loadHist {w : World} {g off : Nat} {v : Lr.V} (h : w.rangeAt g off (Hi.cells v.1).toList) : (Instr.loadAt 49 (.pointer (some ⟨g, off, none⟩))).run Try.prog w = .ok (.agg (Hi.cells v.1)) w := by
  have := run_loadAt_mid (P := Try.prog) w g off 49 (Hi.cells v.1).toList _ h Try.underlying49 rfl (by rw [infoH, Array.length_toList, Hi.cells_size, v.2])
  simpa using this
theorem run_loadRow {w : World} {g off : Nat} {k : ByteArray} {v : Lr.V} (h : ∀ j u, (entC k v)[j]? = some u → w.cell? ⟨g, off + j, none⟩ = some u) : (Instr.loadAt 58 (.pointer (some ⟨g, off, none⟩))).run Try.prog w = .ok (.agg (entC k v)) w := by
  have := run_loadAt_mid (P := Try.prog) w g off 58 (entC k v).toList _ (fun j u hu => h j u (by simpa using hu)) Try.underlying58 rfl (by rw [infoR, Array.length_toList, entC_size])
  simpa using this
theorem ent_range {w : World} {x : Nat} {k : ByteArray} {v : Lr.V} (h : w.heap[x]? = some (entO k v)) : w.rangeAt x 1 (Hi.cells v.1).toList := by
  have := range_hist (w := w) (g := x) (off := 0) (k := k) (v := v) (fun j u hu => by rw [Nat.zero_add, cell_of_row w x j _ _ _ h]; exact hu)
  simpa using this
/-- the counts stored into an entry -/
theorem run_storeEnt {w : World} {x : Nat} {k : ByteArray} {u : Lr.V} (v : Lr.V) (h : w.heap[x]? = some (entO k u)) : (Instr.storeAt 49 (.pointer (some ⟨x, 1, none⟩)) (.agg (Hi.cells v.1))).run Try.prog w = .ok () (w.setRow x (entC k v)) := by
  have hs := run_storeCells_at (P := Try.prog) x 1 73 (Hi.cells v.1).toList 0 (entC k u) w h (by rw [Array.length_toList, Hi.cells_size, v.2, entC_size]; exact Nat.le_refl _) (fun y hy => (Array.all_eq_true_iff_forall_mem.1 (Hi.cells_one v.1)) y (by simpa using hy))
  have he : ((entC k u).toList.take (1 + 0) ++ (Hi.cells v.1).toList ++ (entC k u).toList.drop (1 + 0 + (Hi.cells v.1).toList.length)).toArray = entC k v := by
    have h1 : (Hi.cells v.1).toList.length = 16 := by rw [Array.length_toList, Hi.cells_size, v.2]
    have h2 : (entC k u).toList = .string k :: (Hi.cells u.1).toList := by unfold entC; simp
    have h3 : (Hi.cells u.1).toList.length = 16 := by rw [Array.length_toList, Hi.cells_size, u.2]
    rw [h1, h2]
    simp [entC, List.drop_of_length_le (Nat.le_of_eq h3)]
  rw [he] at hs
  cases hq : Try.prog.info? 49 with
  | none => have := infoH; simp [hq] at this
  | some i =>
    have h16 : i.size = 16 := by have := infoH; simpa [hq] using this
    simp [Instr.storeAt, Instr.sureAddr, storeVar, sizeOf, typeInfo, hq, Value.cells, h16, Hi.cells_size, v.2, hs]
theorem entO_row {w : World} {x : Nat} {k : ByteArray} {u : Lr.V} (v : Lr.V) (h : w.heap[x]? = some (entO k u)) : (w.setRow x (entC k v)).heap[x]? = some (entO k v) := setRow_heap w x _ _ _ _ h
end Go.Proofs.Ytmdpfinadffcaaa
