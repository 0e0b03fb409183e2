/-
  The chapter's example.
-/
import Derived.Test.YtafighelgdlocaaConfI
import Derived.Laws.ResultCell
namespace Go.Proofs.Ytafighelgdlocaa
open Go.RowKit
set_option linter.unusedVariables false

def aB : ByteArray := ⟨#[97]⟩
def t1 : Nat → Cf.T := fun _ => (aB, 1, 9)
def l0 : Nat → Int := fun _ => 0
/-- the configuration of one tenant, whose row is block g -/
abbrev oneC (g : Nat) : Cf.C := ⟨some ⟨g, 0, none⟩, 1, 1, none, 0, 0, 1, 2, 3, 2, 2, 2, 1, 0, 1, 4, 5, 2, 2, 2, 50, 2, 0⟩
theorem name_a : nmB aB = true := by
  have h : Tx.runesL [97] = [97] := by
    rw [Tx.runesL_step _ (by decide)]
    rfl
  show Tx.nameL [97] = true
  unfold Tx.nameL
  rw [h]
  decide
theorem one_ok (g : Nat) : Cf.check nmB (oneC g) t1 l0 = 0 := by
  have h : Cf.tenErr nmB t1 1 = 0 := by
    unfold Cf.tenErr
    rw [if_neg (by omega)]
    simp only [Cf.tenGo, t1, name_a, Cf.seen]
    decide
  unfold Cf.check
  rw [if_neg (by rw [h]; simp)]
  rw [if_neg (by simp), if_neg (by simp [Cf.rise, Cf.C.rows, Cf.rowOk, Cf.inR])]

theorem below_setRow {B g : Nat} {w w' : World} (h : Below B w w') (hg : B ≤ g) (cs : Array Value) : Below B w (w'.setRow g cs) :=
  ⟨h.os, h.tape, h.output, by rw [setRow_size]; exact h.size, fun k hk => (setRow_other w' g k cs (by omega)).trans (h.block k hk)⟩
/-- 'x = c' where x is a configuration's cell -/
theorem wpStoreCfg {ops : Array Oper} {rest : List Oper} {o : Oper} {a : Act} {w : World} {Q : Exit → Act → World → Prop} (hgd : o.guard = none) (x y : Operand) (ho : o.op = .store 25 x y)
    (g : Nat) (c : Cf.C) (hx : a.eval x = .pointer (some ⟨g, 0, none⟩)) (hy : a.eval y = .agg c.cells) (old : Array Value) (hg : w.heap[g]? = some (.cells old 25)) (hold : old.size = 19)
    (h : wpList Try.prog ops Q rest (a.put o.dst undef) (w.setRow g c.cells)) : wpList Try.prog ops Q (o :: rest) a w :=
  wpList_store_row hgd 25 x y ho g c.cells hx hy 25 old hg infoCfg hold (by simp [Value.oneCell']) h
structure RetOne (w : World) (e : Ending) (w' : World) : Prop where
  r : ∃ g, e = .returned (oneC g).val ∧ w.heap.size ≤ g ∧ w'.heap[g]? = some (.cells #[.string aB, .int .i64 1, .int .i64 9] 47)
  b : Below w.heap.size w w'
set_option maxRecDepth 100000 in
set_option maxHeartbeats 4000000 in
theorem oneOk (w : World) : Calls Try.prog 17 #[] w (RetOne w) := by
  go_enter Try.func17, Try.ntmps17
  go_wp2_with (refine wpStoreCfg rfl _ _ rfl _ (oneC (w.heap.size + 1)) rfl rfl _ (alloc_keep _ _ _) rfl ?_)
  (try simp only [Exit.inBlock, Exit.then])
  have hg : (((w.alloc (.cells _ 25)).alloc (.cells #[.string aB, .int .i64 1, .int .i64 9] 47)).setRow w.heap.size (oneC (w.heap.size + 1)).cells).heap[w.heap.size]? = _ := setRow_heap _ _ _ _ _ _ (alloc_keep w (.cells #[.slice none 0 0, .slice none 0 0, .int .i64 0, .int .i64 0, .int .i64 0, .int .i64 0, .int .i64 0, .int .i64 0, .int .i64 0, .int .i64 0, .int .i64 0, .int .i64 0, .int .i64 0, .int .i64 0, .int .i64 0, .int .i64 0, .int .i64 0, .int .i64 0, .int .i64 0] 25) _)
  refine bodyPost_ret (v := (oneC (w.heap.size + 1)).val) ?_ rfl ?_
  · exact results_cell_row rfl _ _ _ _ _ _ _ rfl hg Try.underlying25 rfl infoCfg
  · refine ⟨⟨w.heap.size + 1, rfl, by omega, ?_⟩, below_setRow (((Below.refl _ _).alloc (Nat.le_refl _) _).alloc (by simp) _) (Nat.le_refl _) _⟩
    rw [setRow_other _ _ _ _ (by omega)]
    exact alloc2_new _ _ _

theorem one_at {w : World} {g : Nat} (h : w.heap[g]? = some (.cells #[.string aB, .int .i64 1, .int .i64 9] 47)) : CfgAt w (oneC g) t1 l0 := by
  refine ⟨Or.inr ⟨g, 0, rfl, lt_block h, fun i hi => ?_⟩, Or.inl rfl, by simp, by simp⟩
  have hi1 : i < 1 := hi
  obtain rfl : i = 0 := by omega
  exact ⟨by rw [cell_of_row w g _ _ _ _ h]; rfl, by rw [cell_of_row w g _ _ _ _ h]; rfl, by rw [cell_of_row w g _ _ _ _ h]; rfl, by decide⟩
theorem oneCheck (g : Nat) (W : World) (h : CfgAt W (oneC g) t1 l0) : Calls Try.prog 7 #[.agg (oneC g).cells] W (Ret (.int .i64 0) W) := by
  have := checkC (oneC g) t1 l0 W h
  rwa [one_ok] at this
theorem oneClasses (g : Nat) (W : World) (h : CfgAt W (oneC g) t1 l0) : Calls Try.prog 11 #[.agg (oneC g).cells] W (Ret (.int .i64 1) W) := by
  have := confClassesC (oneC g) t1 l0 W h
  rw [one_ok] at this
  exact this
theorem oneLimit (g : Nat) (W : World) (h : CfgAt W (oneC g) t1 l0) : Calls Try.prog 13 #[.agg (oneC g).cells, .int .i64 0] W (Ret (.int .i64 0) W) := by
  have := confLimitC (oneC g) t1 l0 0 W h
  rw [one_ok] at this
  exact this
theorem oneAttempts (g : Nat) (W : World) (h : CfgAt W (oneC g) t1 l0) : Calls Try.prog 15 #[.agg (oneC g).cells] W (Ret (.int .i64 2) W) := by
  have := confAttemptsC (oneC g) t1 l0 W h
  rw [one_ok] at this
  exact this
theorem numC (n : Int) (w : World) : Calls Try.prog 6 #[.int .i64 n] w (Same (.int .i64 n) w) := by
  go_enter Try.func6, Try.ntmps6
  go_wp2
  go_ret
  exact ⟨rfl, rfl⟩

/-- a configuration's box and what it holds, and what was there before -/
structure Held (w0 : World) (q : Nat) (c : Cf.C) (t : Nat → Cf.T) (l : Nat → Int) (w : World) : Prop where
  box : w.heap[q]? = some (.cells c.cells 25)
  cfg : CfgAt w c t l
  b : Below w0.heap.size w0 w
theorem Held.next {w0 : World} {q : Nat} {c : Cf.C} {t : Nat → Cf.T} {l : Nat → Int} {w w' : World} (h : Held w0 q c t l w) (hb : Below w.heap.size w w') : Held w0 q c t l w' :=
  ⟨(hb.block q (lt_block h.box)).trans h.box, h.cfg.below hb, h.b.trans (hb.mono h.b.size)⟩
theorem held_new {w0 w1 : World} {g : Nat} {old : Array Value} (hb : Below w0.heap.size w0 w1) (hg : w1.heap[g]? = some (.cells #[.string aB, .int .i64 1, .int .i64 9] 47)) :
    Held w0 w1.heap.size (oneC g) t1 l0 ((w1.alloc (.cells old 25)).setRow w1.heap.size (oneC g).cells) := by
  have hbx : Below w1.heap.size w1 ((w1.alloc (.cells old 25)).setRow w1.heap.size (oneC g).cells) := below_setRow ((Below.refl _ _).alloc (Nat.le_refl _) _) (Nat.le_refl _) _
  exact ⟨setRow_heap _ _ _ _ _ _ (heap_alloc_new _ _), (one_at hg).below hbx, hb.trans (hbx.mono hb.size)⟩

set_option maxRecDepth 100000 in
set_option maxHeartbeats 4000000 in
theorem liveOk (w : World) : Calls Try.prog 5 #[] w (Ret (.bool true) w) := by
  have K0 := Lib.hid oneOk
  have K1 := Lib.hid oneCheck
  have K2 := Lib.hid oneClasses
  have K3 := Lib.hid oneLimit
  have K4 := Lib.hid oneAttempts
  have K5 := Lib.hid numC
  go_enter Try.func5, Try.ntmps5
  go_upto_region 2 with (first | (go_at_call 17; (with_reducible refine (K0.out _).mono ?_); rintro e w1 ⟨⟨g, rfl, hg0, hg⟩, hb⟩) | (refine wpStoreCfg rfl _ _ rfl _ (oneC g) rfl rfl _ (heap_alloc_new _ _) rfl ?_))
  have hV := held_new (old := #[.slice none 0 0, .slice none 0 0, .int .i64 0, .int .i64 0, .int .i64 0, .int .i64 0, .int .i64 0, .int .i64 0, .int .i64 0, .int .i64 0, .int .i64 0, .int .i64 0, .int .i64 0, .int .i64 0, .int .i64 0, .int .i64 0, .int .i64 0, .int .i64 0, .int .i64 0]) hb hg
  generalize World.setRow _ _ _ = wS at *
  clear hb hg hg0
  go_wp2_with (first | (refine wpLoadCfg _ rfl rfl _ rfl (oneC g) hV.box ?_) | (go_at_call 7; (with_reducible refine (K1.out _ _ hV.cfg).mono ?_); rintro e wA ⟨rfl, hbA⟩; replace hV := hV.next hbA; clear hbA) | (go_at_call 11; (with_reducible refine (K2.out _ _ hV.cfg).mono ?_); rintro e wA ⟨rfl, hbA⟩; replace hV := hV.next hbA; clear hbA) | (go_at_call 13; (with_reducible refine (K3.out _ _ hV.cfg).mono ?_); rintro e wA ⟨rfl, hbA⟩; replace hV := hV.next hbA; clear hbA) | (go_at_call 15; (with_reducible refine (K4.out _ _ hV.cfg).mono ?_); rintro e wA ⟨rfl, hbA⟩; replace hV := hV.next hbA; clear hbA) | (go_at_call 6; (with_reducible refine (K5.out _ _).mono ?_); rintro e wA ⟨rfl, rfl⟩))
  go_ret
  exact ⟨rfl, hV.b⟩
end Go.Proofs.Ytafighelgdlocaa
