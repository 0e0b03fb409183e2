/-
  A ring of flows beside a look's box and a row of looks.
-/
import Derived.Test.YtgeoebodlcbebaaFcM
import Derived.Test.YtgeoebodlcbebaaRfT
namespace Go.Proofs.Ytgeoebodlcbebaa
open Go.RowKit
open Fl (Lk Mo St Wt Run costN)
set_option linter.unusedVariables false
set_option linter.unusedSimpArgs false

/-! ### a slice of one look -/
noncomputable def infoKK : TypeInfo := (Try.prog.info? 42).getD default
theorem infoKK_is : Try.prog.info? 42 = some infoKK := by kernel_rfl
noncomputable def zeroKK : Value := infoKK.zero.getD default
theorem zeroKK_is : infoKK.zero = some zeroKK := by kernel_rfl
theorem infoKK_size : infoKK.size = 12 := by kernel_rfl
theorem fill_oneK (k : Lk) : Instr.fill (fun i => some (i * 12, 12)) ((Array.range (1 * 12)).map (zeroKK.cells[· % zeroKK.cells.size]!)) [(0, .agg (lkC k))] = some (lkC k) := by
  unfold lkC
  kernel_rfl
theorem run_oneK (k : Lk) (w : World) : (Instr.buildSlice 43 1 #[(0, .agg (lkC k))]).run Try.prog w = .ok (.slice (some ⟨w.heap.size, 0, none⟩) 1 1) (w.alloc (.cells (lkC k) 42)) := by
  refine run_buildSlice w 43 42 1 _ (lkC k) infoKK zeroKK Try.underlying43 infoKK_is zeroKK_is (by rw [infoKK_size]; decide) (by rw [infoKK_size]; decide) ?_
  rw [infoKK_size]
  exact fill_oneK k
theorem partsK (ρ : Operand → Value) (x : Operand) (u : Value) (hx : ρ x = u) : (#[(0, x)].map fun (p : Nat × Operand) => (p.1, ρ p.2)) = #[(0, u)] := by simp [hx]
theorem wpOneK {ops : Array Oper} {rest : List Oper} {o : Oper} {a : Act} {w : World} {Q : Exit → Act → World → Prop} (hg : o.guard = none) (x : Operand) (ho : o.op = .buildSlice 43 1 #[(0, x)])
    (k : Lk) (hx : a.eval x = .agg (lkC k)) (hK : wpList Try.prog ops Q rest (a.put o.dst (.slice (some ⟨w.heap.size, 0, none⟩) 1 1)) (w.alloc (.cells (lkC k) 42))) : wpList Try.prog ops Q (o :: rest) a w := by
  refine wpList_plain hg fun K hK' => ?_
  have e := partsK a.eval x _ hx
  unfold Oper.wp execOp
  simp only [ho, e, Sem.run_bind, run_oneK k w, Result.andThen_ok]
  exact hK' _ _ hK
/-! ### looks that are alike -/
theorem lkC_congr {k k' : Lk} (hT : ∀ i, i < 4 → k.T i = k'.T i) (hD : ∀ i, i < 4 → k.D i = k'.D i) (hW : ∀ i, i < 4 → k.W i = k'.W i) : lkC k = lkC k' := by
  unfold lkC
  rw [hT 0 (by decide), hT 1 (by decide), hT 2 (by decide), hT 3 (by decide), hD 0 (by decide), hD 1 (by decide), hD 2 (by decide), hD 3 (by decide), hW 0 (by decide), hW 1 (by decide), hW 2 (by decide), hW 3 (by decide)]
def setT (k : Lk) (i : Nat) (v : Int) : Lk := { k with T := fun z => if z = i then v else k.T z }
def setD (k : Lk) (i : Nat) (v : Int) : Lk := { k with D := fun z => if z = i then v else k.D z }
def setW (k : Lk) (i : Nat) (v : Bool) : Lk := { k with W := fun z => if z = i then v else k.W z }
theorem lkC_setT (k : Lk) {i : Nat} (h : i < 4) (v : Int) : (lkC k).setIfInBounds i (.int .i64 v) = lkC (setT k i v) := by
  rcases i with _ | _ | _ | _ | i
  all_goals first | rfl | omega
theorem lkC_setD (k : Lk) {i : Nat} (h : i < 4) (v : Int) : (lkC k).setIfInBounds (4 + i) (.int .i64 v) = lkC (setD k i v) := by
  rcases i with _ | _ | _ | _ | i
  all_goals first | rfl | omega
theorem lkC_setW (k : Lk) {i : Nat} (h : i < 4) (v : Bool) : (lkC k).setIfInBounds (8 + i) (.bool v) = lkC (setW k i v) := by
  rcases i with _ | _ | _ | _ | i
  all_goals first | rfl | omega
/-- the ring, the box of the look of now, the row of looks, other boxes: apart -/
structure FQ (w0 : World) (P n : Nat) (s : Fl.St) (X : Nat) (k : Lk) (o : Value) (ls : List Lk) (bx : List (Nat × Obj)) (W : World) : Prop where
  st : ∃ F, FIs W w0.heap.size P s F ∧ ¬ F X ∧ (∀ g, o.ownBlock = some g → ¬ F g) ∧ ∀ p ∈ bx, W.heap[p.1]? = some p.2 ∧ ¬ F p.1 ∧ p.1 ≠ X ∧ o.ownBlock ≠ some p.1
  b : Below w0.heap.size w0 W
  g : Fl.Good s
  lm : Fl.Lim 64 s
  sm : Fl.Small n s
  x : W.heap[X]? = some (boxL k)
  row : eltK.Row W w0.heap.size o ls
  a : o.ownBlock ≠ some X
  l : w0.heap.size ≤ X
section
variable {w0 W W' : World} {P n : Nat} {s s' : Fl.St} {X : Nat} {k : Lk} {o : Value} {ls : List Lk} {bx : List (Nat × Obj)}
theorem FQ.below (h : FQ w0 P n s X k o ls bx W) (hb : Below W.heap.size W W') : FQ w0 P n s X k o ls bx W' := by
  obtain ⟨F, h1, h2, h3, h4⟩ := h.st
  exact ⟨⟨F, h1.below hb, h2, h3, fun p hp => ⟨(hb.block p.1 (lt_block (h4 p hp).1)).trans (h4 p hp).1, (h4 p hp).2⟩⟩, h.b.trans (hb.mono h.b.size), h.g, h.lm, h.sm, (hb.block X (lt_block h.x)).trans h.x, h.row.below hb, h.a, h.l⟩
theorem FQ.did {r : Value} {F : Nat → Prop} {e : Ending} {n' : Nat} (h : FQ w0 P n s X k o ls bx W) (h1 : FIs W w0.heap.size P s F) (h2 : ¬ F X) (h3 : ∀ g, o.ownBlock = some g → ¬ F g) (h4 : ∀ p ∈ bx, W.heap[p.1]? = some p.2 ∧ ¬ F p.1 ∧ p.1 ≠ X ∧ o.ownBlock ≠ some p.1) (hr : RetF r w0.heap.size P s' F W e W') (hg : Fl.Good s') (hl : Fl.Lim 64 s') (hz : Fl.Small n' s') : e = .returned r ∧ FQ w0 P n' s' X k o ls bx W' := by
  obtain ⟨F', g1, g2⟩ := hr.s
  have hn : ∀ j, j < W.heap.size → ¬ F j → ¬ F' j := fun j hj hf hf' => by
    rcases g2 j hf' with e | e
    · exact hf e
    · omega
  exact ⟨hr.r, ⟨F', g1, hn X (lt_block h.x) h2, fun g hgo => hn g (h.row.lt g hgo).2 (h3 g hgo), fun p hp => ⟨hr.c.keep (h4 p hp).1 (h4 p hp).2.1, hn _ (lt_block (h4 p hp).1) (h4 p hp).2.1, (h4 p hp).2.2⟩⟩, h.b.trans (hr.c.below (fun j hj => (h1.lt j hj).1) h.b.size), hg, hl, hz, hr.c.keep h.x h2, h.row.keep (fun g hgo => hr.c.block g (h.row.lt g hgo).2 (h3 g hgo)), h.a, h.l⟩
theorem FQ.box (h : FQ w0 P n s X k o ls bx W) (ob : Obj) : FQ w0 P n s X k o ls ((W.heap.size, ob) :: bx) (W.alloc ob) := by
  have hb : Below W.heap.size W (W.alloc ob) := (Below.refl _ _).alloc (Nat.le_refl _) _
  have h' := h.below hb
  obtain ⟨F, h1, h2, h3, h4⟩ := h.st
  refine ⟨⟨F, h1.below hb, h2, h3, fun p hp => ?_⟩, h'.b, h.g, h.lm, h.sm, h'.x, h'.row, h.a, h.l⟩
  rcases List.mem_cons.1 hp with e | hp
  · subst e
    exact ⟨heap_alloc_new _ _, fun hf => by have := (h1.lt _ hf).2; omega, fun e => by have := lt_block h.x; have e : W.heap.size = X := e; omega, fun e => by have := (h.row.lt _ e).2; exact absurd this (Nat.lt_irrefl _)⟩
  · exact ⟨(hb.block p.1 (lt_block (h4 p hp).1)).trans (h4 p hp).1, (h4 p hp).2⟩
theorem FQ.at_ (h : FQ w0 P n s X k o ls bx W) {j : Nat} {ob : Obj} (hm : (j, ob) ∈ bx) : W.heap[j]? = some ob := by
  obtain ⟨F, h1, h2, h3, h4⟩ := h.st
  exact (h4 _ hm).1
theorem FQ.fewer {bx' : List (Nat × Obj)} (h : FQ w0 P n s X k o ls bx W) (hs : ∀ p ∈ bx', p ∈ bx) : FQ w0 P n s X k o ls bx' W := by
  obtain ⟨F, h1, h2, h3, h4⟩ := h.st
  exact ⟨⟨F, h1, h2, h3, fun p hp => h4 p (hs p hp)⟩, h.b, h.g, h.lm, h.sm, h.x, h.row, h.a, h.l⟩
theorem FQ.mono {m : Nat} (h : FQ w0 P n s X k o ls bx W) (hm : n ≤ m) : FQ w0 P m s X k o ls bx W := ⟨h.st, h.b, h.g, h.lm, h.sm.mono hm, h.x, h.row, h.a, h.l⟩
theorem FQ.like {k' : Lk} (h : FQ w0 P n s X k o ls bx W) (e : lkC k = lkC k') : FQ w0 P n s X k' o ls bx W := ⟨h.st, h.b, h.g, h.lm, h.sm, by rw [h.x]; show some (Obj.cells (lkC k) _) = some (Obj.cells (lkC k') _); rw [e], h.row, h.a, h.l⟩
/-- a cell of the look stored -/
theorem FQ.set {k' : Lk} {i : Nat} {u : Value} (h : FQ w0 P n s X k o ls bx W) (he : (lkC k).setIfInBounds i u = lkC k') : FQ w0 P n s X k' o ls bx (W.setCell ⟨X, i, none⟩ u) := by
  obtain ⟨F, h1, h2, h3, h4⟩ := h.st
  have e := setCell_eq_setRow W X i (lkC k) 42 (0, 0) u h.x
  rw [e, he]
  have ho : ∀ j, j ≠ X → (W.setRow X (lkC k')).heap[j]? = W.heap[j]? := fun j hj => setRow_other W X j _ hj
  refine ⟨⟨F, h1.keep (fun j hj => ho j (fun e => h2 (e ▸ hj))), h2, h3, fun p hp => ⟨(ho p.1 (h4 p hp).2.2.1).trans (h4 p hp).1, (h4 p hp).2⟩⟩, below_row h.b h.l _, h.g, h.lm, h.sm, setRow_heap _ _ _ _ _ _ h.x, h.row.keep (fun g hgo => ho g (fun e => h.a (e ▸ hgo))), h.a, h.l⟩
/-- a look appended -/
theorem FQ.app {o' : Value} {y : Lk} (h : FQ w0 P n s X k o ls bx W) (hrow : eltK.Row W' w0.heap.size o' (ls ++ [y])) (hb : Below w0.heap.size W W') (hkeep : ∀ j, j < W.heap.size → some j ≠ o.ownBlock → W'.heap[j]? = W.heap[j]?) (hlies : ∀ j, o'.ownBlock = some j → o.ownBlock = some j ∨ W.heap.size ≤ j) : FQ w0 P n s X k o' (ls ++ [y]) bx W' := by
  obtain ⟨F, h1, h2, h3, h4⟩ := h.st
  have hne : ∀ j, j < W.heap.size → o.ownBlock ≠ some j → o'.ownBlock ≠ some j := fun j hj ho e => by
    rcases hlies j e with e | e
    · exact ho e
    · omega
  refine ⟨⟨F, h1.keep (fun j hj => hkeep j (h1.lt j hj).2 (fun e => h3 j e.symm hj)), h2, fun g hgo hf => ?_, fun p hp => ⟨(hkeep p.1 (lt_block (h4 p hp).1) (fun e => (h4 p hp).2.2.2 e.symm)).trans (h4 p hp).1, (h4 p hp).2.1, (h4 p hp).2.2.1, hne _ (lt_block (h4 p hp).1) (h4 p hp).2.2.2⟩⟩, h.b.trans hb, h.g, h.lm, h.sm, (hkeep X (lt_block h.x) (fun e => h.a e.symm)).trans h.x, hrow, hne X (lt_block h.x) h.a, h.l⟩
  rcases hlies g hgo with e | e
  · exact h3 g e hf
  · have := (h1.lt g hf).2; omega
end
section
variable {w0 : World} {P n : Nat} {s : Fl.St} {X : Nat} {k : Lk} {o : Value} {ls : List Lk} {bx : List (Nat × Obj)}
theorem fq2_push (f wt id co : Int) (W : World) (h : FQ w0 P n s X k o ls bx W) (hf : (Lit.int .i64 f).wf = true) (hid : (Lit.int .i64 id).wf = true) (hn : n ≤ 1000) :
    Calls Try.prog 15 #[.pointer (some ⟨P, 0, none⟩), .int .i64 f, .int .i64 wt, .agg #[.int .i64 id, .int .i64 co]] W fun e W' => e = .returned (.int .i64 (s.pushE f wt id co)) ∧ FQ w0 P (n + 1) (s.push f wt id co) X k o ls bx W' := by
  obtain ⟨F, h1, h2, h3, h4⟩ := h.st
  exact (flPushC _ P s F f wt id co W h1 h.g (h.sm.mono (by omega)) h.b.size hf hid).mono fun e W' hr => h.did h1 h2 h3 h4 hr (h.g.push (wf_i64 hf).2 (wf_i64 hid).2) (h.lm.push h.g (by decide) pushE_co) (h.sm.push h.g f wt id co)
theorem fq2_pick (W : World) (h : FQ w0 P n s X k o ls bx W) (hn : n ≤ 1000) :
    Calls Try.prog 17 #[.pointer (some ⟨P, 0, none⟩)] W fun e W' => e = .returned (tkV s.takeV) ∧ FQ w0 P n s.pick X k o ls bx W' := by
  obtain ⟨F, h1, h2, h3, h4⟩ := h.st
  obtain ⟨g1, g2, _⟩ := h.g.pick h.lm
  exact (flPickC _ P s F W h1 h.g h.lm (h.sm.mono (by omega))).mono fun e W' hr => h.did h1 h2 h3 h4 hr g1 g2 (h.sm.pick h.g h.lm)
theorem fq2_take (W : World) (h : FQ w0 P n s X k o ls bx W) (hn : n ≤ 1000) :
    Calls Try.prog 16 #[.pointer (some ⟨P, 0, none⟩)] W fun e W' => e = .returned (tkV s.takeV) ∧ FQ w0 P n s.take X k o ls bx W' := by
  obtain ⟨F, h1, h2, h3, h4⟩ := h.st
  exact (flTakeC _ P s F W h1 h.g h.lm (h.sm.mono (by omega)) h.b.size).mono fun e W' hr => h.did h1 h2 h3 h4 hr (h.g.take h.lm) (h.lm.take h.g h.lm) (h.sm.take h.g h.lm)
theorem fq2_drop (f id : Int) (W : World) (h : FQ w0 P n s X k o ls bx W) (hf : (Lit.int .i64 f).wf = true) (hid : (Lit.int .i64 id).wf = true) (hn : n ≤ 1000) :
    Calls Try.prog 18 #[.pointer (some ⟨P, 0, none⟩), .int .i64 f, .int .i64 id] W fun e W' => e = .returned (.bool (s.dropB f id)) ∧ FQ w0 P n (s.drop f id) X k o ls bx W' := by
  obtain ⟨F, h1, h2, h3, h4⟩ := h.st
  exact (flDropC _ P s F f id W h1 h.g (h.sm.mono (by omega)) h.b.size hf hid).mono fun e W' hr => h.did h1 h2 h3 h4 hr (h.g.drop f id) (h.lm.drop h.g f id) (h.sm.drop f id)
/-- 'Len(i) > 0' -/
theorem fq2_len (i : Nat) (hi : i < 4) (W : World) (h : FQ w0 P n s X k o ls bx W) (hn : n ≤ 1000) :
    Calls Try.prog 12 #[.pointer (some ⟨P, 0, none⟩), .int .i64 (i : Int)] W fun e W' => ∃ N : Int, e = .returned (.int .i64 N) ∧ decide (N > 0) = (Fl.row s.l i).isSome ∧ Hid (FQ w0 P n s X k o ls bx W') := by
  obtain ⟨F, h1, h2, h3, h4⟩ := h.st
  refine (flLenC _ P s F (i : Int) W h1 (wf_i64' (by omega) (by omega)) (h.sm.mono (by omega))).mono fun e W' hr => ⟨lenOf s.l i, hr.e, ?_, Lib.hid (h.below hr.b)⟩
  unfold lenOf
  cases hrw : Fl.row s.l i with
  | none => simp
  | some r =>
    have := (h.g.ok r (Fl.row_mem hrw).1).ne
    have := List.length_pos_iff.2 this
    simp; omega
end
end Go.Proofs.Ytgeoebodlcbebaa
