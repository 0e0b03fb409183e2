/-
  A history: a row added.
-/
import Derived.Test.YtmdpfinadffcaaaHyE
namespace Go.Proofs.Ytmdpfinadffcaaa
open Go.RowKit
set_option linter.unusedVariables false

abbrev rowO (k : ByteArray) (v : Lr.V) : Obj := .cells (entC k v) 58
theorem stepStoreB {ops : Array Oper} {o : Oper} {a : Act} {w : World} {K : Act → World → Prop} {Q : Exit → Act → World → Prop} {X : Prop} {g : Nat} {old : List Int} (h : Bx w g old) {l : List Int} (hl : l.length = 16) (x y : Operand) (ho : o.op = .store 49 x y) (hw : Region.wanted o (yielded ops a.tmps) = true)
    (hx : a.eval x = .pointer (some ⟨g, 0, none⟩)) (hy : a.eval y = .agg (Hi.cells l)) (hK : K (a.put o.dst undef) (w.setRow g (Hi.cells l))) : if Region.wanted o (yielded ops a.tmps) = true then Oper.wp Try.prog o a w K Q else X := by
  rw [if_pos hw]
  exact wp_store_row 49 x y ho g (Hi.cells l) hx hy 49 (Hi.cells old) h.h (by rw [infoH, Hi.cells_size, hl]) (by rw [Hi.cells_size, Hi.cells_size, h.n, hl]) (Hi.cells_one l) hK
theorem yieldMid {w : World} {ρ : Operand → Value} {o : Oper} {x : Operand} {g off : Nat} {v : Lr.V} (ho : o.op = .load 49 x) (hx : ρ x = .pointer (some ⟨g, off, none⟩)) (h : w.rangeAt g off (Hi.cells v.1).toList) : (execOp ρ o).run Try.prog w = .ok (.value (.agg (Hi.cells v.1))) w := by
  unfold execOp
  simp only [ho, hx, Sem.run_bind, run_loadHist h, Result.andThen_ok]
  rfl
theorem row_range {w : World} {x : Nat} {k : ByteArray} {v : Lr.V} (h : w.heap[x]? = some (rowO k v)) : w.rangeAt x 1 (Hi.cells v.1).toList := by
  have := range_hist (w := w) (g := x) (off := 0) (k := k) (v := v) (fun j u hu => by rw [Nat.zero_add, cell_of_row w x j _ _ _ h]; exact hu)
  simpa using this
/-- a block that is no history's is stored into -/
theorem HyQ.row {B T P : Nat} {room : Int} {l : List Lr.E} {F0 : Nat → Prop} {w0 w : World} (h : HyQ B T P room l F0 w0 w) {k : Nat} (hk : k ≠ T ∧ ¬ F0 k ∧ w0.heap.size ≤ k) (cs : Array Value) : HyQ B T P room l F0 w0 (w.setRow k cs) :=
  ⟨(setRow_other _ _ _ _ (Ne.symm hk.1)).trans h.t, h.s.keep (fun i hi => setRow_other _ _ _ _ (fun e => hk.2.1 (by rw [← e]; exact hi))), h.n, h.z, below_row h.b hk.2.2 cs⟩
/-- what adding a row does -/
structure AddR (B T : Nat) (room : Int) (l : List Lr.E) (key : ByteArray) (v : Lr.V) (F : Nat → Prop) (w : World) (e : Ending) (w' : World) : Prop where
  no : ¬ (Lr.find l key = none ∧ Hy.okE (key, v) = true) → RetHy (.bool false) B T room l F w e w'
  yes : Lr.find l key = none ∧ Hy.okE (key, v) = true → RetHy (.bool true) B T room (Lr.put room l key v).1 F w e w'
set_option maxRecDepth 100000 in
set_option maxHeartbeats 8000000 in
theorem addRowC (B T : Nat) (room : Int) (l : List Lr.E) (F : Nat → Prop) (key : ByteArray) (v : Lr.V) (w : World) (h : HIs w B T room l F) (hk : key.size ≤ 140737488351232) (hl : l.length ≤ 1000000) (hr : (l.length : Int) ≤ room) (hB : B ≤ w.heap.size) :
    Calls Try.prog 25 #[.pointer (some ⟨T, 0, none⟩), .agg (entC key v)] w (AddR B T room l key v F w) := by
  obtain ⟨P, F0, h1, h2, h3, h4, h5⟩ := h
  have hF0 : ∀ k, F0 k → k < w.heap.size := fun k hk => (h2.lt k hk).2
  have hT := lt_block h1
  have Q00 : HyQ B T P room l F0 w w := ⟨h1, h2, h3, h4, Below.refl _ _⟩
  have Q0 : HyQ B T P room l F0 w (w.alloc (rowO key v)).drew := Q00.next (((Below.refl _ _).alloc (Nat.le_refl _) _).drew)
  have hR : (w.alloc (rowO key v)).drew.heap[w.heap.size]? = some (rowO key v) := heap_alloc_new w (rowO key v)
  have HRW := Lib.hid (fun W k (q : HyQ B T P room l F0 w W) (hk : w.heap.size ≤ k) cs => q.row ⟨by omega, fun hf => by have := hF0 k hf; omega, hk⟩ cs)
  have K1 := Lib.hid (fun W (q : HyQ B T P room l F0 w W) => peekC B P room l F0 key W q.s hk)
  have K2 := Lib.hid (fun W => rightC v.1 v.2 W)
  have heq : ∀ W, (Op.equalIn 10000 49 (.agg (Hi.cells v.1)) (.agg #[.int .i64 0, .int .i64 0, .int .i64 0, .int .i64 0, .int .i64 0, .int .i64 0, .int .i64 0, .int .i64 0, .int .i64 0, .int .i64 0, .int .i64 0, .int .i64 0, .int .i64 0, .int .i64 0, .int .i64 0, .int .i64 0])).run Try.prog W = .ok (decide (v = Lr.zero)) W := fun W => run_eqV v Lr.zero W
  have K3 := Lib.hid (fun W (q : HyQ B T P room l F0 w W) (hR : W.heap[w.heap.size]? = some (rowO key v)) => (putC B P room l F0 key v W q.s hk hl hr (Nat.le_trans hB q.b.size)).mono (R' := fun e w' => e = .returned (goneV (Lr.put room l key v).2) ∧ Hid ((w'.heap[T]? = some (tabO P) ∧ w'.heap[w.heap.size]? = some (rowO key v)) ∧ RetHy (.bool true) B T room (Lr.put room l key v).1 F w (.returned (.bool true)) w')) fun e w' hr2 => ⟨hr2.r, Lib.hid ⟨⟨(q.put (v := .bool true) h5 hr2).1, hr2.c.keep hR (fun hf => by have := hF0 _ hf; omega)⟩, (q.put (v := .bool true) h5 hr2).2⟩⟩)
  have hcond : (Lr.find l key = none ∧ Hy.okE (key, v) = true) ↔ ((Lr.find l key).isSome = false ∧ Hi.ok v.1 = true ∧ decide (v = Lr.zero) = false) := by
    unfold Hy.okE
    cases Lr.find l key <;> simp
  have FNO := Lib.hid (fun W' (q : HyQ B T P room l F0 w W') (hn : ¬ ((Lr.find l key).isSome = false ∧ Hi.ok v.1 = true ∧ decide (v = Lr.zero) = false)) => (show AddR B T room l key v F w (.returned (.bool false)) W' from
    ⟨fun _ => ⟨rfl, ⟨_, q.is, fun k hk => Or.inl ((h5 k).2 hk)⟩, Chg.of_below q.b⟩, fun hy => absurd (hcond.1 hy) hn⟩))
  have FYES := Lib.hid (fun W' (hy : (Lr.find l key).isSome = false ∧ Hi.ok v.1 = true ∧ decide (v = Lr.zero) = false) (hr : RetHy (.bool true) B T room (Lr.put room l key v).1 F w (.returned (.bool true)) W') => (show AddR B T room l key v F w (.returned (.bool true)) W' from
    ⟨fun hn => absurd (hcond.2 hy) hn, fun _ => hr⟩))
  have hv : gotV (Lr.find l key) = .tuple #[.agg (Hi.cells (Hy.valOf l key).1), .bool (Lr.find l key).isSome] := rfl
  rw [hv] at K1
  unfold goneV at K3
  have HQ := Lib.hid Q0
  have hS := And.intro Q0.t hR
  clear h1 h2 h3 h4 h5 hF0 hT Q00 Q0 hcond hv
  generalize Hy.valOf l key = u at *
  generalize (Lr.find l key).isSome = q at *
  generalize Hi.ok v.1 = o at *
  generalize decide (v = Lr.zero) = z at *
  generalize (Lr.put room l key v).2.getD .empty = gs at *
  generalize (Lr.put room l key v).2.isSome = gb at *
  go_enter Try.func25, Try.ntmps25
  go_upto_region 1 with fail
  refine wp_region_any (by kernel_rfl) ?_
  change wpAny _ _ _ _ _ _ _ (World.drew _)
  refine wpAny_of_held (S := fun W => W.heap[T]? = some (tabO P) ∧ W.heap[w.heap.size]? = some (rowO key v)) _ _ _ _ ?_
  refine takeH 0 8 ?_ rfl rfl (by kernel_rfl) (by kernel_rfl) (by kernel_rfl) (fun _ _ _ h => h) (Or.inl ⟨by kernel_rfl, ?_⟩) hS ?_; rotate_left; (intro w' hw; first | (go_simp; done) | (go_simp; with_reducible rfl)); rotate_left
  try simp only [List.setIfInBounds_toArray, List.set_cons_zero, List.set_cons_succ]
  refine takeH 1 9 ?_ rfl rfl (by kernel_rfl) (by kernel_rfl) (by kernel_rfl) (fun _ _ _ h => h) (Or.inl ⟨by kernel_rfl, ?_⟩) hS ?_; rotate_left; (intro w' hw; first | (go_simp; done) | (go_simp; with_reducible rfl)); rotate_left
  try simp only [List.setIfInBounds_toArray, List.set_cons_zero, List.set_cons_succ]
  refine takeH 2 10 ?_ rfl rfl (by kernel_rfl) (by kernel_rfl) (by kernel_rfl) (fun _ _ _ h => h) (Or.inl ⟨by kernel_rfl, ?_⟩) hS ?_; rotate_left; (intro w' hw; first | (go_simp; done) | (go_simp; with_reducible rfl)); rotate_left
  try simp only [List.setIfInBounds_toArray, List.set_cons_zero, List.set_cons_succ]
  refine takeH 3 11 ?_ rfl rfl (by kernel_rfl) (by kernel_rfl) (by kernel_rfl) (fun _ _ _ h => h) (Or.inl ⟨by kernel_rfl, ?_⟩) hS ?_; rotate_left; (intro w' hw; have hc0 : w'.cell? ⟨T, 0, none⟩ = some (.pointer (some ⟨P, 0, none⟩)) := (by rw [cell_of_row _ _ _ _ _ _ hw.1]; rfl); first | (go_simp; done) | (go_simp; with_reducible rfl)); rotate_left
  try simp only [List.setIfInBounds_toArray, List.set_cons_zero, List.set_cons_succ]
  refine takeH 4 12 ?_ rfl rfl (by kernel_rfl) (by kernel_rfl) (by kernel_rfl) (fun _ _ _ h => h) (Or.inl ⟨by kernel_rfl, ?_⟩) hS ?_; rotate_left; (intro w' hw; first | (go_simp; done) | (go_simp; with_reducible rfl)); rotate_left
  try simp only [List.setIfInBounds_toArray, List.set_cons_zero, List.set_cons_succ]
  refine takeH 5 13 ?_ rfl rfl (by kernel_rfl) (by kernel_rfl) (by kernel_rfl) (fun _ _ _ h => h) (Or.inl ⟨by kernel_rfl, ?_⟩) hS ?_; rotate_left; (intro w' hw; have hc0 : w'.cell? ⟨w.heap.size, 0, none⟩ = some (.string key) := (by rw [cell_of_row _ _ _ _ _ _ hw.2]; exact entC_key key v); first | (go_simp; done) | (go_simp; with_reducible rfl)); rotate_left
  try simp only [List.setIfInBounds_toArray, List.set_cons_zero, List.set_cons_succ]
  refine wpAnyH_ready (rs := [6, 10]) (by kernel_rfl) (by simp) ?_; refine AllReadyH.cons rfl (fun K4 hK => ?_) (AllReadyH.cons rfl (fun K4 hK => ?_) AllReadyH.nil)
  · go_simp; go_wp2_with (go_at_call 42; (with_reducible refine (K1.out _ HQ.out).mono ?_); rintro e wA ⟨rfl, hb⟩; replace HQ := Lib.hid (HQ.out.next hb); replace hR := (hb.block _ (lt_block hR)).trans hR; replace hS := (And.intro HQ.out.t hR); clear hb); refine hK.out _ _ ?_ (fun _ => ?_); (exact hS); clear hK K4
    refine takeH 7 7 ?_ rfl rfl (by kernel_rfl) (by kernel_rfl) (by kernel_rfl) (fun _ _ _ h => h) (Or.inl ⟨by kernel_rfl, ?_⟩) hS ?_; rotate_left; (intro w' hw; first | (go_simp; done) | (go_simp; with_reducible rfl)); rotate_left
    try simp only [List.setIfInBounds_toArray, List.set_cons_zero, List.set_cons_succ]
    refine takeH 8 15 ?_ rfl rfl (by kernel_rfl) (by kernel_rfl) (by kernel_rfl) (fun _ _ _ h => h) (Or.inl ⟨by kernel_rfl, ?_⟩) hS ?_; rotate_left; (intro w' hw; first | (go_simp; done) | (go_simp; with_reducible rfl)); rotate_left
    try simp only [List.setIfInBounds_toArray, List.set_cons_zero, List.set_cons_succ]
    refine takeH 9 16 ?_ rfl rfl (by kernel_rfl) (by kernel_rfl) (by kernel_rfl) (fun _ _ _ h => h) (Or.inl ⟨by kernel_rfl, ?_⟩) hS ?_; rotate_left; (intro w' hw; first | (go_simp; done) | (go_simp; with_reducible rfl)); rotate_left
    try simp only [List.setIfInBounds_toArray, List.set_cons_zero, List.set_cons_succ]
    have BZ := Lib.hid (zeros_new wA)
    refine wpAnyH_ready (rs := [10]) (by kernel_rfl) (by simp) ?_; refine AllReadyH.cons rfl (fun K4 hK => ?_) AllReadyH.nil; go_simp; have HQ' := Lib.hid (HQ.out.next ((Below.refl _ _).alloc (Nat.le_refl _) zb)); have hR' := (Lib.alloc_old _ zb _ (lt_block hR)).trans hR; replace hS := (And.intro HQ'.out.t hR'); refine hK.out _ _ ?_ (fun _ => ?_); (exact hS); clear hK K4
    refine wpAnyH_ready (rs := [11]) (by kernel_rfl) (by simp) ?_; refine AllReadyH.cons rfl (fun K4 hK => ?_) AllReadyH.nil; refine stepStoreB BZ.out (l := u.1) u.2 _ _ rfl rfl rfl rfl ?_; have HLT : Hid (T < wA.heap.size ∧ w.heap.size < wA.heap.size) := Lib.hid ⟨lt_block HQ.out.t, lt_block hR⟩; have HQ2 := Lib.hid (HRW.out _ wA.heap.size HQ'.out (by have := HLT.out; omega) (Hi.cells u.1)); have hR2 : ((wA.alloc zb).setRow wA.heap.size (Hi.cells u.1)).heap[w.heap.size]? = some (rowO key v) := (setRow_other _ _ _ _ (Nat.ne_of_lt HLT.out.2)).trans hR'; replace hS := (And.intro HQ2.out.t hR2); refine hK.out _ _ ?_ (fun _ => ?_); (exact hS); clear hK K4
    refine takeH 12 6 ?_ rfl rfl (by kernel_rfl) (by kernel_rfl) (by kernel_rfl) (fun _ _ _ h => h) (Or.inl ⟨by kernel_rfl, ?_⟩) hS ?_; rotate_left; (intro w' hw; first | (go_simp; done) | (go_simp; with_reducible rfl)); rotate_left
    try simp only [List.setIfInBounds_toArray, List.set_cons_zero, List.set_cons_succ]
    refine wpAnyH_done (by kernel_rfl) ?_ _
    obtain ⟨W2, hW2⟩ : ∃ W2, W2 = (wA.alloc zb).setRow wA.heap.size (Hi.cells u.1) := ⟨_, rfl⟩
    rw [← hW2] at HQ2 hR2 ⊢
    clear hW2 HQ HQ' hR hR' BZ hS HLT
    cases q with
    | true =>
      go_wp2
      go_ret
      exact FNO.out _ HQ2.out (by simp)
    | false =>
      cases o with
      | false =>
        go_wp2_with (first | (refine loadM (row_range hR3) _ rfl rfl rfl ?_) | (refine loadM (row_range hR2) _ rfl rfl rfl ?_) | (go_at_call 38; (with_reducible refine (K2.out _).mono ?_); rintro e wC ⟨rfl, hb⟩; have HQ3 := Lib.hid (HQ2.out.next hb); have hR3 := (hb.block _ (lt_block hR2)).trans hR2; clear hb))
        go_ret
        exact FNO.out _ HQ3.out (by simp)
      | true =>
        cases z with
        | true =>
          go_wp2_with (first | (refine loadM (row_range hR3) _ rfl rfl rfl ?_) | (refine loadM (row_range hR2) _ rfl rfl rfl ?_) | (go_at_call 38; (with_reducible refine (K2.out _).mono ?_); rintro e wC ⟨rfl, hb⟩; have HQ3 := Lib.hid (HQ2.out.next hb); have hR3 := (hb.block _ (lt_block hR2)).trans hR2; clear hb))
          go_ret
          exact FNO.out _ HQ3.out (by simp)
        | false =>
          go_upto_region 4 with (first | (refine loadM (row_range hR3) _ rfl rfl rfl ?_) | (refine loadM (row_range hR2) _ rfl rfl rfl ?_) | (go_at_call 38; (with_reducible refine (K2.out _).mono ?_); rintro e wC ⟨rfl, hb⟩; have HQ3 := Lib.hid (HQ2.out.next hb); have hR3 := (hb.block _ (lt_block hR2)).trans hR2; clear hb))
          replace HQ3 := Lib.hid (HQ3.out.next (Below.refl _ _).drew)
          replace hR3 : wC.drew.heap[w.heap.size]? = some (rowO key v) := hR3
          refine wp_region_any (by kernel_rfl) ?_
          change wpAny _ _ _ _ _ _ _ (World.drew _)
          refine wpAny_of_held (S := fun W => W.heap[T]? = some (tabO P) ∧ W.heap[w.heap.size]? = some (rowO key v)) _ _ _ _ ?_
          have hS := And.intro HQ3.out.t hR3
          refine takeH 0 30 ?_ rfl rfl (by kernel_rfl) (by kernel_rfl) (by kernel_rfl) (fun _ _ _ h => h) (Or.inl ⟨by kernel_rfl, ?_⟩) hS ?_; rotate_left; (intro w' hw; first | (go_simp; done) | (go_simp; with_reducible rfl)); rotate_left
          try simp only [List.setIfInBounds_toArray, List.set_cons_zero, List.set_cons_succ]
          refine takeH 1 31 ?_ rfl rfl (by kernel_rfl) (by kernel_rfl) (by kernel_rfl) (fun _ _ _ h => h) (Or.inl ⟨by kernel_rfl, ?_⟩) hS ?_; rotate_left; (intro w' hw; first | (go_simp; done) | (go_simp; with_reducible rfl)); rotate_left
          try simp only [List.setIfInBounds_toArray, List.set_cons_zero, List.set_cons_succ]
          refine takeH 2 32 ?_ rfl rfl (by kernel_rfl) (by kernel_rfl) (by kernel_rfl) (fun _ _ _ h => h) (Or.inl ⟨by kernel_rfl, ?_⟩) hS ?_; rotate_left; (intro w' hw; first | (go_simp; done) | (go_simp; with_reducible rfl)); rotate_left
          try simp only [List.setIfInBounds_toArray, List.set_cons_zero, List.set_cons_succ]
          refine takeH 3 33 ?_ rfl rfl (by kernel_rfl) (by kernel_rfl) (by kernel_rfl) (fun _ _ _ h => h) (Or.inl ⟨by kernel_rfl, ?_⟩) hS ?_; rotate_left; (intro w' hw; have hc0 : w'.cell? ⟨T, 0, none⟩ = some (.pointer (some ⟨P, 0, none⟩)) := (by rw [cell_of_row _ _ _ _ _ _ hw.1]; rfl); first | (go_simp; done) | (go_simp; with_reducible rfl)); rotate_left
          try simp only [List.setIfInBounds_toArray, List.set_cons_zero, List.set_cons_succ]
          refine takeH 4 34 ?_ rfl rfl (by kernel_rfl) (by kernel_rfl) (by kernel_rfl) (fun _ _ _ h => h) (Or.inl ⟨by kernel_rfl, ?_⟩) hS ?_; rotate_left; (intro w' hw; first | (go_simp; done) | (go_simp; with_reducible rfl)); rotate_left
          try simp only [List.setIfInBounds_toArray, List.set_cons_zero, List.set_cons_succ]
          refine takeH 5 35 ?_ rfl rfl (by kernel_rfl) (by kernel_rfl) (by kernel_rfl) (fun _ _ _ h => h) (Or.inl ⟨by kernel_rfl, ?_⟩) hS ?_; rotate_left; (intro w' hw; have hc0 : w'.cell? ⟨w.heap.size, 0, none⟩ = some (.string key) := (by rw [cell_of_row _ _ _ _ _ _ hw.2]; exact entC_key key v); first | (go_simp; done) | (go_simp; with_reducible rfl)); rotate_left
          try simp only [List.setIfInBounds_toArray, List.set_cons_zero, List.set_cons_succ]
          refine takeH 6 36 ?_ rfl rfl (by kernel_rfl) (by kernel_rfl) (by kernel_rfl) (fun _ _ _ h => h) (Or.inl ⟨by kernel_rfl, ?_⟩) hS ?_; rotate_left; (intro w' hw; first | (go_simp; done) | (go_simp; with_reducible rfl)); rotate_left
          try simp only [List.setIfInBounds_toArray, List.set_cons_zero, List.set_cons_succ]
          refine takeH 7 37 ?_ rfl rfl (by kernel_rfl) (by kernel_rfl) (by kernel_rfl) (fun _ _ _ h => h) (Or.inl ⟨by kernel_rfl, ?_⟩) hS ?_; rotate_left; (intro w' hw; refine yieldMid (x := .tmp 36) (g := w.heap.size) (off := 1) (v := v) ?_ ?_ (row_range hw.2) <;> rfl); rotate_left
          try simp only [List.setIfInBounds_toArray, List.set_cons_zero, List.set_cons_succ]
          refine wpAnyH_ready (rs := [8]) (by kernel_rfl) (by simp) ?_; refine AllReadyH.cons rfl (fun K4 hK => ?_) AllReadyH.nil; go_simp; go_wp2_with (go_at_call 16; (with_reducible refine (K3.out _ HQ3.out hR3).mono ?_); rintro e wD ⟨rfl, hD⟩; replace hS := hD.out.1); refine hK.out _ _ ?_ (fun _ => ?_); (exact hS); clear hK K4
          refine wpAnyH_done (by kernel_rfl) ?_ _
          go_wp2
          go_ret
          exact FYES.out _ (by simp) hD.out.2
  · go_simp; have BZ : Hid (Bx ((w.alloc (rowO key v)).alloc zb).drew (w.heap.size + 1) Hi.zeros) := Lib.hid ⟨rfl, by have := (zeros_new (w.alloc (rowO key v))).h; rw [alloc_size] at this; exact this⟩; have HLT : Hid (T < w.heap.size + 1 ∧ w.heap.size < w.heap.size + 1) := Lib.hid ⟨by have := lt_block HQ.out.t; rw [show (w.alloc (rowO key v)).drew.heap.size = w.heap.size + 1 from alloc_size _ _] at this; exact this, Nat.lt_succ_self _⟩; replace HQ := Lib.hid (show HyQ B T P room l F0 w ((w.alloc (rowO key v)).alloc zb).drew from HQ.out.next ((Below.refl _ _).alloc (Nat.le_refl _) zb)); replace hR : ((w.alloc (rowO key v)).alloc zb).drew.heap[w.heap.size]? = some (rowO key v) := (Lib.alloc_old _ zb _ (lt_block hR)).trans hR; replace hS := (And.intro HQ.out.t hR); refine hK.out _ _ ?_ (fun _ => ?_); (exact hS); clear hK K4
    refine wpAnyH_ready (rs := [6]) (by kernel_rfl) (by simp) ?_; refine AllReadyH.cons rfl (fun K4 hK => ?_) AllReadyH.nil; go_simp; go_wp2_with (go_at_call 42; (with_reducible refine (K1.out _ HQ.out).mono ?_); rintro e wA ⟨rfl, hb⟩; replace BZ := Lib.hid (BZ.out.below hb); replace HQ := Lib.hid (HQ.out.next hb); replace hR := (hb.block _ (lt_block hR)).trans hR; replace hS := (And.intro HQ.out.t hR); clear hb); refine hK.out _ _ ?_ (fun _ => ?_); (exact hS); clear hK K4
    refine takeH 7 7 ?_ rfl rfl (by kernel_rfl) (by kernel_rfl) (by kernel_rfl) (fun _ _ _ h => h) (Or.inl ⟨by kernel_rfl, ?_⟩) hS ?_; rotate_left; (intro w' hw; first | (go_simp; done) | (go_simp; with_reducible rfl)); rotate_left
    try simp only [List.setIfInBounds_toArray, List.set_cons_zero, List.set_cons_succ]
    refine takeH 8 15 ?_ rfl rfl (by kernel_rfl) (by kernel_rfl) (by kernel_rfl) (fun _ _ _ h => h) (Or.inl ⟨by kernel_rfl, ?_⟩) hS ?_; rotate_left; (intro w' hw; first | (go_simp; done) | (go_simp; with_reducible rfl)); rotate_left
    try simp only [List.setIfInBounds_toArray, List.set_cons_zero, List.set_cons_succ]
    refine takeH 9 16 ?_ rfl rfl (by kernel_rfl) (by kernel_rfl) (by kernel_rfl) (fun _ _ _ h => h) (Or.inl ⟨by kernel_rfl, ?_⟩) hS ?_; rotate_left; (intro w' hw; first | (go_simp; done) | (go_simp; with_reducible rfl)); rotate_left
    try simp only [List.setIfInBounds_toArray, List.set_cons_zero, List.set_cons_succ]
    refine wpAnyH_ready (rs := [11]) (by kernel_rfl) (by simp) ?_; refine AllReadyH.cons rfl (fun K4 hK => ?_) AllReadyH.nil; refine stepStoreB BZ.out (l := u.1) u.2 _ _ rfl rfl rfl rfl ?_; have HQ2 := Lib.hid (HRW.out _ (w.heap.size + 1) HQ.out (by have := HLT.out; omega) (Hi.cells u.1)); have hR2 := (setRow_other wA (w.heap.size + 1) w.heap.size (Hi.cells u.1) (Nat.ne_of_lt HLT.out.2)).trans hR; replace hS := (And.intro HQ2.out.t hR2); refine hK.out _ _ ?_ (fun _ => ?_); (exact hS); clear hK K4
    refine takeH 12 6 ?_ rfl rfl (by kernel_rfl) (by kernel_rfl) (by kernel_rfl) (fun _ _ _ h => h) (Or.inl ⟨by kernel_rfl, ?_⟩) hS ?_; rotate_left; (intro w' hw; first | (go_simp; done) | (go_simp; with_reducible rfl)); rotate_left
    try simp only [List.setIfInBounds_toArray, List.set_cons_zero, List.set_cons_succ]
    refine wpAnyH_done (by kernel_rfl) ?_ _
    obtain ⟨W2, hW2⟩ : ∃ W2, W2 = wA.setRow (w.heap.size + 1) (Hi.cells u.1) := ⟨_, rfl⟩
    rw [← hW2] at HQ2 hR2 ⊢
    clear hW2 HQ hR BZ hS HLT
    cases q with
    | true =>
      go_wp2
      go_ret
      exact FNO.out _ HQ2.out (by simp)
    | false =>
      cases o with
      | false =>
        go_wp2_with (first | (refine loadM (row_range hR3) _ rfl rfl rfl ?_) | (refine loadM (row_range hR2) _ rfl rfl rfl ?_) | (go_at_call 38; (with_reducible refine (K2.out _).mono ?_); rintro e wC ⟨rfl, hb⟩; have HQ3 := Lib.hid (HQ2.out.next hb); have hR3 := (hb.block _ (lt_block hR2)).trans hR2; clear hb))
        go_ret
        exact FNO.out _ HQ3.out (by simp)
      | true =>
        cases z with
        | true =>
          go_wp2_with (first | (refine loadM (row_range hR3) _ rfl rfl rfl ?_) | (refine loadM (row_range hR2) _ rfl rfl rfl ?_) | (go_at_call 38; (with_reducible refine (K2.out _).mono ?_); rintro e wC ⟨rfl, hb⟩; have HQ3 := Lib.hid (HQ2.out.next hb); have hR3 := (hb.block _ (lt_block hR2)).trans hR2; clear hb))
          go_ret
          exact FNO.out _ HQ3.out (by simp)
        | false =>
          go_upto_region 4 with (first | (refine loadM (row_range hR3) _ rfl rfl rfl ?_) | (refine loadM (row_range hR2) _ rfl rfl rfl ?_) | (go_at_call 38; (with_reducible refine (K2.out _).mono ?_); rintro e wC ⟨rfl, hb⟩; have HQ3 := Lib.hid (HQ2.out.next hb); have hR3 := (hb.block _ (lt_block hR2)).trans hR2; clear hb))
          replace HQ3 := Lib.hid (HQ3.out.next (Below.refl _ _).drew)
          replace hR3 : wC.drew.heap[w.heap.size]? = some (rowO key v) := hR3
          refine wp_region_any (by kernel_rfl) ?_
          change wpAny _ _ _ _ _ _ _ (World.drew _)
          refine wpAny_of_held (S := fun W => W.heap[T]? = some (tabO P) ∧ W.heap[w.heap.size]? = some (rowO key v)) _ _ _ _ ?_
          have hS := And.intro HQ3.out.t hR3
          refine takeH 0 30 ?_ rfl rfl (by kernel_rfl) (by kernel_rfl) (by kernel_rfl) (fun _ _ _ h => h) (Or.inl ⟨by kernel_rfl, ?_⟩) hS ?_; rotate_left; (intro w' hw; first | (go_simp; done) | (go_simp; with_reducible rfl)); rotate_left
          try simp only [List.setIfInBounds_toArray, List.set_cons_zero, List.set_cons_succ]
          refine takeH 1 31 ?_ rfl rfl (by kernel_rfl) (by kernel_rfl) (by kernel_rfl) (fun _ _ _ h => h) (Or.inl ⟨by kernel_rfl, ?_⟩) hS ?_; rotate_left; (intro w' hw; first | (go_simp; done) | (go_simp; with_reducible rfl)); rotate_left
          try simp only [List.setIfInBounds_toArray, List.set_cons_zero, List.set_cons_succ]
          refine takeH 2 32 ?_ rfl rfl (by kernel_rfl) (by kernel_rfl) (by kernel_rfl) (fun _ _ _ h => h) (Or.inl ⟨by kernel_rfl, ?_⟩) hS ?_; rotate_left; (intro w' hw; first | (go_simp; done) | (go_simp; with_reducible rfl)); rotate_left
          try simp only [List.setIfInBounds_toArray, List.set_cons_zero, List.set_cons_succ]
          refine takeH 3 33 ?_ rfl rfl (by kernel_rfl) (by kernel_rfl) (by kernel_rfl) (fun _ _ _ h => h) (Or.inl ⟨by kernel_rfl, ?_⟩) hS ?_; rotate_left; (intro w' hw; have hc0 : w'.cell? ⟨T, 0, none⟩ = some (.pointer (some ⟨P, 0, none⟩)) := (by rw [cell_of_row _ _ _ _ _ _ hw.1]; rfl); first | (go_simp; done) | (go_simp; with_reducible rfl)); rotate_left
          try simp only [List.setIfInBounds_toArray, List.set_cons_zero, List.set_cons_succ]
          refine takeH 4 34 ?_ rfl rfl (by kernel_rfl) (by kernel_rfl) (by kernel_rfl) (fun _ _ _ h => h) (Or.inl ⟨by kernel_rfl, ?_⟩) hS ?_; rotate_left; (intro w' hw; first | (go_simp; done) | (go_simp; with_reducible rfl)); rotate_left
          try simp only [List.setIfInBounds_toArray, List.set_cons_zero, List.set_cons_succ]
          refine takeH 5 35 ?_ rfl rfl (by kernel_rfl) (by kernel_rfl) (by kernel_rfl) (fun _ _ _ h => h) (Or.inl ⟨by kernel_rfl, ?_⟩) hS ?_; rotate_left; (intro w' hw; have hc0 : w'.cell? ⟨w.heap.size, 0, none⟩ = some (.string key) := (by rw [cell_of_row _ _ _ _ _ _ hw.2]; exact entC_key key v); first | (go_simp; done) | (go_simp; with_reducible rfl)); rotate_left
          try simp only [List.setIfInBounds_toArray, List.set_cons_zero, List.set_cons_succ]
          refine takeH 6 36 ?_ rfl rfl (by kernel_rfl) (by kernel_rfl) (by kernel_rfl) (fun _ _ _ h => h) (Or.inl ⟨by kernel_rfl, ?_⟩) hS ?_; rotate_left; (intro w' hw; first | (go_simp; done) | (go_simp; with_reducible rfl)); rotate_left
          try simp only [List.setIfInBounds_toArray, List.set_cons_zero, List.set_cons_succ]
          refine takeH 7 37 ?_ rfl rfl (by kernel_rfl) (by kernel_rfl) (by kernel_rfl) (fun _ _ _ h => h) (Or.inl ⟨by kernel_rfl, ?_⟩) hS ?_; rotate_left; (intro w' hw; refine yieldMid (x := .tmp 36) (g := w.heap.size) (off := 1) (v := v) ?_ ?_ (row_range hw.2) <;> rfl); rotate_left
          try simp only [List.setIfInBounds_toArray, List.set_cons_zero, List.set_cons_succ]
          refine wpAnyH_ready (rs := [8]) (by kernel_rfl) (by simp) ?_; refine AllReadyH.cons rfl (fun K4 hK => ?_) AllReadyH.nil; go_simp; go_wp2_with (go_at_call 16; (with_reducible refine (K3.out _ HQ3.out hR3).mono ?_); rintro e wD ⟨rfl, hD⟩; replace hS := hD.out.1); refine hK.out _ _ ?_ (fun _ => ?_); (exact hS); clear hK K4
          refine wpAnyH_done (by kernel_rfl) ?_ _
          go_wp2
          go_ret
          exact FYES.out _ (by simp) hD.out.2
end Go.Proofs.Ytmdpfinadffcaaa
