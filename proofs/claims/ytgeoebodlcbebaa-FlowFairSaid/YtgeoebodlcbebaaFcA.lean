/-
  Looks: their cells; the law's fair.
-/
import Derived.Test.YtgeoebodlcbebaaFracD
import Derived.Test.YtgeoebodlcbebaaFlZ
import Derived.Test.YtgeoebodlcbebaaFlowAll
import Derived.Deep.MidRow
import Derived.Great.BuildSlice
import Derived.Laws.CopyRow
namespace Fl
/-- a look: what was taken of each of four flows, what was dropped, whether something waits -/
structure Lk where
  T : Nat → Int
  D : Nat → Int
  W : Nat → Bool
end Fl
namespace Go.Proofs.Ytgeoebodlcbebaa
open Go.RowKit
open Fl (Lk)
set_option linter.unusedVariables false
set_option linter.unusedSimpArgs false

def lkC (k : Lk) : Array Value := #[.int .i64 (k.T 0), .int .i64 (k.T 1), .int .i64 (k.T 2), .int .i64 (k.T 3), .int .i64 (k.D 0), .int .i64 (k.D 1), .int .i64 (k.D 2), .int .i64 (k.D 3), .bool (k.W 0), .bool (k.W 1), .bool (k.W 2), .bool (k.W 3)]
def w4 (wt : Nat → Int) : Array Value := #[.int .i64 (wt 0), .int .i64 (wt 1), .int .i64 (wt 2), .int .i64 (wt 3)]
theorem lkC_size (k : Lk) : (lkC k).size = 12 := rfl
theorem w4_size (wt : Nat → Int) : (w4 wt).size = 4 := rfl
theorem lkC_one (k : Lk) : (lkC k).all (·.oneCell') = true := by simp [lkC, Value.oneCell']
theorem lkC_T (k : Lk) {i : Nat} (h : i < 4) : (lkC k)[i]? = some (.int .i64 (k.T i)) := by
  rcases i with _ | _ | _ | _ | i
  all_goals first | rfl | omega
theorem lkC_D (k : Lk) {i : Nat} (h : i < 4) : (lkC k)[4 + i]? = some (.int .i64 (k.D i)) := by
  rcases i with _ | _ | _ | _ | i
  all_goals first | rfl | omega
theorem lkC_W (k : Lk) {i : Nat} (h : i < 4) : (lkC k)[8 + i]? = some (.bool (k.W i)) := by
  rcases i with _ | _ | _ | _ | i
  all_goals first | rfl | omega
theorem w4_at (wt : Nat → Int) {i : Nat} (h : i < 4) : (w4 wt)[i]? = some (.int .i64 (wt i)) := by
  rcases i with _ | _ | _ | _ | i
  all_goals first | rfl | omega
abbrev boxL (k : Lk) : Obj := .cells (lkC k) 42
abbrev box4 (wt : Nat → Int) : Obj := .cells (w4 wt) 39
theorem infoL : (Try.prog.info? 42).map (·.size) = some 12 := by kernel_rfl
theorem info4 : (Try.prog.info? 39).map (·.size) = some 4 := by kernel_rfl
section
variable {w : World} {g : Nat} {k : Lk} {wt : Nat → Int} {i : Nat}
theorem cellT (hg : w.heap[g]? = some (boxL k)) (hi : i < 4) : w.cell? ⟨g, i, none⟩ = some (.int .i64 (k.T i)) := by rw [cell_of_row w g i _ _ _ hg, lkC_T k hi]
theorem cellD (hg : w.heap[g]? = some (boxL k)) (hi : i < 4) : w.cell? ⟨g, 4 + i, none⟩ = some (.int .i64 (k.D i)) := by rw [cell_of_row w g _ _ _ _ hg, lkC_D k hi]
theorem cellW (hg : w.heap[g]? = some (boxL k)) (hi : i < 4) : w.cell? ⟨g, 8 + i, none⟩ = some (.bool (k.W i)) := by rw [cell_of_row w g _ _ _ _ hg, lkC_W k hi]
theorem cell4 (hg : w.heap[g]? = some (box4 wt)) (hi : i < 4) : w.cell? ⟨g, i, none⟩ = some (.int .i64 (wt i)) := by rw [cell_of_row w g i _ _ _ hg, w4_at wt hi]
end
/-- the whole of a box: a look, four weights -/
theorem wpLoadK {ops : Array Oper} {rest : List Oper} {o : Oper} {a : Act} {w : World} {Q : Exit → Act → World → Prop} (x : Operand) (ho : o.op = .load 42 x) (hw : Region.wanted o (yielded ops a.tmps) = true)
    (g : Nat) (hx : a.eval x = .pointer (some ⟨g, 0, none⟩)) (k : Lk) (hg : w.heap[g]? = some (boxL k))
    (h : wpList Try.prog ops Q rest (a.put o.dst (.agg (lkC k))) w) : wpList Try.prog ops Q (o :: rest) a w :=
  BigFrame.wpList_want hw fun _ hK => wp_load_row 42 x ho g hx 42 (lkC k) _ _ hg Try.underlying42 rfl (by rw [infoL, lkC_size]) (hK _ _ h)
theorem wpLoad4 {ops : Array Oper} {rest : List Oper} {o : Oper} {a : Act} {w : World} {Q : Exit → Act → World → Prop} (x : Operand) (ho : o.op = .load 39 x) (hw : Region.wanted o (yielded ops a.tmps) = true)
    (g : Nat) (hx : a.eval x = .pointer (some ⟨g, 0, none⟩)) (wt : Nat → Int) (hg : w.heap[g]? = some (box4 wt))
    (h : wpList Try.prog ops Q rest (a.put o.dst (.agg (w4 wt))) w) : wpList Try.prog ops Q (o :: rest) a w :=
  BigFrame.wpList_want hw fun _ hK => wp_load_row 39 x ho g hx 39 (w4 wt) _ _ hg Try.underlying39 rfl (by rw [info4, w4_size]) (hK _ _ h)
/-- a look out of a row of looks -/
theorem wpLoadM {ops : Array Oper} {rest : List Oper} {o : Oper} {a : Act} {w : World} {Q : Exit → Act → World → Prop} (x : Operand) (ho : o.op = .load 42 x) (hw : Region.wanted o (yielded ops a.tmps) = true)
    (g off : Nat) (hx : a.eval x = .pointer (some ⟨g, off, none⟩)) (k : Lk) (hg : w.rangeAt g off (lkC k).toList)
    (h : wpList Try.prog ops Q rest (a.put o.dst (.agg (lkC k))) w) : wpList Try.prog ops Q (o :: rest) a w :=
  BigFrame.wpList_want hw fun _ hK' => wp_load_mid (P := Try.prog) 42 x ho g off hx (lkC k).toList _ hg Try.underlying42 rfl (by rw [infoL, Array.length_toList, lkC_size]) (hK' _ _ (by simpa using h))
/-- a look stored over another -/
theorem wpStoreK {ops : Array Oper} {rest : List Oper} {o : Oper} {a : Act} {w : World} {Q : Exit → Act → World → Prop} (hgd : o.guard = none) (x y : Operand) (ho : o.op = .store 42 x y)
    (g : Nat) (k : Lk) (hx : a.eval x = .pointer (some ⟨g, 0, none⟩)) (hy : a.eval y = .agg (lkC k)) (old : Array Value) (hg : w.heap[g]? = some (.cells old 42)) (hold : old.size = 12)
    (h : wpList Try.prog ops Q rest (a.put o.dst undef) (w.setRow g (lkC k))) : wpList Try.prog ops Q (o :: rest) a w :=
  wpList_store_row hgd 42 x y ho g (lkC k) hx hy 42 old hg (by rw [infoL, lkC_size]) (by rw [lkC_size, hold]) (lkC_one k) h
/-- how a look lies in a row -/
def eltK : Elt Try.prog Lk where
  st := 43
  e := 42
  z := .agg #[.int .i64 0, .int .i64 0, .int .i64 0, .int .i64 0, .int .i64 0, .int .i64 0, .int .i64 0, .int .i64 0, .bool false, .bool false, .bool false, .bool false]
  size := 12
  bytes := 72
  pv := fun k => (lkC k).toList
  ht := Try.underlying43
  info := by kernel_rfl
  hz := rfl
  pos := by decide
  le := by decide
  len := fun _ => rfl
  one := fun s u hu => (Array.all_eq_true_iff_forall_mem.1 (lkC_one s)) u (by simpa using hu)
theorem looks_at {w : World} {a : Option Addr} {l : List Lk} (h : eltK.View w a l) (h0 : 0 < l.length) : ∃ g off, a = some ⟨g, off, none⟩ ∧ g < w.heap.size ∧ ∀ j (hj : j < l.length), w.rangeAt g (off + j * 12) (lkC l[j]).toList := by
  obtain ⟨g, off, ha, hg, hc⟩ := h.is h0
  exact ⟨g, off, ha, hg, fun j hj i u hu => hc j hj i u hu⟩
/-- what is needed of two looks -/
structure Two4 (a b : Lk) (i : Nat) (wt : Nat → Int) : Prop where
  is : i < 4
  lo : 0 ≤ b.T i - a.T i
  hi : b.T i - a.T i < 4611686018427387904
  w : 0 ≤ wt i ∧ wt i < 4611686018427387904
theorem u64_in {a : Int} (h0 : 0 ≤ a) (h1 : a < 4611686018427387904) : IntKind.u64.wrap a = a := by rw [IntKind.wrap_u64]; omega
theorem w64_in {a : Int} (h0 : 0 ≤ a) (h1 : a < 4611686018427387904) : wrap64 a = a := by unfold wrap64; omega
set_option maxRecDepth 100000 in
set_option maxHeartbeats 8000000 in
theorem fairC (a b : Lk) (i j : Nat) (wt : Nat → Int) (q C : Int) (w : World) (hi : Two4 a b i wt) (hj : Two4 a b j wt) (hq : 0 ≤ q ∧ q < 4611686018427387904) (hC : 0 ≤ C ∧ C < 4611686018427387904) :
    Calls Try.prog 43 #[.agg (lkC a), .agg (lkC b), .int .i64 (i : Int), .int .i64 (j : Int), .agg (w4 wt), .int .i64 q, .int .i64 C] w (Ret (.bool (nearI (b.T i - a.T i) (wt i) (b.T j - a.T j) (wt j) q C)) w) := by
  obtain ⟨W1, hW1⟩ : ∃ W1, W1 = ((w.alloc (boxL a)).alloc (boxL b)).alloc (box4 wt) := ⟨_, rfl⟩
  have hb1 : Below w.heap.size w W1 := by rw [hW1]; exact (((Below.refl _ _).alloc (Nat.le_refl _) _).alloc (by simp) _).alloc (by simp; omega) _
  have h7 : W1.heap[w.heap.size]? = some (boxL a) := by
    rw [hW1, Lib.alloc_old _ _ _ (by simp; omega), Lib.alloc_old _ _ _ (by simp)]; exact heap_alloc_new _ _
  have h8 : W1.heap[w.heap.size + 1]? = some (boxL b) := by
    rw [hW1, Lib.alloc_old _ _ _ (by simp)]
    have := heap_alloc_new (w.alloc (boxL a)) (boxL b)
    simpa using this
  have h11 : W1.heap[w.heap.size + 2]? = some (box4 wt) := by
    rw [hW1]
    have := heap_alloc_new ((w.alloc (boxL a)).alloc (boxL b)) (box4 wt)
    simpa using this
  have c0 := cellT h8 hi.is
  have c1 := cellT h7 hi.is
  have c2 := cellT h8 hj.is
  have c3 := cellT h7 hj.is
  have HS1 := Lib.hid (fun W (hW : Below W1.heap.size W1 W) => (show W.cell? ⟨w.heap.size + 1 + 1, i, none⟩ = some (.int .i64 (wt i)) ∧ W.cell? ⟨w.heap.size + 1 + 1, j, none⟩ = some (.int .i64 (wt j)) from ⟨cell4 ((hW.block _ (lt_block h11)).trans h11) hi.is, cell4 ((hW.block _ (lt_block h11)).trans h11) hj.is⟩))
  have KN := fun W => refNearC (b.T i - a.T i) (wt i) (b.T j - a.T j) (wt j) q C ⟨hi.lo, hi.w.1, hj.lo, hj.w.1, hq.1, hC.1⟩ W
  have e1 := w64_in hi.lo hi.hi
  have e2 := w64_in hj.lo hj.hi
  have e3 := u64_in hi.lo hi.hi
  have e4 := u64_in hj.lo hj.hi
  have e5 := u64_in hi.w.1 hi.w.2
  have e6 := u64_in hj.w.1 hj.w.2
  have e7 := u64_in hq.1 hq.2
  have e8 := u64_in hC.1 hC.2
  have hi4 : (i : Int) < 4 := by have := hi.is; omega
  have hj4 : (j : Int) < 4 := by have := hj.is; omega
  have HB1 := Lib.hid hb1
  have HW1 := Lib.hid hW1
  obtain ⟨X, hX⟩ : ∃ X, X = w.heap.size := ⟨_, rfl⟩
  have HX := Lib.hid hX
  rw [← hX] at c0 c1 c2 c3 HS1
  generalize hxi : b.T i - a.T i = xi at *
  generalize hxj : b.T j - a.T j = xj at *
  have HXI := Lib.hid hxi
  have HXJ := Lib.hid hxj
  have E1 : wrap64 (b.T i - a.T i) = xi := by rw [hxi]; exact e1
  have E2 : wrap64 (b.T j - a.T j) = xj := by rw [hxj]; exact e2
  generalize b.T i = bi at *
  generalize a.T i = ai at *
  generalize b.T j = bj at *
  generalize a.T j = aj at *
  generalize wt i = wi at *
  generalize wt j = wj at *
  clear h7 h8 h11 hi hj hq hC hb1 hW1 hX hxi hxj e1 e2
  go_enter Try.func43, Try.ntmps43
  go_upto_region 1 with fail
  rw [← HX.out]
  rw [← HW1.out]
  go_quiet (fail)
  clear c0 c1 c2 c3
  go_upto_region 2 with fail
  obtain ⟨W2, hW2⟩ : ∃ W2, W2 = (W1.drewN nq).drew := ⟨_, rfl⟩
  have hb2 : Below W1.heap.size W1 W2 := by rw [hW2]; exact (below_drewN (Below.refl _ _) nq).drew
  have HS2 := Lib.hid (fun W (hW : Below W2.heap.size W2 W) => HS1.out W (hb2.trans (hW.mono hb2.size)))
  have KNN := Lib.hid (KN W2)
  have HWD := Lib.hid hW2
  have hS : Below W2.heap.size W2 W2 := Below.refl _ _
  have HB2 := Lib.hid hb2
  clear KN hW2 hb2 E1 E2 e3 e4
  refine wp_region_any (by kernel_rfl) ?_
  change wpAny _ _ _ _ _ _ _ (World.drew _)
  rw [← HWD.out]
  refine wpAny_of_held (S := fun W => Below W2.heap.size W2 W) _ _ _ _ ?_
  refine takeH 0 37 ?_ rfl rfl (by kernel_rfl) (by kernel_rfl) (by kernel_rfl) (fun _ _ _ h => h) (Or.inl ⟨by kernel_rfl, ?_⟩) hS ?_; rotate_left; (intro w' hw; skip; first | (go_simp; done) | (go_simp; with_reducible rfl)); rotate_left
  try simp only [List.setIfInBounds_toArray, List.set_cons_zero, List.set_cons_succ]
  refine takeH 1 38 ?_ rfl rfl (by kernel_rfl) (by kernel_rfl) (by kernel_rfl) (fun _ _ _ h => h) (Or.inl ⟨by kernel_rfl, ?_⟩) hS ?_; rotate_left; (intro w' hw; skip; first | (go_simp; done) | (go_simp; with_reducible rfl)); rotate_left
  try simp only [List.setIfInBounds_toArray, List.set_cons_zero, List.set_cons_succ]
  refine takeH 2 39 ?_ rfl rfl (by kernel_rfl) (by kernel_rfl) (by kernel_rfl) (fun _ _ _ h => h) (Or.inl ⟨by kernel_rfl, ?_⟩) hS ?_; rotate_left; (intro w' hw; skip; first | (go_simp; done) | (go_simp; with_reducible rfl)); rotate_left
  try simp only [List.setIfInBounds_toArray, List.set_cons_zero, List.set_cons_succ]
  refine takeH 3 40 ?_ rfl rfl (by kernel_rfl) (by kernel_rfl) (by kernel_rfl) (fun _ _ _ h => h) (Or.inl ⟨by kernel_rfl, ?_⟩) hS ?_; rotate_left; (intro w' hw; obtain ⟨z0, z1⟩ := HS2.out _ hw; first | (go_simp; done) | (go_simp; with_reducible rfl)); rotate_left
  try simp only [List.setIfInBounds_toArray, List.set_cons_zero, List.set_cons_succ]
  refine takeH 4 41 (.int .u64 wi) rfl rfl (by kernel_rfl) (by kernel_rfl) (by kernel_rfl) (fun _ _ _ h => h) (Or.inl ⟨by kernel_rfl, ?_⟩) hS ?_; focus (intro w' hw; skip; first | (go_simp; done) | (go_simp; with_reducible rfl))
  try simp only [List.setIfInBounds_toArray, List.set_cons_zero, List.set_cons_succ]
  refine takeH 5 42 ?_ rfl rfl (by kernel_rfl) (by kernel_rfl) (by kernel_rfl) (fun _ _ _ h => h) (Or.inl ⟨by kernel_rfl, ?_⟩) hS ?_; rotate_left; (intro w' hw; skip; first | (go_simp; done) | (go_simp; with_reducible rfl)); rotate_left
  try simp only [List.setIfInBounds_toArray, List.set_cons_zero, List.set_cons_succ]
  refine takeH 6 43 ?_ rfl rfl (by kernel_rfl) (by kernel_rfl) (by kernel_rfl) (fun _ _ _ h => h) (Or.inl ⟨by kernel_rfl, ?_⟩) hS ?_; rotate_left; (intro w' hw; skip; first | (go_simp; done) | (go_simp; with_reducible rfl)); rotate_left
  try simp only [List.setIfInBounds_toArray, List.set_cons_zero, List.set_cons_succ]
  refine takeH 7 44 ?_ rfl rfl (by kernel_rfl) (by kernel_rfl) (by kernel_rfl) (fun _ _ _ h => h) (Or.inl ⟨by kernel_rfl, ?_⟩) hS ?_; rotate_left; (intro w' hw; skip; first | (go_simp; done) | (go_simp; with_reducible rfl)); rotate_left
  try simp only [List.setIfInBounds_toArray, List.set_cons_zero, List.set_cons_succ]
  refine takeH 8 45 ?_ rfl rfl (by kernel_rfl) (by kernel_rfl) (by kernel_rfl) (fun _ _ _ h => h) (Or.inl ⟨by kernel_rfl, ?_⟩) hS ?_; rotate_left; (intro w' hw; obtain ⟨z0, z1⟩ := HS2.out _ hw; first | (go_simp; done) | (go_simp; with_reducible rfl)); rotate_left
  try simp only [List.setIfInBounds_toArray, List.set_cons_zero, List.set_cons_succ]
  refine takeH 9 46 (.int .u64 wj) rfl rfl (by kernel_rfl) (by kernel_rfl) (by kernel_rfl) (fun _ _ _ h => h) (Or.inl ⟨by kernel_rfl, ?_⟩) hS ?_; focus (intro w' hw; skip; first | (go_simp; done) | (go_simp; with_reducible rfl))
  try simp only [List.setIfInBounds_toArray, List.set_cons_zero, List.set_cons_succ]
  refine takeH 10 47 ?_ rfl rfl (by kernel_rfl) (by kernel_rfl) (by kernel_rfl) (fun _ _ _ h => h) (Or.inl ⟨by kernel_rfl, ?_⟩) hS ?_; rotate_left; (intro w' hw; skip; first | (go_simp; done) | (go_simp; with_reducible rfl)); rotate_left
  try simp only [List.setIfInBounds_toArray, List.set_cons_zero, List.set_cons_succ]
  refine takeH 11 48 (.int .u64 q) rfl rfl (by kernel_rfl) (by kernel_rfl) (by kernel_rfl) (fun _ _ _ h => h) (Or.inl ⟨by kernel_rfl, ?_⟩) hS ?_; focus (intro w' hw; skip; first | (go_simp; done) | (go_simp; with_reducible rfl))
  try simp only [List.setIfInBounds_toArray, List.set_cons_zero, List.set_cons_succ]
  refine takeH 12 49 ?_ rfl rfl (by kernel_rfl) (by kernel_rfl) (by kernel_rfl) (fun _ _ _ h => h) (Or.inl ⟨by kernel_rfl, ?_⟩) hS ?_; rotate_left; (intro w' hw; skip; first | (go_simp; done) | (go_simp; with_reducible rfl)); rotate_left
  try simp only [List.setIfInBounds_toArray, List.set_cons_zero, List.set_cons_succ]
  refine takeH 13 50 (.int .u64 C) rfl rfl (by kernel_rfl) (by kernel_rfl) (by kernel_rfl) (fun _ _ _ h => h) (Or.inl ⟨by kernel_rfl, ?_⟩) hS ?_; focus (intro w' hw; skip; first | (go_simp; done) | (go_simp; with_reducible rfl))
  try simp only [List.setIfInBounds_toArray, List.set_cons_zero, List.set_cons_succ]
  refine wpAnyH_ready (rs := [14]) (by kernel_rfl) (by simp) ?_; refine AllReadyH.cons rfl (fun K2 hK => ?_) AllReadyH.nil; go_simp; go_wp2_with (go_at_call 59; (with_reducible refine KNN.out.mono ?_); rintro e wN ⟨rfl, hN⟩); have hS1 := hS.trans (hN.mono hS.size); refine hK.out _ _ ?_ (fun _ => ?_); (exact hS1); clear hK K2 hS; have hS := hS1; clear hS1
  refine takeH 15 14 ?_ rfl rfl (by kernel_rfl) (by kernel_rfl) (by kernel_rfl) (fun _ _ _ h => h) (Or.inl ⟨by kernel_rfl, ?_⟩) hS ?_; rotate_left; (intro w' hw; skip; first | (go_simp; done) | (go_simp; with_reducible rfl)); rotate_left
  try simp only [List.setIfInBounds_toArray, List.set_cons_zero, List.set_cons_succ]
  refine wpAnyH_done (by kernel_rfl) ?_ _
  have HE := Lib.hid (HB1.out.trans ((HB2.out.trans (hS.mono HB2.out.size)).mono HB1.out.size))
  clear hS HS2
  go_wp2
  go_ret
  exact ⟨rfl, HE.out⟩
end Go.Proofs.Ytgeoebodlcbebaa
