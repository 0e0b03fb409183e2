/-
  The two sets side by side; a step of the law DueActs.
-/
import Derived.Test.YtmmfmpnkjienfaaDuW
namespace Go.Proofs.Ytmmfmpnkjienfaa
open Go.RowKit
set_option linter.unusedVariables false

/-- the program's set and the document's, apart, beside blocks that stay -/
structure TwoS (w0 : World) (B D R : Nat) (v : Value) (nw : Int) (lw : List Wh.E) (nr : Int) (lr : List Wh.E) (qs : List (Nat × Obj)) (w : World) : Prop where
  s : ∃ G, DIs w B D nw lw G ∧ (∀ k, G k → ¬ RefG R v k) ∧ ∀ q ∈ qs, ¬ G q.1
  r : RefS w B R nr v lr
  q : ∀ q ∈ qs, ¬ RefG R v q.1
  c : ∀ q ∈ qs, w.heap[q.1]? = some q.2
  b : Below B w0 w
section
variable {w0 w w' : World} {B D R : Nat} {v v' : Value} {nw nr n' : Int} {lw lr l' : List Wh.E} {qs ps : List (Nat × Obj)}
theorem TwoS.size (h : TwoS w0 B D R v nw lw nr lr qs w) : B ≤ w.heap.size := by have := h.r.lt R (Or.inl rfl); omega
theorem TwoS.below (h : TwoS w0 B D R v nw lw nr lr qs w) (hb : Below w.heap.size w w') : TwoS w0 B D R v nw lw nr lr qs w' := by
  obtain ⟨G, h1, h2, h3⟩ := h.s
  exact ⟨⟨G, h1.keep hb.size (fun k hk => hb.block k (h1.lt k hk).2), h2, h3⟩, h.r.below hb, h.q, fun q hq => (hb.block q.1 (lt_block (h.c q hq))).trans (h.c q hq), h.b.trans (hb.mono h.size)⟩
theorem TwoS.box (h : TwoS w0 B D R v nw lw nr lr qs w) (o : Obj) : TwoS w0 B D R v nw lw nr lr ((w.heap.size, o) :: qs) (w.alloc o) := by
  have hb : Below w.heap.size w (w.alloc o) := (Below.refl _ _).alloc (Nat.le_refl _) _
  have h' := h.below hb
  obtain ⟨G, h1, h2, h3⟩ := h.s
  refine ⟨⟨G, h1.keep hb.size (fun k hk => hb.block k (h1.lt k hk).2), h2, fun q hq => ?_⟩, h'.r, fun q hq => ?_, fun q hq => ?_, h'.b⟩
  · rcases List.mem_cons.1 hq with rfl | hq
    · intro hg; have := (h1.lt _ hg).2; simp at this
    · exact h3 q hq
  · rcases List.mem_cons.1 hq with rfl | hq
    · intro hg; have := (h.r.lt _ hg).2; simp at this
    · exact h.q q hq
  · rcases List.mem_cons.1 hq with rfl | hq
    · exact heap_alloc_new _ _
    · exact h'.c q hq
theorem TwoS.less (h : TwoS w0 B D R v nw lw nr lr qs w) (hp : ∀ q ∈ ps, q ∈ qs) : TwoS w0 B D R v nw lw nr lr ps w := by
  obtain ⟨G, h1, h2, h3⟩ := h.s
  exact ⟨⟨G, h1, h2, fun q hq => h3 q (hp q hq)⟩, h.r, fun q hq => h.q q (hp q hq), fun q hq => h.c q (hp q hq), h.b⟩
/-- a call of the program's -/
theorem two_real {f : FuncId} {args : Array Value} {r : Value} (hc : ∀ w G, DIs w B D nw lw G → Calls Try.prog f args w (RetW DIs r B D n' l' G w)) (w : World) (h : TwoS w0 B D R v nw lw nr lr qs w) :
    Calls Try.prog f args w fun e w' => e = .returned r ∧ TwoS w0 B D R v n' l' nr lr qs w' := by
  obtain ⟨G, h1, h2, h3⟩ := h.s
  refine (hc w G h1).mono fun e w' hr => ?_
  obtain ⟨G', g1, g2⟩ := hr.s
  refine ⟨hr.r, ⟨G', g1, fun k hk hf => ?_, fun q hq hg => ?_⟩, h.r.apart hr.c (fun k hk hg => h2 k hg hk), h.q, fun q hq => hr.c.keep (h.c q hq) (h3 q hq), h.b.trans (hr.c.below (fun k hk => (h1.lt k hk).1) h.size)⟩
  · rcases g2 k hk with e | e
    · exact h2 k e hf
    · have := (h.r.lt k hf).2; omega
  · rcases g2 _ hg with e | e
    · exact h3 q hq e
    · have := lt_block (h.c q hq); omega
/-- a call of the document's -/
theorem two_ref {f : FuncId} {args : Array Value} {r : Value} (hc : ∀ w v, RefS w B R nr v lr → Calls Try.prog f args w (RetRS r B R n' v l' w)) (w : World) (h : TwoS w0 B D R v nw lw nr lr qs w) :
    Calls Try.prog f args w fun e w' => e = .returned r ∧ ∃ v', TwoS w0 B D R v' nw lw n' l' qs w' := by
  obtain ⟨G, h1, h2, h3⟩ := h.s
  refine (hc w v h.r).mono fun e w' hr => ?_
  obtain ⟨v', g1, g2⟩ := hr.s
  refine ⟨hr.r, v', ⟨G, h1.keep hr.c.size (fun k hk => hr.c.block k (h1.lt k hk).2 (h2 k hk)), fun k hk hf => ?_, h3⟩, g1, fun q hq hf => ?_, fun q hq => hr.c.keep (h.c q hq) (h.q q hq), h.b.trans (hr.c.below (fun k hk => (h.r.lt k hk).1) h.size)⟩
  · rcases hf with e | e
    · exact h2 k hk (Or.inl e)
    · rcases g2 k e with e | e
      · exact h2 k hk (Or.inr e)
      · have := (h1.lt k hk).2; omega
  · rcases hf with e | e
    · exact h.q q hq (Or.inl e)
    · rcases g2 _ e with e | e
      · exact h.q q hq (Or.inr e)
      · have := lt_block (h.c q hq); omega
/-- a call of the program's that turns nothing -/
theorem two_same {f : FuncId} {args : Array Value} {r : Value} (hc : ∀ w P F a cap, DAt w B D nw lw (Wh.turned lw nw) P F a cap → Calls Try.prog f args w (Same r w)) (w : World) (h : TwoS w0 B D R v nw lw nr lr qs w) : Calls Try.prog f args w (Same r w) := by
  obtain ⟨G, ⟨P, F, a, cap, h1, _⟩, _⟩ := h.s
  exact hc w P F a cap h1
end
theorem firstV_parts (o : Option Wh.E) : ∃ (a b c : Int) (d : Bool), firstV o = .tuple #[.agg #[.int .i64 a, .int .i64 b, .int .u64 c], .bool d] := by
  cases o with
  | none => exact ⟨0, 0, 0, false, rfl⟩
  | some e => exact ⟨_, _, _, true, rfl⟩

theorem cell4 {w : World} {Q : Nat} {x y z u : Value} {t : TypeId} (h : w.heap[Q]? = some (.cells #[x, y, z, u] t (0, 0))) : w.cell? ⟨Q, 0, none⟩ = some x ∧ w.cell? ⟨Q, 1, none⟩ = some y ∧ w.cell? ⟨Q, 2, none⟩ = some z ∧ w.cell? ⟨Q, 3, none⟩ = some u :=
  ⟨by rw [cell_of_row w _ _ _ _ _ h]; rfl, by rw [cell_of_row w _ _ _ _ _ h]; rfl, by rw [cell_of_row w _ _ _ _ _ h]; rfl, by rw [cell_of_row w _ _ _ _ _ h]; rfl⟩
/-- a step leaves the two alike -/
structure RetDoes (w0 : World) (B D R : Nat) (l : List Wh.E) (e : Ending) (w' : World) : Prop where
  e : e = .returned (.bool true)
  s : ∃ v n' l', TwoS w0 B D R v n' l' n' l' [] w' ∧ OkL l' ∧ l'.length ≤ l.length + 1
set_option maxRecDepth 100000 in
set_option maxHeartbeats 8000000 in
theorem doesSet (k i t n : Int) (w0 : World) (B D R : Nat) (v : Value) (l : List Wh.E) (w : World) (hl : l.length ≤ 800) (hO : OkL l) (ht : (Lit.int .u64 t).wf = true) (h : TwoS w0 B D R v n l n l [] w) :
    Calls Try.prog 8 #[.pointer (some ⟨D, 0, none⟩), .pointer (some ⟨R, 0, none⟩), .agg #[.int .i64 0, .int .i64 k, .int .i64 i, .int .u64 t]] w (RetDoes w0 B D R l) := by
  have HQ := Lib.hid (h.box (.cells #[.int .i64 0, .int .i64 k, .int .i64 i, .int .u64 t] 33))
  have KN := Lib.hid numC
  have KA := Lib.hid (fun W h => two_real (w0 := w0) (R := R) (v := v) (nr := n) (lr := l) (qs := [(w.heap.size, .cells #[.int .i64 0, .int .i64 k, .int .i64 i, .int .u64 t] 33)]) (fun w' G h => dSetC k i t w' B D n l G (by omega) ht h) W h)
  have KB := Lib.hid (fun W h => two_ref (w0 := w0) (D := D) (v := v) (nw := n) (lw := setLL l k i t) (qs := [(w.heap.size, .cells #[.int .i64 0, .int .i64 k, .int .i64 i, .int .u64 t] 33)]) (fun w' v' h => rSetC k i t n B R v' l w' (by omega) hO.nd hO.good h) W h)
  have hO2 := Lib.hid (hO.set (k := k) (i := i) ht)
  have hlen := len_setLL l k i t
  have HO := Lib.hid hO
  clear h hO ht
  generalize setR k i = rr at *
  generalize setLL l k i t = l2 at *
  go_enter Try.func8, Try.ntmps8
  go_upto_region 3 with fail
  refine wp_region_any (by kernel_rfl) ?_
  change wpAny _ _ _ _ _ _ _ (World.drew _)
  refine wpAny_of_held (S := fun w' => w'.heap[w.heap.size]? = some (.cells #[.int .i64 0, .int .i64 k, .int .i64 i, .int .u64 t] 33)) _ _ _ _ ?_
  have hV := HQ.out.below ((Below.refl _ _).drew)
  have hS := hV.c _ List.mem_cons_self
  refine takeH 0 15 ?_ rfl rfl (by kernel_rfl) (by kernel_rfl) (by kernel_rfl) (fun _ _ _ h => h) (Or.inl ⟨by kernel_rfl, ?_⟩) hS ?_; rotate_left; (intro w' hw; skip; first | (go_simp; done) | (go_simp; with_reducible rfl)); rotate_left
  try simp only [List.setIfInBounds_toArray, List.set_cons_zero, List.set_cons_succ]
  refine takeH 1 16 ?_ rfl rfl (by kernel_rfl) (by kernel_rfl) (by kernel_rfl) (fun _ _ _ h => h) (Or.inl ⟨by kernel_rfl, ?_⟩) hS ?_; rotate_left; (intro w' hw; skip; first | (go_simp; done) | (go_simp; with_reducible rfl)); rotate_left
  try simp only [List.setIfInBounds_toArray, List.set_cons_zero, List.set_cons_succ]
  refine takeH 2 17 ?_ rfl rfl (by kernel_rfl) (by kernel_rfl) (by kernel_rfl) (fun _ _ _ h => h) (Or.inl ⟨by kernel_rfl, ?_⟩) hS ?_; rotate_left; (intro w' hw; (have z1 : w'.cell? ⟨w.heap.size, 1, none⟩ = some (.int .i64 k) := (by rw [cell_of_row w' _ _ _ _ _ hw]; rfl)); (have z2 : w'.cell? ⟨w.heap.size, 2, none⟩ = some (.int .i64 i) := (by rw [cell_of_row w' _ _ _ _ _ hw]; rfl)); (have z3 : w'.cell? ⟨w.heap.size, 3, none⟩ = some (.int .u64 t) := (by rw [cell_of_row w' _ _ _ _ _ hw]; rfl)); first | (go_simp; done) | (go_simp; with_reducible rfl)); rotate_left
  try simp only [List.setIfInBounds_toArray, List.set_cons_zero, List.set_cons_succ]
  refine takeH 3 18 ?_ rfl rfl (by kernel_rfl) (by kernel_rfl) (by kernel_rfl) (fun _ _ _ h => h) (Or.inl ⟨by kernel_rfl, ?_⟩) hS ?_; rotate_left; (intro w' hw; skip; first | (go_simp; done) | (go_simp; with_reducible rfl)); rotate_left
  try simp only [List.setIfInBounds_toArray, List.set_cons_zero, List.set_cons_succ]
  refine takeH 4 19 ?_ rfl rfl (by kernel_rfl) (by kernel_rfl) (by kernel_rfl) (fun _ _ _ h => h) (Or.inl ⟨by kernel_rfl, ?_⟩) hS ?_; rotate_left; (intro w' hw; (have z1 : w'.cell? ⟨w.heap.size, 1, none⟩ = some (.int .i64 k) := (by rw [cell_of_row w' _ _ _ _ _ hw]; rfl)); (have z2 : w'.cell? ⟨w.heap.size, 2, none⟩ = some (.int .i64 i) := (by rw [cell_of_row w' _ _ _ _ _ hw]; rfl)); (have z3 : w'.cell? ⟨w.heap.size, 3, none⟩ = some (.int .u64 t) := (by rw [cell_of_row w' _ _ _ _ _ hw]; rfl)); first | (go_simp; done) | (go_simp; with_reducible rfl)); rotate_left
  try simp only [List.setIfInBounds_toArray, List.set_cons_zero, List.set_cons_succ]
  refine takeH 5 20 ?_ rfl rfl (by kernel_rfl) (by kernel_rfl) (by kernel_rfl) (fun _ _ _ h => h) (Or.inl ⟨by kernel_rfl, ?_⟩) hS ?_; rotate_left; (intro w' hw; skip; first | (go_simp; done) | (go_simp; with_reducible rfl)); rotate_left
  try simp only [List.setIfInBounds_toArray, List.set_cons_zero, List.set_cons_succ]
  refine takeH 6 21 ?_ rfl rfl (by kernel_rfl) (by kernel_rfl) (by kernel_rfl) (fun _ _ _ h => h) (Or.inl ⟨by kernel_rfl, ?_⟩) hS ?_; rotate_left; (intro w' hw; (have z1 : w'.cell? ⟨w.heap.size, 1, none⟩ = some (.int .i64 k) := (by rw [cell_of_row w' _ _ _ _ _ hw]; rfl)); (have z2 : w'.cell? ⟨w.heap.size, 2, none⟩ = some (.int .i64 i) := (by rw [cell_of_row w' _ _ _ _ _ hw]; rfl)); (have z3 : w'.cell? ⟨w.heap.size, 3, none⟩ = some (.int .u64 t) := (by rw [cell_of_row w' _ _ _ _ _ hw]; rfl)); first | (go_simp; done) | (go_simp; with_reducible rfl)); rotate_left
  try simp only [List.setIfInBounds_toArray, List.set_cons_zero, List.set_cons_succ]
  refine takeH 9 24 ?_ rfl rfl (by kernel_rfl) (by kernel_rfl) (by kernel_rfl) (fun _ _ _ h => h) (Or.inl ⟨by kernel_rfl, ?_⟩) hS ?_; rotate_left; (intro w' hw; skip; first | (go_simp; done) | (go_simp; with_reducible rfl)); rotate_left
  try simp only [List.setIfInBounds_toArray, List.set_cons_zero, List.set_cons_succ]
  refine takeH 10 25 ?_ rfl rfl (by kernel_rfl) (by kernel_rfl) (by kernel_rfl) (fun _ _ _ h => h) (Or.inl ⟨by kernel_rfl, ?_⟩) hS ?_; rotate_left; (intro w' hw; skip; first | (go_simp; done) | (go_simp; with_reducible rfl)); rotate_left
  try simp only [List.setIfInBounds_toArray, List.set_cons_zero, List.set_cons_succ]
  refine takeH 11 26 ?_ rfl rfl (by kernel_rfl) (by kernel_rfl) (by kernel_rfl) (fun _ _ _ h => h) (Or.inl ⟨by kernel_rfl, ?_⟩) hS ?_; rotate_left; (intro w' hw; (have z1 : w'.cell? ⟨w.heap.size, 1, none⟩ = some (.int .i64 k) := (by rw [cell_of_row w' _ _ _ _ _ hw]; rfl)); (have z2 : w'.cell? ⟨w.heap.size, 2, none⟩ = some (.int .i64 i) := (by rw [cell_of_row w' _ _ _ _ _ hw]; rfl)); (have z3 : w'.cell? ⟨w.heap.size, 3, none⟩ = some (.int .u64 t) := (by rw [cell_of_row w' _ _ _ _ _ hw]; rfl)); first | (go_simp; done) | (go_simp; with_reducible rfl)); rotate_left
  try simp only [List.setIfInBounds_toArray, List.set_cons_zero, List.set_cons_succ]
  refine takeH 12 27 ?_ rfl rfl (by kernel_rfl) (by kernel_rfl) (by kernel_rfl) (fun _ _ _ h => h) (Or.inl ⟨by kernel_rfl, ?_⟩) hS ?_; rotate_left; (intro w' hw; skip; first | (go_simp; done) | (go_simp; with_reducible rfl)); rotate_left
  try simp only [List.setIfInBounds_toArray, List.set_cons_zero, List.set_cons_succ]
  refine takeH 13 28 ?_ rfl rfl (by kernel_rfl) (by kernel_rfl) (by kernel_rfl) (fun _ _ _ h => h) (Or.inl ⟨by kernel_rfl, ?_⟩) hS ?_; rotate_left; (intro w' hw; (have z1 : w'.cell? ⟨w.heap.size, 1, none⟩ = some (.int .i64 k) := (by rw [cell_of_row w' _ _ _ _ _ hw]; rfl)); (have z2 : w'.cell? ⟨w.heap.size, 2, none⟩ = some (.int .i64 i) := (by rw [cell_of_row w' _ _ _ _ _ hw]; rfl)); (have z3 : w'.cell? ⟨w.heap.size, 3, none⟩ = some (.int .u64 t) := (by rw [cell_of_row w' _ _ _ _ _ hw]; rfl)); first | (go_simp; done) | (go_simp; with_reducible rfl)); rotate_left
  try simp only [List.setIfInBounds_toArray, List.set_cons_zero, List.set_cons_succ]
  refine takeH 14 29 ?_ rfl rfl (by kernel_rfl) (by kernel_rfl) (by kernel_rfl) (fun _ _ _ h => h) (Or.inl ⟨by kernel_rfl, ?_⟩) hS ?_; rotate_left; (intro w' hw; skip; first | (go_simp; done) | (go_simp; with_reducible rfl)); rotate_left
  try simp only [List.setIfInBounds_toArray, List.set_cons_zero, List.set_cons_succ]
  refine takeH 15 30 ?_ rfl rfl (by kernel_rfl) (by kernel_rfl) (by kernel_rfl) (fun _ _ _ h => h) (Or.inl ⟨by kernel_rfl, ?_⟩) hS ?_; rotate_left; (intro w' hw; (have z1 : w'.cell? ⟨w.heap.size, 1, none⟩ = some (.int .i64 k) := (by rw [cell_of_row w' _ _ _ _ _ hw]; rfl)); (have z2 : w'.cell? ⟨w.heap.size, 2, none⟩ = some (.int .i64 i) := (by rw [cell_of_row w' _ _ _ _ _ hw]; rfl)); (have z3 : w'.cell? ⟨w.heap.size, 3, none⟩ = some (.int .u64 t) := (by rw [cell_of_row w' _ _ _ _ _ hw]; rfl)); first | (go_simp; done) | (go_simp; with_reducible rfl)); rotate_left
  try simp only [List.setIfInBounds_toArray, List.set_cons_zero, List.set_cons_succ]
  refine wpAnyH_ready (rs := [7]) (by kernel_rfl) (by simp) ?_; refine AllReadyH.cons rfl (fun K2 hK => ?_) AllReadyH.nil; go_simp; go_wp2_with (go_at_call 15; (with_reducible refine (KA.out _ hV).mono ?_); rintro e wA ⟨rfl, hT⟩; replace hV := hT; clear hT; replace hS := hV.c _ List.mem_cons_self); refine hK.out _ _ ?_ (fun _ => ?_); (exact hS); clear hK K2
  refine wpAnyH_ready (rs := [8]) (by kernel_rfl) (by simp) ?_; refine AllReadyH.cons rfl (fun K2 hK => ?_) AllReadyH.nil; go_simp; go_wp2_with (go_at_call 19; (with_reducible refine (KN.out _ _).mono ?_); rintro e wN ⟨rfl, rfl⟩); refine hK.out _ _ ?_ (fun _ => ?_); (exact hS); clear hK K2
  refine wpAnyH_ready (rs := [16]) (by kernel_rfl) (by simp) ?_; refine AllReadyH.cons rfl (fun K2 hK => ?_) AllReadyH.nil; go_simp; go_wp2_with (go_at_call 22; (with_reducible refine (KB.out _ hV).mono ?_); rintro e wB ⟨rfl, v', hT⟩; replace hV := hT; clear hT; replace hS := hV.c _ List.mem_cons_self); refine hK.out _ _ ?_ (fun _ => ?_); (exact hS); clear hK K2
  refine takeH 17 32 ?_ rfl rfl (by kernel_rfl) (by kernel_rfl) (by kernel_rfl) (fun _ _ _ h => h) (Or.inl ⟨by kernel_rfl, ?_⟩) hS ?_; rotate_left; (intro w' hw; skip; first | (go_simp; done) | (go_simp; with_reducible rfl)); rotate_left
  try simp only [List.setIfInBounds_toArray, List.set_cons_zero, List.set_cons_succ]
  refine takeH 18 6 ?_ rfl rfl (by kernel_rfl) (by kernel_rfl) (by kernel_rfl) (fun _ _ _ h => h) (Or.inl ⟨by kernel_rfl, ?_⟩) hS ?_; rotate_left; (intro w' hw; skip; first | (go_simp; done) | (go_simp; with_reducible rfl)); rotate_left
  try simp only [List.setIfInBounds_toArray, List.set_cons_zero, List.set_cons_succ]
  refine wpAnyH_done (by kernel_rfl) ?_ _
  go_wp2
  go_ret
  exact ⟨by simp, _, _, _, hV.less (fun q hq => by cases hq), hO2.out, hlen⟩
set_option maxRecDepth 100000 in
set_option maxHeartbeats 8000000 in
theorem doesClear (k i t n : Int) (w0 : World) (B D R : Nat) (v : Value) (l : List Wh.E) (w : World) (hl : l.length ≤ 800) (hO : OkL l) (ht : (Lit.int .u64 t).wf = true) (h : TwoS w0 B D R v n l n l [] w) :
    Calls Try.prog 8 #[.pointer (some ⟨D, 0, none⟩), .pointer (some ⟨R, 0, none⟩), .agg #[.int .i64 1, .int .i64 k, .int .i64 i, .int .u64 t]] w (RetDoes w0 B D R l) := by
  have HQ := Lib.hid (h.box (.cells #[.int .i64 1, .int .i64 k, .int .i64 i, .int .u64 t] 33))
  have KN := Lib.hid numC
  have KA := Lib.hid (fun W h => two_real (w0 := w0) (R := R) (v := v) (nr := n) (lr := l) (qs := [(w.heap.size, .cells #[.int .i64 1, .int .i64 k, .int .i64 i, .int .u64 t] 33)]) (fun w' G h => clearC k i w' B D n l G (by omega) h) W h)
  have KB := Lib.hid (fun W h => two_ref (w0 := w0) (D := D) (v := v) (nw := n) (lw := clearL l k i) (qs := [(w.heap.size, .cells #[.int .i64 1, .int .i64 k, .int .i64 i, .int .u64 t] 33)]) (fun w' v' h => refClearC k i n B R v' l w' (by omega) hO.nd hO.good h) W h)
  have hO2 := Lib.hid (hO.clear k i)
  have hlen := len_clearL l k i
  have HO := Lib.hid hO
  clear h hO ht
  generalize (atR2 l k i).isSome = rr at *
  generalize clearL l k i = l2 at *
  go_enter Try.func8, Try.ntmps8
  go_upto_region 5 with fail
  refine wp_region_any (by kernel_rfl) ?_
  change wpAny _ _ _ _ _ _ _ (World.drew _)
  refine wpAny_of_held (S := fun w' => w'.heap[w.heap.size]? = some (.cells #[.int .i64 1, .int .i64 k, .int .i64 i, .int .u64 t] 33)) _ _ _ _ ?_
  have hV := HQ.out.below ((Below.refl _ _).drew)
  have hS := hV.c _ List.mem_cons_self
  refine takeH 0 35 ?_ rfl rfl (by kernel_rfl) (by kernel_rfl) (by kernel_rfl) (fun _ _ _ h => h) (Or.inl ⟨by kernel_rfl, ?_⟩) hS ?_; rotate_left; (intro w' hw; skip; first | (go_simp; done) | (go_simp; with_reducible rfl)); rotate_left
  try simp only [List.setIfInBounds_toArray, List.set_cons_zero, List.set_cons_succ]
  refine takeH 1 36 ?_ rfl rfl (by kernel_rfl) (by kernel_rfl) (by kernel_rfl) (fun _ _ _ h => h) (Or.inl ⟨by kernel_rfl, ?_⟩) hS ?_; rotate_left; (intro w' hw; skip; first | (go_simp; done) | (go_simp; with_reducible rfl)); rotate_left
  try simp only [List.setIfInBounds_toArray, List.set_cons_zero, List.set_cons_succ]
  refine takeH 2 37 ?_ rfl rfl (by kernel_rfl) (by kernel_rfl) (by kernel_rfl) (fun _ _ _ h => h) (Or.inl ⟨by kernel_rfl, ?_⟩) hS ?_; rotate_left; (intro w' hw; (have z1 : w'.cell? ⟨w.heap.size, 1, none⟩ = some (.int .i64 k) := (by rw [cell_of_row w' _ _ _ _ _ hw]; rfl)); (have z2 : w'.cell? ⟨w.heap.size, 2, none⟩ = some (.int .i64 i) := (by rw [cell_of_row w' _ _ _ _ _ hw]; rfl)); (have z3 : w'.cell? ⟨w.heap.size, 3, none⟩ = some (.int .u64 t) := (by rw [cell_of_row w' _ _ _ _ _ hw]; rfl)); first | (go_simp; done) | (go_simp; with_reducible rfl)); rotate_left
  try simp only [List.setIfInBounds_toArray, List.set_cons_zero, List.set_cons_succ]
  refine takeH 3 38 ?_ rfl rfl (by kernel_rfl) (by kernel_rfl) (by kernel_rfl) (fun _ _ _ h => h) (Or.inl ⟨by kernel_rfl, ?_⟩) hS ?_; rotate_left; (intro w' hw; skip; first | (go_simp; done) | (go_simp; with_reducible rfl)); rotate_left
  try simp only [List.setIfInBounds_toArray, List.set_cons_zero, List.set_cons_succ]
  refine takeH 4 39 ?_ rfl rfl (by kernel_rfl) (by kernel_rfl) (by kernel_rfl) (fun _ _ _ h => h) (Or.inl ⟨by kernel_rfl, ?_⟩) hS ?_; rotate_left; (intro w' hw; (have z1 : w'.cell? ⟨w.heap.size, 1, none⟩ = some (.int .i64 k) := (by rw [cell_of_row w' _ _ _ _ _ hw]; rfl)); (have z2 : w'.cell? ⟨w.heap.size, 2, none⟩ = some (.int .i64 i) := (by rw [cell_of_row w' _ _ _ _ _ hw]; rfl)); (have z3 : w'.cell? ⟨w.heap.size, 3, none⟩ = some (.int .u64 t) := (by rw [cell_of_row w' _ _ _ _ _ hw]; rfl)); first | (go_simp; done) | (go_simp; with_reducible rfl)); rotate_left
  try simp only [List.setIfInBounds_toArray, List.set_cons_zero, List.set_cons_succ]
  refine takeH 6 41 ?_ rfl rfl (by kernel_rfl) (by kernel_rfl) (by kernel_rfl) (fun _ _ _ h => h) (Or.inl ⟨by kernel_rfl, ?_⟩) hS ?_; rotate_left; (intro w' hw; skip; first | (go_simp; done) | (go_simp; with_reducible rfl)); rotate_left
  try simp only [List.setIfInBounds_toArray, List.set_cons_zero, List.set_cons_succ]
  refine takeH 7 42 ?_ rfl rfl (by kernel_rfl) (by kernel_rfl) (by kernel_rfl) (fun _ _ _ h => h) (Or.inl ⟨by kernel_rfl, ?_⟩) hS ?_; rotate_left; (intro w' hw; skip; first | (go_simp; done) | (go_simp; with_reducible rfl)); rotate_left
  try simp only [List.setIfInBounds_toArray, List.set_cons_zero, List.set_cons_succ]
  refine takeH 8 43 ?_ rfl rfl (by kernel_rfl) (by kernel_rfl) (by kernel_rfl) (fun _ _ _ h => h) (Or.inl ⟨by kernel_rfl, ?_⟩) hS ?_; rotate_left; (intro w' hw; (have z1 : w'.cell? ⟨w.heap.size, 1, none⟩ = some (.int .i64 k) := (by rw [cell_of_row w' _ _ _ _ _ hw]; rfl)); (have z2 : w'.cell? ⟨w.heap.size, 2, none⟩ = some (.int .i64 i) := (by rw [cell_of_row w' _ _ _ _ _ hw]; rfl)); (have z3 : w'.cell? ⟨w.heap.size, 3, none⟩ = some (.int .u64 t) := (by rw [cell_of_row w' _ _ _ _ _ hw]; rfl)); first | (go_simp; done) | (go_simp; with_reducible rfl)); rotate_left
  try simp only [List.setIfInBounds_toArray, List.set_cons_zero, List.set_cons_succ]
  refine takeH 9 44 ?_ rfl rfl (by kernel_rfl) (by kernel_rfl) (by kernel_rfl) (fun _ _ _ h => h) (Or.inl ⟨by kernel_rfl, ?_⟩) hS ?_; rotate_left; (intro w' hw; skip; first | (go_simp; done) | (go_simp; with_reducible rfl)); rotate_left
  try simp only [List.setIfInBounds_toArray, List.set_cons_zero, List.set_cons_succ]
  refine takeH 10 45 ?_ rfl rfl (by kernel_rfl) (by kernel_rfl) (by kernel_rfl) (fun _ _ _ h => h) (Or.inl ⟨by kernel_rfl, ?_⟩) hS ?_; rotate_left; (intro w' hw; (have z1 : w'.cell? ⟨w.heap.size, 1, none⟩ = some (.int .i64 k) := (by rw [cell_of_row w' _ _ _ _ _ hw]; rfl)); (have z2 : w'.cell? ⟨w.heap.size, 2, none⟩ = some (.int .i64 i) := (by rw [cell_of_row w' _ _ _ _ _ hw]; rfl)); (have z3 : w'.cell? ⟨w.heap.size, 3, none⟩ = some (.int .u64 t) := (by rw [cell_of_row w' _ _ _ _ _ hw]; rfl)); first | (go_simp; done) | (go_simp; with_reducible rfl)); rotate_left
  try simp only [List.setIfInBounds_toArray, List.set_cons_zero, List.set_cons_succ]
  refine wpAnyH_ready (rs := [5]) (by kernel_rfl) (by simp) ?_; refine AllReadyH.cons rfl (fun K2 hK => ?_) AllReadyH.nil; go_simp; go_wp2_with (go_at_call 20; (with_reducible refine (KA.out _ hV).mono ?_); rintro e wA ⟨rfl, hT⟩; replace hV := hT; clear hT; replace hS := hV.c _ List.mem_cons_self); refine hK.out _ _ ?_ (fun _ => ?_); (exact hS); clear hK K2
  refine wpAnyH_ready (rs := [11]) (by kernel_rfl) (by simp) ?_; refine AllReadyH.cons rfl (fun K2 hK => ?_) AllReadyH.nil; go_simp; go_wp2_with (go_at_call 23; (with_reducible refine (KB.out _ hV).mono ?_); rintro e wB ⟨rfl, v', hT⟩; replace hV := hT; clear hT; replace hS := hV.c _ List.mem_cons_self); refine hK.out _ _ ?_ (fun _ => ?_); (exact hS); clear hK K2
  refine takeH 12 47 ?_ rfl rfl (by kernel_rfl) (by kernel_rfl) (by kernel_rfl) (fun _ _ _ h => h) (Or.inl ⟨by kernel_rfl, ?_⟩) hS ?_; rotate_left; (intro w' hw; skip; first | (go_simp; done) | (go_simp; with_reducible rfl)); rotate_left
  try simp only [List.setIfInBounds_toArray, List.set_cons_zero, List.set_cons_succ]
  refine takeH 13 6 ?_ rfl rfl (by kernel_rfl) (by kernel_rfl) (by kernel_rfl) (fun _ _ _ h => h) (Or.inl ⟨by kernel_rfl, ?_⟩) hS ?_; rotate_left; (intro w' hw; skip; first | (go_simp; done) | (go_simp; with_reducible rfl)); rotate_left
  try simp only [List.setIfInBounds_toArray, List.set_cons_zero, List.set_cons_succ]
  refine wpAnyH_done (by kernel_rfl) ?_ _
  go_wp2
  go_ret
  exact ⟨by simp, _, _, _, hV.less (fun q hq => by cases hq), hO2.out, by omega⟩
set_option maxRecDepth 100000 in
set_option maxHeartbeats 8000000 in
theorem doesFirst (k i t n : Int) (w0 : World) (B D R : Nat) (v : Value) (l : List Wh.E) (w : World) (hl : l.length ≤ 800) (hO : OkL l) (ht : (Lit.int .u64 t).wf = true) (h : TwoS w0 B D R v n l n l [] w) :
    Calls Try.prog 8 #[.pointer (some ⟨D, 0, none⟩), .pointer (some ⟨R, 0, none⟩), .agg #[.int .i64 2, .int .i64 k, .int .i64 i, .int .u64 t]] w (RetDoes w0 B D R l) := by
  have HQ := Lib.hid (h.box (.cells #[.int .i64 2, .int .i64 k, .int .i64 i, .int .u64 t] 33))
  have ka := fun qs W h => two_real (w0 := w0) (R := R) (v := v) (nr := n) (lr := l) (qs := qs) (fun w' G h => dFirstC t w' B D n l G (by omega) h) W h
  have kb := fun qs W h => two_ref (w0 := w0) (D := D) (v := v) (nw := tickF n (firstDue l t)) (lw := restF l (firstDue l t)) (qs := qs) (fun w' v' h => rFirstC t n B R v' l w' (by omega) hO.nd h) W h
  have hO2 := Lib.hid (hO.rest (firstDue l t))
  have hlen := len_restF l (firstDue l t)
  have HO := Lib.hid hO
  clear h hO ht
  generalize tickF n (firstDue l t) = n2 at *
  generalize restF l (firstDue l t) = l2 at *
  obtain ⟨f0, f1, f2, fb, hfv⟩ := firstV_parts (firstDue l t)
  rw [hfv] at ka kb
  have KA := Lib.hid ka
  have KB := Lib.hid kb
  clear ka kb hfv
  have hA := fun W qs (h : TwoS w0 B D R v n l n l ((w.heap.size, .cells #[.int .i64 2, .int .i64 k, .int .i64 i, .int .u64 t] 33) :: qs) W) => cell4 (h.c _ List.mem_cons_self)
  obtain ⟨y0, y1, y2, y3⟩ := hA _ _ HQ.out
  clear hA
  go_enter Try.func8, Try.ntmps8
  go_wp2_with (first | (go_at_call 16; (with_reducible refine (KA.out _ _ HQ.out).mono ?_); rintro e wA ⟨rfl, hT⟩; have HT := Lib.hid (hT.box (.cells #[.int .i64 f0, .int .i64 f1, .int .u64 f2] 39)); clear hT; clear y0 y1 y2 y3; obtain ⟨y0, y1, y2, y3⟩ := cell4 (HT.out.c _ (List.mem_cons_of_mem _ List.mem_cons_self))) | (go_at_call 24; (with_reducible refine (KB.out _ _ HT.out).mono ?_); rintro e wB ⟨rfl, v', hT⟩; have HU := Lib.hid (hT.box (.cells #[.int .i64 f0, .int .i64 f1, .int .u64 f2] 39)); clear hT; obtain ⟨c0, c1, c2, _⟩ := cellsT (HU.out.c _ List.mem_cons_self); obtain ⟨d0, d1, d2, _⟩ := cellsT (HU.out.c _ (List.mem_cons_of_mem _ List.mem_cons_self))))
  go_ret
  exact ⟨by simp, _, _, _, HU.out.less (fun q hq => by cases hq), hO2.out, by omega⟩
set_option maxRecDepth 100000 in
set_option maxHeartbeats 8000000 in
theorem doesGo (kd k i t n : Int) (w0 : World) (B D R : Nat) (v : Value) (l : List Wh.E) (w : World) (hl : l.length ≤ 800) (hO : OkL l) (ht : (Lit.int .u64 t).wf = true) (h0 : kd ≠ 0) (h1 : kd ≠ 1) (h2 : kd ≠ 2) (h : TwoS w0 B D R v n l n l [] w) :
    Calls Try.prog 8 #[.pointer (some ⟨D, 0, none⟩), .pointer (some ⟨R, 0, none⟩), .agg #[.int .i64 kd, .int .i64 k, .int .i64 i, .int .u64 t]] w (RetDoes w0 B D R l) := by
  have HQ := Lib.hid (h.box (.cells #[.int .i64 kd, .int .i64 k, .int .i64 i, .int .u64 t] 33))
  have KN := Lib.hid numC
  have t0 : (kd == 0) = false := by simpa using h0
  have t1 : (kd == 1) = false := by simpa using h1
  have t2 : (kd == 2) = false := by simpa using h2
  have KA := Lib.hid (fun W h => two_real (w0 := w0) (R := R) (v := v) (nr := n) (lr := l) (qs := [(w.heap.size, .cells #[.int .i64 kd, .int .i64 k, .int .i64 i, .int .u64 t] 33)]) (fun w' G h => dGoC t w' B D n l G (by omega) ht h) W h)
  have KB := Lib.hid (fun W h => two_ref (w0 := w0) (D := D) (v := v) (nw := tickG l n t) (lw := l) (qs := [(w.heap.size, .cells #[.int .i64 kd, .int .i64 k, .int .i64 i, .int .u64 t] 33)]) (fun w' v' h => rGoC t n B R v' l w' (by omega) (Wh.nodup_of hO.nd) h) W h)
  have HO := Lib.hid hO
  clear h hO ht h0 h1 h2
  generalize goB l t = rr at *
  generalize tickG l n t = n2 at *
  go_enter Try.func8, Try.ntmps8
  go_upto_region 10 with fail
  refine wp_region_any (by kernel_rfl) ?_
  change wpAny _ _ _ _ _ _ _ (World.drew _)
  refine wpAny_of_held (S := fun w' => w'.heap[w.heap.size]? = some (.cells #[.int .i64 kd, .int .i64 k, .int .i64 i, .int .u64 t] 33)) _ _ _ _ ?_
  have hV := HQ.out.below ((Below.refl _ _).drew)
  have hS := hV.c _ List.mem_cons_self
  refine takeH 0 72 ?_ rfl rfl (by kernel_rfl) (by kernel_rfl) (by kernel_rfl) (fun _ _ _ h => h) (Or.inl ⟨by kernel_rfl, ?_⟩) hS ?_; rotate_left; (intro w' hw; skip; first | (go_simp; done) | (go_simp; with_reducible rfl)); rotate_left
  try simp only [List.setIfInBounds_toArray, List.set_cons_zero, List.set_cons_succ]
  refine takeH 1 73 ?_ rfl rfl (by kernel_rfl) (by kernel_rfl) (by kernel_rfl) (fun _ _ _ h => h) (Or.inl ⟨by kernel_rfl, ?_⟩) hS ?_; rotate_left; (intro w' hw; skip; first | (go_simp; done) | (go_simp; with_reducible rfl)); rotate_left
  try simp only [List.setIfInBounds_toArray, List.set_cons_zero, List.set_cons_succ]
  refine takeH 2 74 ?_ rfl rfl (by kernel_rfl) (by kernel_rfl) (by kernel_rfl) (fun _ _ _ h => h) (Or.inl ⟨by kernel_rfl, ?_⟩) hS ?_; rotate_left; (intro w' hw; (have z1 : w'.cell? ⟨w.heap.size, 1, none⟩ = some (.int .i64 k) := (by rw [cell_of_row w' _ _ _ _ _ hw]; rfl)); (have z2 : w'.cell? ⟨w.heap.size, 2, none⟩ = some (.int .i64 i) := (by rw [cell_of_row w' _ _ _ _ _ hw]; rfl)); (have z3 : w'.cell? ⟨w.heap.size, 3, none⟩ = some (.int .u64 t) := (by rw [cell_of_row w' _ _ _ _ _ hw]; rfl)); first | (go_simp; done) | (go_simp; with_reducible rfl)); rotate_left
  try simp only [List.setIfInBounds_toArray, List.set_cons_zero, List.set_cons_succ]
  refine takeH 4 76 ?_ rfl rfl (by kernel_rfl) (by kernel_rfl) (by kernel_rfl) (fun _ _ _ h => h) (Or.inl ⟨by kernel_rfl, ?_⟩) hS ?_; rotate_left; (intro w' hw; skip; first | (go_simp; done) | (go_simp; with_reducible rfl)); rotate_left
  try simp only [List.setIfInBounds_toArray, List.set_cons_zero, List.set_cons_succ]
  refine takeH 5 77 ?_ rfl rfl (by kernel_rfl) (by kernel_rfl) (by kernel_rfl) (fun _ _ _ h => h) (Or.inl ⟨by kernel_rfl, ?_⟩) hS ?_; rotate_left; (intro w' hw; skip; first | (go_simp; done) | (go_simp; with_reducible rfl)); rotate_left
  try simp only [List.setIfInBounds_toArray, List.set_cons_zero, List.set_cons_succ]
  refine takeH 6 78 ?_ rfl rfl (by kernel_rfl) (by kernel_rfl) (by kernel_rfl) (fun _ _ _ h => h) (Or.inl ⟨by kernel_rfl, ?_⟩) hS ?_; rotate_left; (intro w' hw; (have z1 : w'.cell? ⟨w.heap.size, 1, none⟩ = some (.int .i64 k) := (by rw [cell_of_row w' _ _ _ _ _ hw]; rfl)); (have z2 : w'.cell? ⟨w.heap.size, 2, none⟩ = some (.int .i64 i) := (by rw [cell_of_row w' _ _ _ _ _ hw]; rfl)); (have z3 : w'.cell? ⟨w.heap.size, 3, none⟩ = some (.int .u64 t) := (by rw [cell_of_row w' _ _ _ _ _ hw]; rfl)); first | (go_simp; done) | (go_simp; with_reducible rfl)); rotate_left
  try simp only [List.setIfInBounds_toArray, List.set_cons_zero, List.set_cons_succ]
  refine wpAnyH_ready (rs := [3]) (by kernel_rfl) (by simp) ?_; refine AllReadyH.cons rfl (fun K2 hK => ?_) AllReadyH.nil; go_simp; go_wp2_with (go_at_call 17; (with_reducible refine (KA.out _ hV).mono ?_); rintro e wA ⟨rfl, hT⟩; replace hV := hT; clear hT; replace hS := hV.c _ List.mem_cons_self); refine hK.out _ _ ?_ (fun _ => ?_); (exact hS); clear hK K2
  refine wpAnyH_ready (rs := [7]) (by kernel_rfl) (by simp) ?_; refine AllReadyH.cons rfl (fun K2 hK => ?_) AllReadyH.nil; go_simp; go_wp2_with (go_at_call 25; (with_reducible refine (KB.out _ hV).mono ?_); rintro e wB ⟨rfl, v', hT⟩; replace hV := hT; clear hT; replace hS := hV.c _ List.mem_cons_self); refine hK.out _ _ ?_ (fun _ => ?_); (exact hS); clear hK K2
  refine takeH 8 80 ?_ rfl rfl (by kernel_rfl) (by kernel_rfl) (by kernel_rfl) (fun _ _ _ h => h) (Or.inl ⟨by kernel_rfl, ?_⟩) hS ?_; rotate_left; (intro w' hw; skip; first | (go_simp; done) | (go_simp; with_reducible rfl)); rotate_left
  try simp only [List.setIfInBounds_toArray, List.set_cons_zero, List.set_cons_succ]
  refine takeH 9 6 ?_ rfl rfl (by kernel_rfl) (by kernel_rfl) (by kernel_rfl) (fun _ _ _ h => h) (Or.inl ⟨by kernel_rfl, ?_⟩) hS ?_; rotate_left; (intro w' hw; skip; first | (go_simp; done) | (go_simp; with_reducible rfl)); rotate_left
  try simp only [List.setIfInBounds_toArray, List.set_cons_zero, List.set_cons_succ]
  refine wpAnyH_done (by kernel_rfl) ?_ _
  go_wp2
  go_ret
  exact ⟨by simp, _, _, _, hV.less (fun q hq => by cases hq), HO.out, by omega⟩
theorem doesC (kd k i t n : Int) (w0 : World) (B D R : Nat) (v : Value) (l : List Wh.E) (w : World) (hl : l.length ≤ 800) (hO : OkL l) (ht : (Lit.int .u64 t).wf = true) (h : TwoS w0 B D R v n l n l [] w) :
    Calls Try.prog 8 #[.pointer (some ⟨D, 0, none⟩), .pointer (some ⟨R, 0, none⟩), .agg #[.int .i64 kd, .int .i64 k, .int .i64 i, .int .u64 t]] w (RetDoes w0 B D R l) := by
  by_cases h0 : kd = 0
  · subst h0; exact doesSet k i t n w0 B D R v l w hl hO ht h
  · by_cases h1 : kd = 1
    · subst h1; exact doesClear k i t n w0 B D R v l w hl hO ht h
    · by_cases h2 : kd = 2
      · subst h2; exact doesFirst k i t n w0 B D R v l w hl hO ht h
      · exact doesGo kd k i t n w0 B D R v l w hl hO ht h0 h1 h2 h
end Go.Proofs.Ytmmfmpnkjienfaa
