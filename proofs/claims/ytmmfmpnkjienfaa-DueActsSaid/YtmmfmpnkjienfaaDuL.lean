/-
  The set's First.
-/
import Derived.Test.YtmmfmpnkjienfaaDuK
import Derived.Laws.ResultCell
namespace Go.Proofs.Ytmmfmpnkjienfaa
open Go.RowKit
set_option linter.unusedVariables false

/-- beside a block of this call's own -/
structure DQ1 (w0 : World) (G : Nat → Prop) (B D : Nat) (now : Int) (l r : List Wh.E) (P : Nat) (F : Nat → Prop) (a : Option Addr) (cap : Nat) (Q : Nat) (o : Obj) (w : World) : Prop where
  q : DQ w0 G B D now l r P F a cap w
  c : w.heap[Q]? = some o
  n : ¬ DF D F a Q
  z : w0.heap.size ≤ Q
section
variable {w0 w w' : World} {G : Nat → Prop} {B D Q : Nat} {o : Obj} {now n' : Int} {l l' r r' : List Wh.E} {P P' : Nat} {F F' : Nat → Prop} {a a' : Option Addr} {cap cap' : Nat}
/-- behind one more step of the set's -/
theorem DQ1.seg (h : DQ1 w0 G B D now l r P F a cap Q o w) (h' : DQ w (DF D F a) B D n' l' r' P' F' a' cap' w') : DQ1 w0 G B D n' l' r' P' F' a' cap' Q o w' := by
  have hQ := lt_block h.c
  have hs := h.q.chg.size
  refine ⟨⟨h'.at_, fun k hk => ?_, h.q.chg.trans h'.chg h.q.new⟩, (h'.chg.block Q hQ h.n).trans h.c, fun hk => ?_, h.z⟩
  · rcases h'.new k hk with e | e
    · exact h.q.new k e
    · exact Or.inr (by omega)
  · rcases h'.new Q hk with e | e
    · exact h.n e
    · omega
theorem DQ1.below (h : DQ1 w0 G B D now l r P F a cap Q o w) (hb : Below w.heap.size w w') : DQ1 w0 G B D now l r P F a cap Q o w' := h.seg (h.q.at_.start.below hb)
/-- beside a new block -/
theorem DQ.box (h : DQ w0 G B D now l r P F a cap w) (o : Obj) : DQ1 w0 G B D now l r P F a cap w.heap.size o (w.alloc o) :=
  ⟨h.below ((Below.refl _ _).alloc (Nat.le_refl _) _), heap_alloc_new _ _, fun hk => by have := (h.at_.lt _ hk).2; omega, h.chg.size⟩
end
theorem DIs.box {w : World} {B D : Nat} {now : Int} {l : List Wh.E} {G : Nat → Prop} (h : DIs w B D now l G) (o : Obj) : ∃ P F a cap, DQ1 w G B D now l (Wh.turned l now) P F a cap w.heap.size o (w.alloc o) := by
  obtain ⟨P, F, a, cap, h, rfl⟩ := h
  exact ⟨P, F, a, cap, h.start.box o⟩
/-- Next, beside a block -/
theorem DQ1.next {w0 w : World} {G : Nat → Prop} {B D Q : Nat} {o : Obj} {now : Int} {l : List Wh.E} {P : Nat} {F : Nat → Prop} {a : Option Addr} {cap : Nat} (hl : l.length ≤ 1000) (h : DQ1 w0 G B D now l (Wh.turned l now) P F a cap Q o w) :
    Calls Try.prog 11 #[.pointer (some ⟨D, 0, none⟩)] w fun e w' => e = .returned (atV (Wh.nextR l)) ∧ ∃ P F a cap, DQ1 w0 G B D now l (Wh.turned l now) P F a cap Q o w' := by
  refine (dNextC w B D now l (DF D F a) hl ⟨P, F, a, cap, h.q.at_, rfl⟩).mono fun e w' hr => ?_
  obtain ⟨F', ⟨P2, F2, a2, cap2, h2, rfl⟩, hs⟩ := hr.s
  exact ⟨hr.r, P2, F2, a2, cap2, h.seg ⟨h2, hs, hr.c⟩⟩

/-- what First returns -/
def firstV : Option Wh.E → Value
  | none => .tuple #[.agg #[.int .i64 0, .int .i64 0, .int .u64 0], .bool false]
  | some e => .tuple #[.agg #[.int .i64 (Wh.kd e), .int .i64 (Wh.nm e), .int .u64 e.2], .bool true]
/-- the result's cell -/
abbrev zeroT : Obj := .cells #[.int .i64 0, .int .i64 0, .int .u64 0] 39
theorem cellsT {w : World} {Q : Nat} {x y z : Value} (h : w.heap[Q]? = some (.cells #[x, y, z] 39)) : w.cell? ⟨Q, 0, none⟩ = some x ∧ w.cell? ⟨Q, 1, none⟩ = some y ∧ w.cell? ⟨Q, 2, none⟩ = some z ∧ w.frozen? ⟨Q, 0, none⟩ = false ∧ w.frozen? ⟨Q, 1, none⟩ = false ∧ w.frozen? ⟨Q, 2, none⟩ = false :=
  ⟨by rw [cell_of_row w _ _ _ _ _ h]; rfl, by rw [cell_of_row w _ _ _ _ _ h]; rfl, by rw [cell_of_row w _ _ _ _ _ h]; rfl, frozen_of w _ _ _ _ h, frozen_of w _ _ _ _ h, frozen_of w _ _ _ _ h⟩
/-- the result stored -/
theorem DQ1.result {w0 w : World} {G : Nat → Prop} {B D Q : Nat} {o : Obj} {now : Int} {l : List Wh.E} {P : Nat} {F : Nat → Prop} {a : Option Addr} {cap : Nat} {r : Value} {e : Ending} (he : e = .returned r) (h : DQ1 w0 G B D now l (Wh.turned l now) P F a cap Q o w) (x y z : Value) :
    RetW DIs r B D now l G w0 e (((w.setCell ⟨Q, 0, none⟩ x).setCell ⟨Q, 1, none⟩ y).setCell ⟨Q, 2, none⟩ z) :=
  (((h.q.other h.z h.n x).other h.z h.n y).other h.z h.n z).ret he

set_option maxRecDepth 100000 in
set_option maxHeartbeats 2000000 in
theorem firstNone (to_ : Int) (w : World) (B D : Nat) (now : Int) (l : List Wh.E) (G : Nat → Prop) (hl : l.length ≤ 900) (h : DIs w B D now l G) (hn : ∀ e, Wh.firstOf l = some e → to_ < e.2) :
    Calls Try.prog 16 #[.pointer (some ⟨D, 0, none⟩), .int .u64 to_] w (RetW DIs (firstV none) B D now l G w) := by
  have hnl : l.Nodup := by
    obtain ⟨P, F, a, cap, h, _⟩ := h
    exact Wh.nodup_of h.nd
  obtain ⟨P, F, a, cap, h1⟩ := h.box zeroT
  have kn := DQ1.next (by omega) h1
  have hnx := Wh.nextR_first hnl
  have hfin : ∀ e w2, (∃ P F a cap, DQ1 w G B D now l (Wh.turned l now) P F a cap w.heap.size zeroT w2) → w2.cell? ⟨w.heap.size, 0, none⟩ = some (.int .i64 0) ∧ w2.cell? ⟨w.heap.size, 1, none⟩ = some (.int .i64 0) ∧ w2.cell? ⟨w.heap.size, 2, none⟩ = some (.int .u64 0) ∧ w2.frozen? ⟨w.heap.size, 0, none⟩ = false ∧ w2.frozen? ⟨w.heap.size, 1, none⟩ = false ∧ w2.frozen? ⟨w.heap.size, 2, none⟩ = false ∧
      (e = .returned (firstV none) → RetW DIs (firstV none) B D now l G w e (((w2.setCell ⟨w.heap.size, 0, none⟩ (.int .i64 0)).setCell ⟨w.heap.size, 1, none⟩ (.int .i64 0)).setCell ⟨w.heap.size, 2, none⟩ (.int .u64 0))) := by
    rintro e w2 ⟨P, F, a, cap, hq⟩
    obtain ⟨c0, c1, c2, f0, f1, f2⟩ := cellsT hq.c
    exact ⟨c0, c1, c2, f0, f1, f2, fun he => hq.result he _ _ _⟩
  have HF := Lib.hid hfin
  cases hf : Wh.firstOf l with
  | none =>
    rw [hnx, hf, show atV (Option.map (fun x => x.2) (none : Option Wh.E)) = .tuple #[.int .u64 0, .bool false] from rfl] at kn
    have KN := Lib.hid kn
    clear kn h1 h hnx hn hf hfin hnl
    go_enter Try.func16, Try.ntmps16
    go_wp2_with (go_at_call 11; (with_reducible refine KN.out.mono ?_); rintro e w2 ⟨rfl, hq⟩; obtain ⟨c0, c1, c2, f0, f1, f2, hfn⟩ := HF.out (.returned (firstV none)) _ hq; have HFN := Lib.hid (hfn rfl); clear hq hfn)
    (try simp only [Exit.inBlock, Exit.then])
    refine bodyPost_ret (v := firstV none) ?_ rfl ?_
    · rw [results_cell_tmp rfl]; go_simp; (try rfl)
    · exact HFN.out
  | some x =>
    have hx := hn x hf
    rw [hnx, hf, show atV (Option.map (fun x => x.2) (some x)) = .tuple #[.int .u64 x.2, .bool true] from rfl] at kn
    have KN := Lib.hid kn
    have t1 : decide (to_ < x.2) = true := decide_eq_true hx
    clear kn h1 h hnx hn hf hfin hnl hx
    generalize x.2 = y at *
    go_enter Try.func16, Try.ntmps16
    go_wp2_with (go_at_call 11; (with_reducible refine KN.out.mono ?_); rintro e w2 ⟨rfl, hq⟩; obtain ⟨c0, c1, c2, f0, f1, f2, hfn⟩ := HF.out (.returned (firstV none)) _ hq; have HFN := Lib.hid (hfn rfl); clear hq hfn)
    (try simp only [Exit.inBlock, Exit.then])
    refine bodyPost_ret (v := firstV none) ?_ rfl ?_
    · rw [results_cell_tmp rfl]; go_simp; (try rfl)
    · exact HFN.out

/-- the first of what is ready -/
structure Pop (w0 : World) (G : Nat → Prop) (B D : Nat) (n : Int) (l : List Wh.E) (Q P g off cap tl : Nat) (A : Addr) (x : Wh.E) (w2 : World) : Prop where
  hA : (if cap = 1 then (some ⟨g, off, none⟩ : Option Addr) else some ⟨g, off + 3, none⟩) = some A
  hcap : 1 ≤ cap
  c1 : w2.cell? ⟨D, 1, none⟩ = some (.slice (some ⟨g, off, none⟩) (tl + 1) cap)
  d0 : w2.cell? ⟨g, off, none⟩ = some (.int .i64 0)
  d1 : w2.cell? ⟨g, off + 1, none⟩ = some (.int .i64 x.1)
  d2 : w2.cell? ⟨g, off + 2, none⟩ = some (.int .u64 x.2)
  c2 : (w2.alloc (.cells #[.int .i64 0, .int .i64 x.1, .int .u64 x.2] 39)).cell? ⟨D, 1, none⟩ = some (.slice (some ⟨g, off, none⟩) (tl + 1) cap)
  f2 : (w2.alloc (.cells #[.int .i64 0, .int .i64 x.1, .int .u64 x.2] 39)).frozen? ⟨D, 1, none⟩ = false
  p : ((w2.alloc (.cells #[.int .i64 0, .int .i64 x.1, .int .u64 x.2] 39)).setCell ⟨D, 1, none⟩ (.slice (some A) tl (cap - 1))).drew.cell? ⟨D, 0, none⟩ = some (.pointer (some ⟨P, 0, none⟩))
  b : ((w2.alloc (.cells #[.int .i64 0, .int .i64 x.1, .int .u64 x.2] 39)).setCell ⟨D, 1, none⟩ (.slice (some A) tl (cap - 1))).drew.cell? ⟨w2.heap.size, 1, none⟩ = some (.int .i64 x.1)
  drop : Calls Try.prog 36 #[.pointer (some ⟨P, 0, none⟩), .int .i64 x.1] ((w2.alloc (.cells #[.int .i64 0, .int .i64 x.1, .int .u64 x.2] 39)).setCell ⟨D, 1, none⟩ (.slice (some A) tl (cap - 1))).drew fun e w5 => e = .returned (.bool true) ∧
    (w5.cell? ⟨w2.heap.size, 1, none⟩ = some (.int .i64 x.1) ∧ w5.cell? ⟨w2.heap.size, 2, none⟩ = some (.int .u64 x.2)) ∧
    (w5.cell? ⟨Q, 0, none⟩ = some (.int .i64 0) ∧ w5.cell? ⟨Q, 1, none⟩ = some (.int .i64 0) ∧ w5.cell? ⟨Q, 2, none⟩ = some (.int .u64 0) ∧ w5.frozen? ⟨Q, 0, none⟩ = false ∧ w5.frozen? ⟨Q, 1, none⟩ = false ∧ w5.frozen? ⟨Q, 2, none⟩ = false) ∧
    Hid (∀ r x0 x1 x2, RetW DIs r B D n (Wh.without l x.1) G w0 (.returned r) (((w5.setCell ⟨Q, 0, none⟩ x0).setCell ⟨Q, 1, none⟩ x1).setCell ⟨Q, 2, none⟩ x2))
theorem pop_facts {w0 w2 : World} {G : Nat → Prop} {B D Q : Nat} {n : Int} {l t : List Wh.E} {P : Nat} {F : Nat → Prop} {a : Option Addr} {cap : Nat} {x : Wh.E} (hr : Wh.turned l n = x :: t) (h : DQ1 w0 G B D n l (x :: t) P F a cap Q zeroT w2) :
    ∃ g off A, Pop w0 G B D n l Q P g off cap t.length A x w2 := by
  have hat := h.q.at_
  have hnl := Wh.nodup_of hat.nd
  have hmem : x ∈ Wh.turned l n := by rw [hr]; exact List.mem_cons_self
  have hxl := (Wh.turned_mem.1 hmem).1
  have hgx := Good.one hat.good hxl
  have hfx : Wh.find l x.1 = some x.2 := Wh.find_of_mem hat.nd hxl
  obtain ⟨g, off, cur, rfl, hB, hg, hs, hc⟩ := hat.rd.got (Nat.succ_pos _)
  obtain ⟨d0, d1, d2⟩ := rd_cells hg hc 0 (Nat.succ_pos _)
  simp only [Nat.zero_mul, Nat.add_zero, List.getElem_cons_zero] at d0 d1 d2
  have hle := hat.rd.le
  simp only [List.length_cons] at hle
  obtain ⟨A, hA⟩ : ∃ A, (if cap = 1 then (some ⟨g, off, none⟩ : Option Addr) else some ⟨g, off + 3, none⟩) = some A := by
    by_cases e : cap = 1
    · exact ⟨_, by rw [if_pos e]⟩
    · exact ⟨_, by rw [if_neg e]⟩
  have hAb : A.block = g := by
    by_cases e : cap = 1
    · rw [if_pos e] at hA; cases hA; rfl
    · rw [if_neg e] at hA; cases hA; rfl
  -- the box
  have hb3 : Below w2.heap.size w2 (w2.alloc (.cells #[.int .i64 0, .int .i64 x.1, .int .u64 x.2] 39)) := (Below.refl _ _).alloc (Nat.le_refl _) _
  have h3 := h.below hb3
  have h3b := h.q.box (.cells #[.int .i64 0, .int .i64 x.1, .int .u64 x.2] 39)
  -- the header
  have hpop := h3.q.at_.rd.pop
  rw [hA] at hpop
  have h4 := h3.q.at_.start.ready2 (r' := t) hpop (fun y hy => by cases hy; rw [hAb]; exact h3.q.at_.aF _ rfl) (fun y hy => Or.inl (by cases hy; rw [hAb]; exact Or.inr (Or.inr ⟨_, rfl, rfl⟩))) rfl
  have h4' := h4.below (w' := ((w2.alloc (.cells #[.int .i64 0, .int .i64 x.1, .int .u64 x.2] 39)).setCell ⟨D, 1, none⟩ (.slice (some A) t.length (cap - 1))).drew) (Below.refl _ _).drew
  have hQ4 := h3.seg h4'
  have hB4 := h3b.seg h4'
  refine ⟨g, off, A, hA, by omega, hat.sl, d0, d1, d2, h3.q.at_.sl, h3.q.at_.fr 1, h4'.at_.ptr, (cellsT hB4.c).2.1, ?_⟩
  have hwf := good_wf hgx
  have hhas : Wh.has l x.1 = true := by unfold Wh.has; rw [hfx]; rfl
  have kd := dropC x.1 _ B P n l F hwf.1 h4'.at_.nd h4'.at_.wh
  rw [hhas] at kd
  refine kd.mono fun e w5 hw => ?_
  obtain ⟨F5, h5⟩ := hQ4.q.at_.start.dropped hw
  have hQ5 := hQ4.seg h5
  have hB5 := hB4.seg h5
  obtain ⟨b0, b1, b2, _⟩ := cellsT hB5.c
  have ht : t = Wh.turned (Wh.without l x.1) n := by
    have h0 : 0 < (Wh.turned l n).length := by rw [hr]; exact Nat.succ_pos _
    have hx0 : (Wh.turned l n)[0] = (x.1, x.2) := by simp [hr]
    have := Wh.turned_drop hat.nd hfx h0 hx0
    rw [← this, hr]
    rfl
  rw [ht] at hQ5
  exact ⟨hw.r, ⟨b1, b2⟩, cellsT hQ5.c, Lib.hid (fun r x0 x1 x2 => hQ5.result rfl x0 x1 x2)⟩

set_option maxRecDepth 100000 in
set_option maxHeartbeats 2000000 in
theorem firstReady (to_ : Int) (w : World) (B D : Nat) (now : Int) (l t : List Wh.E) (x : Wh.E) (G : Nat → Prop) (hl : l.length ≤ 900) (h : DIs w B D now l G) (hr : Wh.turned l now = x :: t) (hx : x.2 ≤ to_) :
    Calls Try.prog 16 #[.pointer (some ⟨D, 0, none⟩), .int .u64 to_] w (RetW DIs (firstV (some x)) B D now (Wh.without l x.1) G w) := by
  have hnl : l.Nodup := by
    obtain ⟨P, F, a, cap, h, _⟩ := h
    exact Wh.nodup_of h.nd
  have hgx : Wh.Good [x] := by
    obtain ⟨P, F, a, cap, h, _⟩ := h
    exact Good.one h.good (Wh.turned_mem.1 (show x ∈ Wh.turned l now by rw [hr]; exact List.mem_cons_self)).1
  obtain ⟨hfo, _⟩ := Wh.turned_head hnl hr
  obtain ⟨P, F, a, cap, h1⟩ := h.box zeroT
  have kn := DQ1.next (by omega) h1
  have hnx := Wh.nextR_first hnl
  rw [hnx, hfo, show atV (Option.map (fun x => x.2) (some x)) = .tuple #[.int .u64 x.2, .bool true] from rfl, hr] at kn
  have KN := Lib.hid kn
  have HPOP := Lib.hid (fun w2 P F a cap (hq : DQ1 w G B D now l (x :: t) P F a cap w.heap.size zeroT w2) => pop_facts hr hq)
  have t1 : decide (to_ < x.2) = false := decide_eq_false (by omega)
  have hgx2 := hgx x List.mem_cons_self
  have hkw : wrap64 (Wh.kd x) = Wh.kd x := by
    have := Wh.may_of hgx List.mem_cons_self
    unfold Wh.May at this
    unfold wrap64
    omega
  have hk1 : x.1.tdiv 1099511627777 = Wh.kd x := Int.tdiv_eq_ediv_of_nonneg (by omega)
  have hk2 : x.1.tmod 1099511627777 = Wh.nm x := Int.tmod_eq_emod_of_nonneg (by omega)
  have hV : firstV (some x) = .tuple #[.agg #[.int .i64 (Wh.kd x), .int .i64 (Wh.nm x), .int .u64 x.2], .bool true] := rfl
  rw [hV]
  have htl : t.length ≤ 1000 := by
    have := Wh.turned_length l now
    rw [hr] at this
    simp only [List.length_cons] at this
    omega
  clear kn h1 h hnx hfo hnl hx hgx hgx2 hV
  go_enter Try.func16, Try.ntmps16
  go_wp2_with (first | (go_at_call 11; (with_reducible refine KN.out.mono ?_); rintro e w2 ⟨rfl, P2, F2, a2, cap2, hq⟩; obtain ⟨g, off, A, hpop⟩ := HPOP.out _ _ _ _ _ hq; have c1 := hpop.c1; have d0 := hpop.d0; have d1 := hpop.d1; have d2 := hpop.d2; have c2 := hpop.c2; have f2 := hpop.f2; have hA := hpop.hA; have hcap := hpop.hcap; have HP := Lib.hid hpop; clear hq hpop))
  have p1 := HP.out.p
  have b1 := HP.out.b
  have KD := Lib.hid HP.out.drop
  refine wp_region_still_tail 6 (by kernel_rfl) (by kernel_rfl) ?_
  simp only [List.take_succ_cons, List.take_zero, List.drop_succ_cons, List.drop_zero]
  change wpStill _ _ (World.drew _) (fun a' => wpList _ _ _ _ a' (World.drew _)) _ _
  repeat still_step
  refine wpStill_nil ?_
  clear c1 d0 d1 d2 c2 f2 hA p1 b1 HP
  go_wp2_with (go_at_call 36; (with_reducible refine KD.out.mono ?_); rintro e w5 ⟨rfl, ⟨b1, b2⟩, ⟨q0, q1, q2, g0, g1, g2⟩, hfin⟩)
  (try simp only [Exit.inBlock, Exit.then])
  refine bodyPost_ret (v := .tuple #[.agg #[.int .i64 (Wh.kd x), .int .i64 (Wh.nm x), .int .u64 x.2], .bool true]) ?_ rfl ?_
  · rw [results_cell_tmp rfl]; go_simp; (try exact hkw); (try rfl)
  · exact hfin.out _ _ _ _
set_option maxRecDepth 100000 in
set_option maxHeartbeats 2000000 in
theorem firstAdv (to_ : Int) (w : World) (B D : Nat) (now : Int) (l t : List Wh.E) (x : Wh.E) (G : Nat → Prop) (hl : l.length ≤ 900) (h : DIs w B D now l G) (h0 : Wh.turned l now = []) (hfo : Wh.firstOf l = some x) (hr : Wh.turned l x.2 = x :: t) (hx : x.2 ≤ to_) :
    Calls Try.prog 16 #[.pointer (some ⟨D, 0, none⟩), .int .u64 to_] w (RetW DIs (firstV (some x)) B D x.2 (Wh.without l x.1) G w) := by
  have hnl : l.Nodup := by
    obtain ⟨P, F, a, cap, h, _⟩ := h
    exact Wh.nodup_of h.nd
  have hgx : Wh.Good [x] := by
    obtain ⟨P, F, a, cap, h, _⟩ := h
    exact Good.one h.good (Wh.turned_mem.1 (show x ∈ Wh.turned l x.2 by rw [hr]; exact List.mem_cons_self)).1
  obtain ⟨P, F, a, cap, h1⟩ := h.box zeroT
  have kn := DQ1.next (by omega) h1
  have hnx := Wh.nextR_first hnl
  rw [hnx, hfo, show atV (Option.map (fun x => x.2) (some x)) = .tuple #[.int .u64 x.2, .bool true] from rfl, h0] at kn
  have KN := Lib.hid kn
  have HPOP := Lib.hid (fun w2 P F a cap (hq : DQ1 w G B D x.2 l (x :: t) P F a cap w.heap.size zeroT w2) => pop_facts hr hq)
  have hlater : now < x.2 := Wh.turned_empty h0 x (Wh.firstOf_is hnl hfo).1
  have HADV := Lib.hid (fun w2 P F a cap (hq : DQ1 w G B D now l [] P F a cap w.heap.size zeroT w2) => (advanceC x.2 w2 w2 (DF D F a) B D now l P F a cap hl (good_wf hgx).2 hlater hq.q.at_.start).mono (R' := fun e w' => e = .returned (.tuple #[]) ∧ ∃ g off A P F a cap, Pop w G B D x.2 l w.heap.size P g off cap t.length A x w') (fun e w' ha => by
    obtain ⟨F', a', cap', h2⟩ := ha.s
    have h3 := hq.seg h2
    rw [hr] at h3
    obtain ⟨g, off, A, hp⟩ := pop_facts hr h3
    exact ⟨ha.e, g, off, A, P, F', a', cap', hp⟩))
  have t1 : decide (to_ < x.2) = false := decide_eq_false (by omega)
  have hgx2 := hgx x List.mem_cons_self
  have hkw : wrap64 (Wh.kd x) = Wh.kd x := by
    have := Wh.may_of hgx List.mem_cons_self
    unfold Wh.May at this
    unfold wrap64
    omega
  have hk1 : x.1.tdiv 1099511627777 = Wh.kd x := Int.tdiv_eq_ediv_of_nonneg (by omega)
  have hk2 : x.1.tmod 1099511627777 = Wh.nm x := Int.tmod_eq_emod_of_nonneg (by omega)
  have hV : firstV (some x) = .tuple #[.agg #[.int .i64 (Wh.kd x), .int .i64 (Wh.nm x), .int .u64 x.2], .bool true] := rfl
  rw [hV]
  have htl : t.length ≤ 1000 := by
    have := Wh.turned_length l x.2
    rw [hr] at this
    simp only [List.length_cons] at this
    omega
  clear kn h1 h hnx hfo hnl hx hgx hgx2 hV h0 hlater hr
  go_enter Try.func16, Try.ntmps16
  go_wp2_with (first | (go_at_call 11; (with_reducible refine KN.out.mono ?_); rintro e w1 ⟨rfl, P1, F1, a1, cap1, hq⟩; have e1 := hq.q.at_.sl; have HQ := Lib.hid (HADV.out _ _ _ _ _ hq); clear hq) | (go_at_call 35; (with_reducible refine HQ.out.mono ?_); rintro e w2 ⟨rfl, g, off, A, P2, F2, a2, cap2, hpop⟩; clear e1; have c1 := hpop.c1; have d0 := hpop.d0; have d1 := hpop.d1; have d2 := hpop.d2; have c2 := hpop.c2; have f2 := hpop.f2; have hA := hpop.hA; have hcap := hpop.hcap; have HP := Lib.hid hpop; clear hpop))
  have p1 := HP.out.p
  have b1 := HP.out.b
  have KD := Lib.hid HP.out.drop
  refine wp_region_still_tail 6 (by kernel_rfl) (by kernel_rfl) ?_
  simp only [List.take_succ_cons, List.take_zero, List.drop_succ_cons, List.drop_zero]
  change wpStill _ _ (World.drew _) (fun a' => wpList _ _ _ _ a' (World.drew _)) _ _
  repeat still_step
  refine wpStill_nil ?_
  clear c1 d0 d1 d2 c2 f2 hA p1 b1 HP
  go_wp2_with (go_at_call 36; (with_reducible refine KD.out.mono ?_); rintro e w5 ⟨rfl, ⟨b1, b2⟩, ⟨q0, q1, q2, g0, g1, g2⟩, hfin⟩)
  (try simp only [Exit.inBlock, Exit.then])
  refine bodyPost_ret (v := .tuple #[.agg #[.int .i64 (Wh.kd x), .int .i64 (Wh.nm x), .int .u64 x.2], .bool true]) ?_ rfl ?_
  · rw [results_cell_tmp rfl]; go_simp; (try exact hkw); (try rfl)
  · exact hfin.out _ _ _ _

theorem firstC (to_ : Int) (w : World) (B D : Nat) (now : Int) (l : List Wh.E) (G : Nat → Prop) (hl : l.length ≤ 900) (h : DIs w B D now l G) :
    (∀ x, Wh.firstOf l = some x → to_ < x.2) ∧ Calls Try.prog 16 #[.pointer (some ⟨D, 0, none⟩), .int .u64 to_] w (RetW DIs (firstV none) B D now l G w) ∨
    ∃ x, Wh.firstOf l = some x ∧ x.2 ≤ to_ ∧ Calls Try.prog 16 #[.pointer (some ⟨D, 0, none⟩), .int .u64 to_] w (RetW DIs (firstV (some x)) B D (later now x.2) (Wh.without l x.1) G w) := by
  have hnl : l.Nodup := by
    obtain ⟨P, F, a, cap, h, _⟩ := h
    exact Wh.nodup_of h.nd
  cases hf : Wh.firstOf l with
  | none => exact Or.inl ⟨fun x hx => (by cases hx), firstNone to_ w B D now l G hl h (fun e he => by rw [hf] at he; cases he)⟩
  | some x =>
    by_cases hx : x.2 ≤ to_
    · refine Or.inr ⟨x, rfl, hx, ?_⟩
      by_cases hn : x.2 ≤ now
      · obtain ⟨t, ht⟩ := Wh.turned_first hnl hf hn
        rw [show later now x.2 = now from by unfold later; rw [if_neg (by omega)]]
        exact firstReady to_ w B D now l t x G hl h ht hx
      · obtain ⟨t, ht⟩ := Wh.turned_first hnl hf (Int.le_refl x.2)
        rw [show later now x.2 = x.2 from by unfold later; rw [if_pos (by omega)]]
        have h0 : Wh.turned l now = [] := by
          cases hs : Wh.turned l now with
          | nil => rfl
          | cons y s =>
            obtain ⟨h1, h2⟩ := Wh.turned_head hnl hs
            rw [hf] at h1
            cases h1
            exact absurd h2 hn
        exact firstAdv to_ w B D now l t x G hl h h0 hf ht hx
    · refine Or.inl ⟨fun y hy => ?_, firstNone to_ w B D now l G hl h (fun y hy => ?_)⟩
      · cases hy; omega
      · rw [hf] at hy; cases hy; omega
end Go.Proofs.Ytmmfmpnkjienfaa
