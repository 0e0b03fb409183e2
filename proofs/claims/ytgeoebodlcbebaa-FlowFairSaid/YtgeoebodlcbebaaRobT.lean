/-
  A ring of flows: Pick.
  A ring of flows: Settle.
  A ring of flows: Settle, a link cut out.
  A ring of flows: a call of one of its queues; Take.
  A ring of flows: Take.
  A ring of flows: Take of a ring with flows.
  A ring of flows: New, Flows.
-/
import Derived.Test.YtgeoebodlcbebaaRobS
import Derived.Test.YtgeoebodlcbebaaFlowAll
import Derived.LaidEqlPtr
namespace Go.Proofs.Ytgeoebodlcbebaa
open Go.RowKit
open Rb (Nd)
set_option linter.unusedVariables false

theorem results_cct {fn : Func} {p p2 u : Tmp} {ty ty2 : TypeId} (h : fn.results = #[.cell p ty, .cell p2 ty2, .tmp u]) (tmps : Array Value) (P : Program) (w : World) :
    (results fn tmps).run P w =
      ((asAddr (tmps.getD p undef)).run P w).andThen fun a w₁ => ((loadVar ty a).run P w₁).andThen fun v w₂ => ((asAddr (tmps.getD p2 undef)).run P w₂).andThen fun a2 w₃ => ((loadVar ty2 a2).run P w₃).andThen fun v2 w₄ => .ok (.tuple #[v, v2, tmps.getD u undef]) w₄ := by
  simp only [results, h]
  simp [Sem.run_bind, Result.andThen]
theorem results_tct {fn : Func} {p p2 u : Tmp} {ty2 : TypeId} (h : fn.results = #[.tmp p, .cell p2 ty2, .tmp u]) (tmps : Array Value) (P : Program) (w : World) :
    (results fn tmps).run P w =
      ((asAddr (tmps.getD p2 undef)).run P w).andThen fun a2 w₃ => ((loadVar ty2 a2).run P w₃).andThen fun v2 w₄ => .ok (.tuple #[tmps.getD p undef, v2, tmps.getD u undef]) w₄ := by
  simp only [results, h]
  simp [Sem.run_bind, Result.andThen]
theorem run_mHead (q : Nat) (W : World) : (method (Try.prog.types.size + Made.depth) 69 (.pointer (some ⟨q, 0, none⟩)) "Head").run Try.prog W = .ok (77, .pointer (some ⟨q, 0, none⟩)) W := by kernel_rfl
theorem run_mPop (q : Nat) (W : World) : (method (Try.prog.types.size + Made.depth) 69 (.pointer (some ⟨q, 0, none⟩)) "Pop").run Try.prog W = .ok (78, .pointer (some ⟨q, 0, none⟩)) W := by kernel_rfl
theorem run_mLen (q : Nat) (W : World) : (method (Try.prog.types.size + Made.depth) 69 (.pointer (some ⟨q, 0, none⟩)) "Len").run Try.prog W = .ok (33, .pointer (some ⟨q, 0, none⟩)) W := by kernel_rfl
/-- what Pick tells of the links -/
def pickV : List Nd → Value
  | [] => .tuple #[flZ, .agg #[.int .i64 0, .int .i64 0], .bool false]
  | n :: _ => .tuple #[flV n, .agg #[.int .i64 (n.r.its.head?.getD (0, 0)).1, .int .i64 (n.r.its.head?.getD (0, 0)).2], .bool true]
structure RetPk (B R m : Nat) (F : Nat → Prop) (s : Fl.St) (w : World) (e : Ending) (w' : World) : Prop where
  s : ∃ ns x y, e = .returned (pickV ns) ∧ RIn w' B R m s.pick.q s.pick.g ns x y ∧ ns.map (·.r) = s.pick.l ∧ ∀ k, footG R m ns k ↔ F k
  c : Chg F w w'
abbrev preP (w : World) : World := ((w.alloc flO0).alloc zeroI)
theorem pk_head {w0 : World} {F : Nat → Prop} {B R m : Nat} {s s' : Fl.St} {n : Nd} {t : List Nd} {x y : Nat → Nat} (W : World) (h : PkQ w0 F B R m s s' (n :: t) x y W) (hS : Fl.Small 90000 s') (e0 : Ff.E) (r0 : List Ff.E) (he : n.r.its = e0 :: r0) :
    Calls Try.prog 77 #[.pointer (some ⟨n.q, 0, none⟩)] W fun e W' => e = .returned (.tuple #[.agg #[.int .i64 e0.1, .int .i64 e0.2], .bool true]) ∧ Hid (PkQ w0 F B R m s s' (n :: t) x y W') := by
  have hn : n ∈ n :: t := by simp
  have hr : n.r ∈ s'.l := by rw [← h.l]; simp
  refine (headC B n.q n.r.its n.F W (h.r.qs.q n hn) (by have := hS.its n.r hr; omega)).mono fun e W' hr => ⟨hr.e.trans ?_, Lib.hid (h.below hr.b)⟩
  rw [he]; rfl
theorem it_cells {W : World} {X : Nat} {a b : Int} (h : W.heap[X]? = some (itO a b)) : W.cell? ⟨X, 0, none⟩ = some (.int .i64 a) ∧ W.cell? ⟨X, 1, none⟩ = some (.int .i64 b) :=
  ⟨by rw [cell_of_row W _ _ _ _ _ h]; rfl, by rw [cell_of_row W _ _ _ _ _ h]; rfl⟩
theorem qw_bound {q w : Int} (h0 : 1 ≤ q) (h1 : q ≤ 64) (h2 : 1 ≤ w) (h3 : w ≤ 16) : 0 ≤ q * w ∧ q * w ≤ 1024 := by
  have := Int.mul_le_mul h1 h3 (by omega) (by decide)
  exact ⟨Int.mul_nonneg (by omega) (by omega), by omega⟩
/-- Pick's end -/
theorem PkQ.done {w : World} {F : Nat → Prop} {B R m : Nat} {s s' : Fl.St} {ns : List Nd} {x y : Nat → Nat} {W W' : World} (h : PkQ (preP w) F B R m s s' ns x y W) (hF : ∀ k, F k → k < w.heap.size) (hp : s'.pick = s') (hc : Chg (fun k => w.heap.size ≤ k) W W') : RetPk B R m F s w (.returned (pickV ns)) W' := by
  have e : s.pick = s' := h.p.symm.trans hp
  have hb0 : Below w.heap.size w (preP w) := ((Below.refl _ _).alloc (Nat.le_refl _) _).alloc (by simp) _
  refine ⟨⟨ns, x, y, rfl, ?_, by rw [e]; exact h.l, h.f⟩, ?_⟩
  · rw [e]
    exact h.r.keep (fun k hk => hc.block k (h.r.lt k hk).2 (fun hle => by have := hF k ((h.f k).1 hk); omega))
  · exact (((Chg.of_below (F := F) hb0).trans h.c (fun k hk => Or.inl hk)).trans hc (fun k hk => Or.inr hk))
theorem res_cells {W : World} {C D : Nat} (h0 : W.heap[C]? = some flO0) (h1 : W.heap[D]? = some zeroI) : W.cell? ⟨C, 0, none⟩ = some .nilIface ∧ W.cell? ⟨C, 1, none⟩ = some (.int .i64 0) ∧ W.cell? ⟨C, 2, none⟩ = some (.int .i64 0) ∧ W.cell? ⟨C, 3, none⟩ = some (.int .i64 0) ∧ W.cell? ⟨D, 0, none⟩ = some (.int .i64 0) ∧ W.cell? ⟨D, 1, none⟩ = some (.int .i64 0) ∧ W.frozen? ⟨C, 0, none⟩ = false ∧ W.frozen? ⟨C, 1, none⟩ = false ∧ W.frozen? ⟨C, 2, none⟩ = false ∧ W.frozen? ⟨C, 3, none⟩ = false ∧ W.frozen? ⟨D, 0, none⟩ = false ∧ W.frozen? ⟨D, 1, none⟩ = false :=
  ⟨by rw [cell_of_row W _ _ _ _ _ h0]; rfl, by rw [cell_of_row W _ _ _ _ _ h0]; rfl, by rw [cell_of_row W _ _ _ _ _ h0]; rfl, by rw [cell_of_row W _ _ _ _ _ h0]; rfl, by rw [cell_of_row W _ _ _ _ _ h1]; rfl, by rw [cell_of_row W _ _ _ _ _ h1]; rfl, frozen_of W _ _ _ _ h0, frozen_of W _ _ _ _ h0, frozen_of W _ _ _ _ h0, frozen_of W _ _ _ _ h0, frozen_of W _ _ _ _ h1, frozen_of W _ _ _ _ h1⟩
set_option maxRecDepth 100000 in
set_option maxHeartbeats 8000000 in
theorem pickC (B R m : Nat) (s : Fl.St) (ns : List Nd) (x y : Nat → Nat) (F : Nat → Prop) (w : World) (h : RIn w B R m s.q s.g ns x y) (hl : ns.map (·.r) = s.l) (hF : ∀ k, footG R m ns k ↔ F k) (hG : Fl.Good s) (hL : Fl.Lim 64 s) (hS : Fl.Small 90000 s) :
    Calls Try.prog 40 #[.pointer (some ⟨R, 0, none⟩)] w (RetPk B R m F s w) := by
  have hb0 : Below w.heap.size w (preP w) := ((Below.refl _ _).alloc (Nat.le_refl _) _).alloc (by simp) _
  have hP0 : PkQ (preP w) F B R m s s ns x y (preP w) := ⟨h.below hb0, hl, hF, Chg.refl _ _, hG, hL, rfl⟩
  have hFl : ∀ k, F k → k < w.heap.size := fun k hk => (h.lt k ((hF k).2 hk)).2
  have hX0 : ∀ W ns' s' x' y', PkQ (preP w) F B R m s s' ns' x' y' W → W.heap[w.heap.size]? = some flO0 ∧ W.heap[w.heap.size + 1]? = some zeroI := fun W ns' s' x' y' hW => by
    refine ⟨hW.c.keep (heap_alloc2_old w flO0 zeroI) (fun hf => by have := hFl _ hf; omega), hW.c.keep (heap_alloc2_new w flO0 zeroI) (fun hf => by have := hFl _ hf; omega)⟩
  have HP := Lib.hid hP0
  have HX := Lib.hid hX0
  have HFl := Lib.hid hFl
  clear h hl hF hG hL hb0 hP0 hX0 hFl
  go_enter Try.func40, Try.ntmps40
  go_wp2
  obtain ⟨C, hC⟩ : ∃ C, C = w.heap.size := ⟨_, rfl⟩
  rw [← hC] at HX ⊢
  have HC := Lib.hid hC
  clear hC
  go_loopg [] (Fl.meas s) (fun k wr => ∃ (s' : Fl.St) (ns' : List Nd) (x' y' : Nat → Nat), Fl.meas s' ≤ k ∧ Hid (PkQ (preP w) F B R m s s' ns' x' y' wr ∧ Fl.Small 90000 s'))
  case atStart => exact ⟨s, ns, x, y, Nat.le_refl _, Lib.hid ⟨HP.out, hS⟩⟩
  case round =>
    obtain ⟨s', ns', x', y', hk, hst⟩ := hrel
    clear HP
    cases ns' with
    | nil =>
      obtain ⟨_, _, c2, _⟩ := hst.out.1.r.r.cs
      replace c2 : wr.cell? ⟨R, 2, none⟩ = some (.pointer none) := c2
      obtain ⟨hX0, hX1⟩ := HX.out _ _ _ _ _ hst.out.1
      obtain ⟨a0, a1, a2, a3, a4, a5, f0, f1, f2, f3, f4, f5⟩ := res_cells hX0 hX1
      clear hX0 hX1
      go_wp2
      have hfin := PkQ.done (W' := (((((wr.setCell ⟨C, 0, none⟩ .nilIface).setCell ⟨C, 1, none⟩ (.int .i64 0)).setCell ⟨C, 2, none⟩ (.int .i64 0)).setCell ⟨C, 3, none⟩ (.int .i64 0)).setCell ⟨C + 1, 0, none⟩ (.int .i64 0)).setCell ⟨C + 1, 1, none⟩ (.int .i64 0)) hst.out.1 HFl.out (Fl.pick_nil (by rw [← hst.out.1.l]; rfl)) (by
        have hc := HC.out
        exact ((((((Chg.refl (fun k => w.heap.size ≤ k) wr).setCell (p := ⟨C, 0, none⟩) (Or.inl (by show w.heap.size ≤ C; omega)) _).setCell (p := ⟨C, 1, none⟩) (Or.inl (by show w.heap.size ≤ C; omega)) _).setCell (p := ⟨C, 2, none⟩) (Or.inl (by show w.heap.size ≤ C; omega)) _).setCell (p := ⟨C, 3, none⟩) (Or.inl (by show w.heap.size ≤ C; omega)) _).setCell (p := ⟨C + 1, 0, none⟩) (Or.inl (by show w.heap.size ≤ C + 1; omega)) _).setCell (p := ⟨C + 1, 1, none⟩) (Or.inl (by show w.heap.size ≤ C + 1; omega)) _)
      have HE := Lib.hid hfin
      clear hfin
      refine bodyPost_ret (v := pickV []) ?_ rfl ?_
      · rw [results_cct rfl]; unfold pickV; go_simp; (try rfl)
      · exact HE.out
    | cons n t =>
      have hn : n ∈ n :: t := by simp
      have hln : s'.l = n.r :: t.map (·.r) := by rw [← hst.out.1.l]; rfl
      have hok := hst.out.1.good.ok n.r (by rw [hln]; simp)
      obtain ⟨e0, r0, he0⟩ : ∃ e0 r0, n.r.its = e0 :: r0 := by
        cases hi : n.r.its with
        | nil => exact absurd hi hok.ne
        | cons e0 r0 => exact ⟨e0, r0, rfl⟩
      obtain ⟨_, c1, c2, c3⟩ := hst.out.1.r.r.cs
      obtain ⟨d0, d1, d2, d3, d4, d5⟩ := hst.out.1.r.r.nd6 hn
      replace c2 : wr.cell? ⟨R, 2, none⟩ = some (.pointer (some ⟨n.b, 0, none⟩)) := c2
      have hsrc := hst.out.1.r.qs.src n hn
      unfold Nd.src at d0
      rw [hsrc] at d0
      have hln2 := Lib.hid hln
      have hsm := hst.out.2
      obtain ⟨id, co⟩ := e0
      cases hg : s'.g with
      | true =>
        rw [hg] at c3
        have hm1 := run_mHead n.q
        simp only [Try.types_size, Made.depth, Nat.reduceAdd] at hm1
        have hgv : Fl.St.give s' = s' := Fl.give_yes hg
        have hln1 : (s').l = (n).r :: t.map (·.r) := hln
        have KH := Lib.hid (pk_head _ hst.out.1 hst.out.2 (id, co) r0 he0)
        go_wp2_with (go_at_call 77; (with_reducible refine KH.out.mono ?_); rintro e wA ⟨rfl, hA⟩; have hB := Lib.hid (hA.out.below ((Below.refl _ _).alloc (Nat.le_refl _) (itO id co))); obtain ⟨z0, z1, z2, z3, _, _⟩ := hB.out.r.r.nd6 (n := n) (by simp))
        go_quiet (fail)
        obtain ⟨wC, hwC⟩ : ∃ wC, wC = (wA.alloc (itO id co)).drewN nq := ⟨_, rfl⟩
        have hQ : PkQ (preP w) F B R m s (s') (n :: t) x' y' wC := hB.out.below (by rw [hwC]; exact below_drewN (Below.refl _ _) nq)
        have hI : wC.heap[wA.heap.size]? = some (itO id co) := by rw [hwC]; exact heap_alloc_new _ _
        rw [← hwC]
        obtain ⟨i0, i1⟩ := it_cells hI
        obtain ⟨v0, v1, v2, v3, _, _⟩ := hQ.r.r.nd6 (n := n) (by simp)
        replace v0 : wC.cell? ⟨n.b, 0, none⟩ = some (.iface 69 (.pointer (some ⟨n.q, 0, none⟩))) := by rw [← hsrc]; exact v0
        replace v3 : wC.cell? ⟨n.b, 3, none⟩ = some (.int .i64 (n).r.d) := v3
        obtain ⟨hX0, hX1⟩ := HX.out _ _ _ _ _ hQ
        obtain ⟨a0, a1, a2, a3, a4, a5, f0, f1, f2, f3, f4, f5⟩ := res_cells hX0 hX1
        have hCA : C + 2 ≤ wA.heap.size := by
          have h1 := lt_block (HX.out _ _ _ _ _ hA.out).2
          omega
        have hCb : n.b < C := by
          have h1 := HFl.out n.b ((hQ.f n.b).1 (Or.inl (Or.inr (Or.inr (List.mem_map.2 ⟨n, by simp, rfl⟩)))))
          have h2 := HC.out
          omega
        generalize wA.heap.size = I at *
        have q1 : I ≠ C := by omega
        have q2 : I ≠ C + 1 := by omega
        have q3 : n.b ≠ C := by omega
        have q4 : n.b ≠ C + 1 := by omega
        have HQ := Lib.hid hQ
        clear hCA hCb hQ hI hwC z0 z1 z2 z3 hB hA hX0 hX1 d0 d1 d2 d3 d4 d5 c1 c2 c3 hm1 KH
        have hfits : (n).r.fits = decide (co ≤ (n).r.d) := by
          show (match n.r.its with | [] => true | x :: _ => decide (x.2 ≤ (n).r.d)) = _
          rw [he0]
        have HFI := Lib.hid hfits
        clear hfits
        have HGV := Lib.hid hgv
        have HLN1 := Lib.hid hln1
        clear hgv hln1
        have hd : ∃ d, d = (n).r.d := ⟨_, rfl⟩
        obtain ⟨d, hd⟩ := hd
        rw [← hd] at v3 ⊢
        by_cases hle : co ≤ d
        · rw [decide_eq_true hle]
          have hrd : Fl.St.ready s' = true := by
            unfold Fl.St.ready
            rw [HLN1.out]
            show ((s').g && (n).r.fits) = true
            rw [HFI.out, hg, ← hd, decide_eq_true hle]; rfl
          have hpk : Fl.St.pick s' = s' := by rw [Fl.pick_done (by rw [HGV.out]; exact hrd), HGV.out]
          have hfin := PkQ.done (W' := ((((((wC.setCell ⟨C, 0, none⟩ (.iface 69 (.pointer (some ⟨n.q, 0, none⟩)))).setCell ⟨C, 1, none⟩ (.int .i64 n.r.f)).setCell ⟨C, 2, none⟩ (.int .i64 n.r.w)).setCell ⟨C, 3, none⟩ (.int .i64 d)).setCell ⟨C + 1, 0, none⟩ (.int .i64 id)).setCell ⟨C + 1, 1, none⟩ (.int .i64 co)).drew) HQ.out HFl.out hpk (by
            have hc := HC.out
            exact (((((((Chg.refl (fun k => w.heap.size ≤ k) wC).setCell (p := ⟨C, 0, none⟩) (Or.inl (by show w.heap.size ≤ C; omega)) _).setCell (p := ⟨C, 1, none⟩) (Or.inl (by show w.heap.size ≤ C; omega)) _).setCell (p := ⟨C, 2, none⟩) (Or.inl (by show w.heap.size ≤ C; omega)) _).setCell (p := ⟨C, 3, none⟩) (Or.inl (by show w.heap.size ≤ C; omega)) _).setCell (p := ⟨C + 1, 0, none⟩) (Or.inl (by show w.heap.size ≤ C + 1; omega)) _).setCell (p := ⟨C + 1, 1, none⟩) (Or.inl (by show w.heap.size ≤ C + 1; omega)) _).drew)
          have hpv : pickV (n :: t) = .tuple #[.agg #[.iface 69 (.pointer (some ⟨n.q, 0, none⟩)), .int .i64 n.r.f, .int .i64 n.r.w, .int .i64 d], .agg #[.int .i64 id, .int .i64 co], .bool true] := by
            show (.tuple #[.agg #[.iface n.t (.pointer (some ⟨n.q, 0, none⟩)), .int .i64 n.r.f, .int .i64 n.r.w, .int .i64 (n).r.d], .agg #[.int .i64 (n.r.its.head?.getD (0, 0)).1, .int .i64 (n.r.its.head?.getD (0, 0)).2], .bool true] : Value) = _
            rw [hsrc, he0, ← hd]; rfl
          rw [hpv] at hfin
          have HE := Lib.hid hfin
          clear hfin hpv hpk hrd hd hle
          go_wp2
          go_region
          go_wp2
          refine bodyPost_ret (v := .tuple #[.agg #[.iface 69 (.pointer (some ⟨n.q, 0, none⟩)), .int .i64 n.r.f, .int .i64 n.r.w, .int .i64 d], .agg #[.int .i64 id, .int .i64 co], .bool true]) ?_ rfl ?_
          · rw [results_cct rfl]; go_simp; (try rfl)
          · exact HE.out
        · rw [decide_eq_false hle]
          have hrd : Fl.St.ready s' = false := by
            unfold Fl.St.ready
            rw [HLN1.out]
            show ((s').g && (n).r.fits) = false
            rw [HFI.out, ← hd, decide_eq_false hle, Bool.and_false]
          have hms := Fl.meas_turn hst.out.1.good hst.out.1.lim (by rw [hln]; simp) (by rw [HGV.out]; exact hrd)
          have HRD := Lib.hid hrd
          have HMS := Lib.hid hms
          have KV := Lib.hid (visitC B R m _ _ (n) t x' y' wC HQ.out.r)
          clear hrd hms hd hle v0 v1 v2 v3 i0 i1
          go_wp2_with (go_at_call 58; (with_reducible refine KV.out.mono ?_); rintro e wD ⟨rfl, hD, hDc⟩)
          have hT := Lib.hid (PkQ.turn HQ.out hg HRD.out ⟨rfl, hD, hDc⟩)
          go_roundg (Fl.meas (Fl.St.turn s'))
          case rel => exact ⟨_, _, _, _, Nat.le_refl _, Lib.hid ⟨hT.out, hst.out.2.turn⟩⟩
          case measure => have := HMS.out; rw [HGV.out] at this; omega
      | false =>
        rw [hg] at c3
        have hw := hok.w
        have hqg := hst.out.1.good.q
        have hqw := qw_bound hqg.1 hqg.2 hw.1 hw.2
        have hdd : 0 ≤ n.r.d ∧ n.r.d ≤ 64 := ⟨hok.d, by have := hst.out.1.lim.top n.r (by rw [hln]; rfl); rw [hg] at this; simpa using this⟩
        have hw1 : IntKind.i64.wrap (s'.q * n.r.w) = s'.q * n.r.w := by rw [IntKind.wrap_i64]; omega
        have hw2 : IntKind.i64.wrap (n.r.d + s'.q * n.r.w) = n.r.d + s'.q * n.r.w := by rw [IntKind.wrap_i64]; omega
        have f3 := hst.out.1.r.r.nf hn 3
        obtain ⟨w5, hw5⟩ : ∃ w5, w5 = (wr.setCell ⟨n.b, 3, none⟩ (.int .i64 (n.r.d + s'.q * n.r.w))).drew := ⟨_, rfl⟩
        have hP1 := hst.out.1.give hg
        rw [← hw5] at hP1
        have hR5 : RAt w5 R m s'.q (visOf (n :: t)) false (n.dfc (n.r.d + s'.q * n.r.w) :: t) (fun k => pB (x' k)) (fun k => pB (y' k)) := by
          have := (RAt.dfc (a := []) (b := t) hst.out.1.r.r (n.r.d + s'.q * n.r.w)).below (Below.refl _ _).drew
          rw [hw5, ← hg]
          exact this
        obtain ⟨_, _, _, b3⟩ := hR5.cs
        have b4 := hR5.fr 3
        have HW5 := Lib.hid hw5
        have HP1 := Lib.hid hP1
        have hmg : (Fl.St.give s').g = true := Fl.give_g (by rw [hln]; simp)
        have hgl := Fl.give_no hln hg
        have HGL := Lib.hid hgl
        clear hgl hP1 hR5 hw5 hqw hdd
        obtain ⟨D, hD⟩ : ∃ D, D = n.r.d + s'.q * n.r.w := ⟨_, rfl⟩
        rw [← hD] at HW5 HP1
        replace hw2 : IntKind.i64.wrap (n.r.d + s'.q * n.r.w) = D := hw2.trans hD.symm
        have HD := Lib.hid hD
        clear hD
        go_wp2
        go_region
        rw [← HW5.out]
        clear d0 d1 d2 d3 d4 d5 c1 c2 c3
        obtain ⟨x0, x1, x2, x3, _, _⟩ := HP1.out.r.r.nd6 (n := n.dfc D) (by simp)
        replace x0 : (w5.setCell ⟨R, 3, none⟩ (.bool true)).cell? ⟨n.b, 0, none⟩ = some (.iface 69 (.pointer (some ⟨n.q, 0, none⟩))) := by rw [← hsrc]; exact x0
        have hm1 := run_mHead n.q
        simp only [Try.types_size, Made.depth, Nat.reduceAdd] at hm1
        have hgv : Fl.St.give s'.give = s'.give := Fl.give_yes hmg
        have hln1 : (s'.give).l = (n.dfc D).r :: t.map (·.r) := HP1.out.l.symm
        have KH := Lib.hid (show Calls Try.prog 77 #[.pointer (some ⟨n.q, 0, none⟩)] _ _ from pk_head _ HP1.out hst.out.2.give (id, co) r0 he0)
        go_wp2_with (go_at_call 77; (with_reducible refine KH.out.mono ?_); rintro e wA ⟨rfl, hA⟩; have hB := Lib.hid (hA.out.below ((Below.refl _ _).alloc (Nat.le_refl _) (itO id co))); obtain ⟨z0, z1, z2, z3, _, _⟩ := hB.out.r.r.nd6 (n := n.dfc D) (by simp); replace z3 : (wA.alloc (itO id co)).cell? ⟨n.b, 3, none⟩ = some (.int .i64 D) := z3)
        go_quiet (fail)
        obtain ⟨wC, hwC⟩ : ∃ wC, wC = (wA.alloc (itO id co)).drewN nq := ⟨_, rfl⟩
        have hQ : PkQ (preP w) F B R m s (s'.give) (n.dfc D :: t) x' y' wC := hB.out.below (by rw [hwC]; exact below_drewN (Below.refl _ _) nq)
        have hI : wC.heap[wA.heap.size]? = some (itO id co) := by rw [hwC]; exact heap_alloc_new _ _
        rw [← hwC]
        obtain ⟨i0, i1⟩ := it_cells hI
        obtain ⟨v0, v1, v2, v3, _, _⟩ := hQ.r.r.nd6 (n := n.dfc D) (by simp)
        replace v0 : wC.cell? ⟨n.b, 0, none⟩ = some (.iface 69 (.pointer (some ⟨n.q, 0, none⟩))) := by rw [← hsrc]; exact v0
        replace v1 : wC.cell? ⟨n.b, 1, none⟩ = some (.int .i64 n.r.f) := v1
        replace v2 : wC.cell? ⟨n.b, 2, none⟩ = some (.int .i64 n.r.w) := v2
        replace v3 : wC.cell? ⟨n.b, 3, none⟩ = some (.int .i64 (n.dfc D).r.d) := v3
        obtain ⟨hX0, hX1⟩ := HX.out _ _ _ _ _ hQ
        obtain ⟨a0, a1, a2, a3, a4, a5, f0, f1, f2, f3, f4, f5⟩ := res_cells hX0 hX1
        have hCA : C + 2 ≤ wA.heap.size := by
          have h1 := lt_block (HX.out _ _ _ _ _ hA.out).2
          omega
        have hCb : n.b < C := by
          have h1 := HFl.out n.b ((hQ.f n.b).1 (Or.inl (Or.inr (Or.inr (List.mem_map.2 ⟨n.dfc D, by simp, rfl⟩)))))
          have h2 := HC.out
          omega
        generalize wA.heap.size = I at *
        have q1 : I ≠ C := by omega
        have q2 : I ≠ C + 1 := by omega
        have q3 : n.b ≠ C := by omega
        have q4 : n.b ≠ C + 1 := by omega
        have HQ := Lib.hid hQ
        clear hCA hCb hQ hI hwC z0 z1 z2 z3 hB hA hX0 hX1 x0 x1 x2 x3 hm1 KH
        have hfits : (n.dfc D).r.fits = decide (co ≤ (n.dfc D).r.d) := by
          show (match n.r.its with | [] => true | x :: _ => decide (x.2 ≤ (n.dfc D).r.d)) = _
          rw [he0]
        have HFI := Lib.hid hfits
        clear hfits
        have HGV := Lib.hid hgv
        have HLN1 := Lib.hid hln1
        clear hgv hln1
        have hd : D = (n.dfc D).r.d := rfl
        rw [← hd] at v3
        by_cases hle : co ≤ D
        · rw [decide_eq_true hle]
          have hrd : Fl.St.ready s'.give = true := by
            unfold Fl.St.ready
            rw [HLN1.out]
            show ((s'.give).g && (n.dfc D).r.fits) = true
            rw [HFI.out, hmg, ← hd, decide_eq_true hle]; rfl
          have hpk : Fl.St.pick s'.give = s'.give := by rw [Fl.pick_done (by rw [HGV.out]; exact hrd), HGV.out]
          have hfin := PkQ.done (W' := ((((((wC.setCell ⟨C, 0, none⟩ (.iface 69 (.pointer (some ⟨n.q, 0, none⟩)))).setCell ⟨C, 1, none⟩ (.int .i64 n.r.f)).setCell ⟨C, 2, none⟩ (.int .i64 n.r.w)).setCell ⟨C, 3, none⟩ (.int .i64 D)).setCell ⟨C + 1, 0, none⟩ (.int .i64 id)).setCell ⟨C + 1, 1, none⟩ (.int .i64 co)).drew) HQ.out HFl.out hpk (by
            have hc := HC.out
            exact (((((((Chg.refl (fun k => w.heap.size ≤ k) wC).setCell (p := ⟨C, 0, none⟩) (Or.inl (by show w.heap.size ≤ C; omega)) _).setCell (p := ⟨C, 1, none⟩) (Or.inl (by show w.heap.size ≤ C; omega)) _).setCell (p := ⟨C, 2, none⟩) (Or.inl (by show w.heap.size ≤ C; omega)) _).setCell (p := ⟨C, 3, none⟩) (Or.inl (by show w.heap.size ≤ C; omega)) _).setCell (p := ⟨C + 1, 0, none⟩) (Or.inl (by show w.heap.size ≤ C + 1; omega)) _).setCell (p := ⟨C + 1, 1, none⟩) (Or.inl (by show w.heap.size ≤ C + 1; omega)) _).drew)
          have hpv : pickV (n.dfc D :: t) = .tuple #[.agg #[.iface 69 (.pointer (some ⟨n.q, 0, none⟩)), .int .i64 n.r.f, .int .i64 n.r.w, .int .i64 D], .agg #[.int .i64 id, .int .i64 co], .bool true] := by
            show (.tuple #[.agg #[.iface n.t (.pointer (some ⟨n.q, 0, none⟩)), .int .i64 n.r.f, .int .i64 n.r.w, .int .i64 (n.dfc D).r.d], .agg #[.int .i64 (n.r.its.head?.getD (0, 0)).1, .int .i64 (n.r.its.head?.getD (0, 0)).2], .bool true] : Value) = _
            rw [hsrc, he0, ← hd]; rfl
          rw [hpv] at hfin
          have HE := Lib.hid hfin
          clear hfin hpv hpk hrd hd hle
          go_wp2
          go_region
          go_wp2
          refine bodyPost_ret (v := .tuple #[.agg #[.iface 69 (.pointer (some ⟨n.q, 0, none⟩)), .int .i64 n.r.f, .int .i64 n.r.w, .int .i64 D], .agg #[.int .i64 id, .int .i64 co], .bool true]) ?_ rfl ?_
          · rw [results_cct rfl]; go_simp; (try rfl)
          · exact HE.out
        · rw [decide_eq_false hle]
          have hrd : Fl.St.ready s'.give = false := by
            unfold Fl.St.ready
            rw [HLN1.out]
            show ((s'.give).g && (n.dfc D).r.fits) = false
            rw [HFI.out, ← hd, decide_eq_false hle, Bool.and_false]
          have hms := Fl.meas_turn hst.out.1.good hst.out.1.lim (by rw [hln]; simp) (by skip; exact hrd)
          have HRD := Lib.hid hrd
          have HMS := Lib.hid hms
          have KV := Lib.hid (visitC B R m _ _ (n.dfc D) t x' y' wC HQ.out.r)
          clear hrd hms hd hle v0 v1 v2 v3 i0 i1
          go_wp2_with (go_at_call 58; (with_reducible refine KV.out.mono ?_); rintro e wD ⟨rfl, hD, hDc⟩)
          have hT := Lib.hid (PkQ.turn HQ.out hmg HRD.out ⟨rfl, hD, hDc⟩)
          go_roundg (Fl.meas (Fl.St.turn s'.give))
          case rel => exact ⟨_, _, _, _, Nat.le_refl _, Lib.hid ⟨hT.out, hst.out.2.give.turn⟩⟩
          case measure => have := HMS.out; skip; omega
end Go.Proofs.Ytgeoebodlcbebaa

namespace Go.Proofs.Ytgeoebodlcbebaa
open Go.RowKit
open Rb (Nd)
set_option linter.unusedVariables false

theorem infoRLink : (Try.prog.info? 110).map (·.size) = some 6 := by kernel_rfl
theorem eqSameR (a : Addr) (w : World) : (binOp .eql 96 (.pointer (some a)) (.pointer (some a))).run Try.prog w = .ok (.bool true) w := by
  obtain ⟨j, hj, _⟩ : ∃ j, Try.prog.info? 110 = some j ∧ j.size = 6 := by
    have := infoRLink
    cases hq : Try.prog.info? 110 with
    | none => simp [hq] at this
    | some j => exact ⟨j, rfl, by simpa [hq] using this⟩
  exact run_eql_ptr_same w a Try.underlying96 hj
theorem eqOtherR {x y : Nat} {w : World} {c1 c2 : Array Value} {t1 t2 : TypeId} (hne : x ≠ y) (h1 : w.heap[x]? = some (.cells c1 t1)) (h2 : w.heap[y]? = some (.cells c2 t2)) : (binOp .eql 96 (.pointer (some ⟨x, 0, none⟩)) (.pointer (some ⟨y, 0, none⟩))).run Try.prog w = .ok (.bool false) w := by
  obtain ⟨j, hj, hz⟩ : ∃ j, Try.prog.info? 110 = some j ∧ j.size = 6 := by
    have := infoRLink
    cases hq : Try.prog.info? 110 with
    | none => simp [hq] at this
    | some j => exact ⟨j, rfl, by simpa [hq] using this⟩
  exact run_eql_ptr_other w Try.underlying96 hj (by rw [hz]; decide) (fun e => hne (congrArg Addr.block e)) h1 h2
set_option maxRecDepth 100000 in
set_option maxHeartbeats 1000000 in
theorem settleNo (R m : Nat) (q : Int) (v : Value) (g : Bool) (ns : List Nd) (aft bef : Nat → Value) (f : Int) (w : World) (h : RAt w R m q v g ns aft bef) (hf : (Lit.int .i64 f).wf = true) (hn : ∀ n ∈ ns, n.r.f ≠ f) :
    Calls Try.prog 42 #[.pointer (some ⟨R, 0, none⟩), .int .i64 f] w (Same (.tuple #[]) w) := by
  obtain ⟨_, c1, _, _⟩ := h.cs
  have r1 := h.lookNo hf hn
  clear h hn hf
  go_enter Try.func42, Try.ntmps42
  go_wp2
  go_end0
  exact ⟨rfl, rfl⟩
set_option maxRecDepth 100000 in
set_option maxHeartbeats 1000000 in
theorem settleWaits (B R m : Nat) (q : Int) (g : Bool) (ns : List Nd) (x y : Nat → Nat) (n : Nd) (w : World) (h : RIn w B R m q g ns x y) (hn : n ∈ ns) (hi : n.r.its ≠ []) (hl : n.r.its.length ≤ 1000000) :
    Calls Try.prog 42 #[.pointer (some ⟨R, 0, none⟩), .int .i64 n.r.f] w (Same (.tuple #[]) w) := by
  obtain ⟨_, c1, _, _⟩ := h.r.cs
  have r1 := h.r.look hn
  obtain ⟨d0, _, _, _, _, _⟩ := h.r.nd6 hn
  unfold Nd.src at d0
  rw [h.qs.src n hn] at d0
  have hm1 := run_mLen n.q
  simp only [Try.types_size, Made.depth, Nat.reduceAdd] at hm1
  have KL := Lib.hid (lenC B n.q n.r.its n.F w (h.qs.q n hn) hl)
  have hp : 0 < n.r.its.length := List.length_pos_iff.2 hi
  have t1 : decide (((n.r.its.length : Nat) : Int) > 0) = true := decide_eq_true (by omega)
  generalize ((n.r.its.length : Nat) : Int) = N at *
  generalize n.r.f = f at *
  generalize n.b = b at *
  generalize n.q = Q at *
  clear h hn hi hl hp
  go_enter Try.func42, Try.ntmps42
  go_wp2_with (go_at_call 33; (with_reducible refine KL.out.mono ?_); rintro e wA ⟨rfl, rfl⟩)
  go_end0
  exact ⟨rfl, rfl⟩
/-- a link gone from the map -/
theorem GQ.del {w0 : World} {F : Nat → Prop} {B R m : Nat} {q : Int} {v : Value} {g : Bool} {a b : List Nd} {n : Nd} {aft bef : Nat → Value} {W W' : World} (h : GQ w0 F B R m q v g (a ++ n :: b) aft bef W) (hM : MapL W' m (a.map Nd.key ++ b.map Nd.key)) (hc : Chg (fun k => k = m) W W') :
    GQ w0 F B R m q v g (a ++ b) aft bef W' := by
  obtain ⟨k1, k2⟩ := h.r.kinds
  have hsub : (a ++ b).Sublist (a ++ n :: b) := (List.Sublist.refl a).append (List.sublist_cons_self n b)
  have hf : ∀ k, footR R m (a ++ b) k → footR R m (a ++ n :: b) k := fun k hk => by
    rcases hk with e | e | e
    · exact Or.inl e
    · exact Or.inr (Or.inl e)
    · exact Or.inr (Or.inr ((hsub.map _).subset e))
  refine ⟨⟨hc.keep h.r.tab k1, by rw [List.map_append]; exact hM, fun z hz => hc.keep (h.r.node z (hsub.subset hz)) (k2 _ (List.mem_map.2 ⟨z, hsub.subset hz, rfl⟩)).2, (hsub.map _).nodup h.r.ndb, (hsub.map _).nodup h.r.ndi, fun z hz => h.r.small z (hsub.subset hz)⟩, ?_, h.c.trans hc (fun k hk => h.f k (Or.inr (Or.inl hk))), fun k hk => h.f k (hf k hk)⟩
  exact (h.qs.keep (fun z hz k hk => hc.block k ((h.qs.q z hz).lt k hk).2 (fun e => h.qs.own z hz k hk (Or.inr (Or.inl e))))).sub (fun z hz => hsub.subset hz) hf
theorem footG_sub {R m : Nat} {a b : List Nd} {n : Nd} (k : Nat) (hk : footG R m (a ++ b) k) : footG R m (a ++ n :: b) k := by
  have hsub : (a ++ b).Sublist (a ++ n :: b) := (List.Sublist.refl a).append (List.sublist_cons_self n b)
  rcases hk with (e | e | e) | ⟨z, hz, e⟩
  · exact Or.inl (Or.inl e)
  · exact Or.inl (Or.inr (Or.inl e))
  · exact Or.inl (Or.inr (Or.inr ((hsub.map _).subset e)))
  · exact Or.inr ⟨z, hsub.subset hz, e⟩
/-- Settle's post: the link of a row without items is gone -/
structure RetS (B R m : Nat) (q : Int) (g : Bool) (a : List Nd) (n : Nd) (b : List Nd) (w : World) (e : Ending) (w' : World) : Prop where
  e : e = .returned (.tuple #[])
  s : ∃ x y, RIn w' B R m q g (a ++ b) x y
  c : Chg (footG R m (a ++ n :: b)) w w'
/-- the ring that is left -/
theorem GQ.cut {w W : World} {F : Nat → Prop} {B R m : Nat} {q : Int} {g : Bool} {v : Value} {a b : List Nd} {n : Nd} {x y : Nat → Nat} (hr : Rb.IsRing x y ((a ++ n :: b).map (·.b))) (hab : a = [] → b = []) (hlo : ∀ k, footG R m (a ++ n :: b) k → B ≤ k)
    (h : GQ w F B R m q v g (a ++ b) (updV (fun k => pB (x k)) (y n.b) (.pointer (some ⟨x n.b, 0, none⟩))) (updV (fun k => pB (y k)) (x n.b) (.pointer (some ⟨y n.b, 0, none⟩))) W) (hv : v = visOf (a ++ b)) : ∃ x y, RIn W B R m q g (a ++ b) x y := by
  refine ⟨Rb.upd x (y n.b) (x n.b), Rb.upd y (x n.b) (y n.b), ?_, h.qs, ?_, fun k hk => hlo k (footG_sub k hk)⟩
  · rw [← hv]
    exact h.r.congr (fun z hz => by unfold Rb.upd updV; split <;> rfl) (fun z hz => by unfold Rb.upd updV; split <;> rfl)
  · cases a with
    | nil =>
      have := hab rfl
      subst this
      exact trivial
    | cons r a =>
      have := Rb.IsRing.cut (r := r.b) (x := n.b) (a := a.map (·.b)) (b := b.map (·.b)) (by simpa using hr)
      simpa using this
end Go.Proofs.Ytgeoebodlcbebaa

namespace Go.Proofs.Ytgeoebodlcbebaa
open Go.RowKit
open Rb (Nd)
set_option linter.unusedVariables false

theorem RIn.gqd {W : World} {B R m : Nat} {q : Int} {g : Bool} {ns : List Nd} {x y : Nat → Nat} (h : RIn W B R m q g ns x y) : GQ W (footG R m ns) B R m q (visOf ns) g ns (fun k => pB (x k)) (fun k => pB (y k)) W.drew := h.gq.drew
set_option maxRecDepth 100000 in
set_option maxHeartbeats 8000000 in
theorem settleLater (B R m : Nat) (q : Int) (g : Bool) (v : Nd) (a b : List Nd) (n : Nd) (x y : Nat → Nat) (w : World) (h : RIn w B R m q g ((v :: a) ++ n :: b) x y) (hi : n.r.its = []) :
    Calls Try.prog 42 #[.pointer (some ⟨R, 0, none⟩), .int .i64 n.r.f] w (RetS B R m q g (v :: a) n b w) := by
  have hn : n ∈ (v :: a) ++ n :: b := by simp
  have hvm : v ∈ (v :: a) ++ n :: b := by simp
  obtain ⟨_, c1, c2, _⟩ := h.r.cs
  replace c2 : w.cell? ⟨R, 2, none⟩ = some (.pointer (some ⟨v.b, 0, none⟩)) := c2
  have r1 := h.r.look hn
  obtain ⟨d0, _, _, _, _, _⟩ := h.r.nd6 hn
  unfold Nd.src at d0
  rw [h.qs.src n hn] at d0
  have hm1 := run_mLen n.q
  simp only [Try.types_size, Made.depth, Nat.reduceAdd] at hm1
  have KL := Lib.hid (lenC B n.q n.r.its n.F w (h.qs.q n hn) (by rw [hi]; decide))
  rw [hi] at KL
  have hne : n.b ≠ v.b := by
    have h1 := h.r.ndb
    rw [List.map_append, List.map_cons, List.map_cons, List.cons_append, List.nodup_cons] at h1
    intro e
    exact h1.1 (by rw [← e]; simp)
  have hq2 := eqOtherR hne (h.r.node n hn) (h.r.node v hvm)
  have HR := Lib.hid h
  clear h hn hvm hi hne
  go_enter Try.func42, Try.ntmps42
  go_upto_region 4 with (go_at_call 33; (with_reducible refine KL.out.mono ?_); rintro e wA ⟨rfl, rfl⟩)
  clear c1 c2 r1 d0 hm1 KL hq2
  have HLO := Lib.hid (HR.out.lo)
  have HRING := Lib.hid (HR.out.ring)
  have HQ := Lib.hid HR.out.gqd
  have HW := Lib.hid (HR.out.r.small n (by simp))
  have hin := HR.out.ring.in_of (x := n.b) (by simp)
  have J1 := Lib.hid (fun W' hW => gq_join (w0 := w) (F := footG R m ((v :: a) ++ n :: b)) (B := B) (R := R) (m := m) (q := q) (v := visOf ((v :: a) ++ n :: b)) (g := g) (ns := ((v :: a) ++ n :: b)) (aft := fun k => pB (x k)) (bef := fun k => pB (y k)) (y n.b) (x n.b) W' hW hin.2 hin.1)
  clear hin
  obtain ⟨S, hSd⟩ : ∃ S : World → Prop, S = fun W' => ∃ aft' bef', GQ w (footG R m ((v :: a) ++ n :: b)) B R m q (visOf ((v :: a) ++ n :: b)) g ((v :: a) ++ n :: b) aft' bef' W' ∧ aft' n.b = .pointer (some ⟨x n.b, 0, none⟩) ∧ bef' n.b = .pointer (some ⟨y n.b, 0, none⟩) := ⟨_, rfl⟩
  have HS1 : Hid (∀ W', S W' → W'.cell? ⟨n.b, 4, none⟩ = some (.pointer (some ⟨y n.b, 0, none⟩)) ∧ W'.cell? ⟨n.b, 5, none⟩ = some (.pointer (some ⟨x n.b, 0, none⟩))) := Lib.hid (fun W' hW' => by
    rw [hSd] at hW'
    obtain ⟨aft', bef', hg, h1, h2⟩ := hW'
    obtain ⟨_, _, _, _, g4, g5⟩ := hg.r.nd6 (n := n) (by simp)
    rw [h2] at g4
    rw [h1] at g5
    exact ⟨g4, g5⟩)
  have HS2 : Hid (∀ W', GQ w (footG R m ((v :: a) ++ n :: b)) B R m q (visOf ((v :: a) ++ n :: b)) g ((v :: a) ++ n :: b) (updV (fun k => pB (x k)) (y n.b) (.pointer (some ⟨x n.b, 0, none⟩))) (updV (fun k => pB (y k)) (x n.b) (.pointer (some ⟨y n.b, 0, none⟩))) W' → S W') := Lib.hid (fun W' hW' => by
    rw [hSd]
    exact ⟨_, _, hW', by unfold updV; split <;> rfl, by unfold updV; split <;> rfl⟩)
  have hS : S (World.drew w) := by rw [hSd]; exact ⟨_, _, HQ.out, rfl, rfl⟩
  clear hSd
  go_upto_region 4 with fail
  refine wp_region_any (by kernel_rfl) ?_
  change wpAny _ _ _ _ _ _ _ (World.drew _)
  refine wpAny_of_held (S := S) _ _ _ _ ?_
  refine takeH 0 34 ?_ rfl rfl (by kernel_rfl) (by kernel_rfl) (by kernel_rfl) (fun _ _ _ h => h) (Or.inl ⟨by kernel_rfl, ?_⟩) hS ?_; rotate_left; (intro w' hw; skip; first | (go_simp; done) | (go_simp; with_reducible rfl)); rotate_left
  try simp only [List.setIfInBounds_toArray, List.set_cons_zero, List.set_cons_succ]
  refine takeH 1 35 ?_ rfl rfl (by kernel_rfl) (by kernel_rfl) (by kernel_rfl) (fun _ _ _ h => h) (Or.inl ⟨by kernel_rfl, ?_⟩) hS ?_; rotate_left; (intro w' hw; skip; first | (go_simp; done) | (go_simp; with_reducible rfl)); rotate_left
  try simp only [List.setIfInBounds_toArray, List.set_cons_zero, List.set_cons_succ]
  refine takeH 2 36 ?_ rfl rfl (by kernel_rfl) (by kernel_rfl) (by kernel_rfl) (fun _ _ _ h => h) (Or.inl ⟨by kernel_rfl, ?_⟩) hS ?_; rotate_left; (intro w' hw; skip; first | (go_simp; done) | (go_simp; with_reducible rfl)); rotate_left
  try simp only [List.setIfInBounds_toArray, List.set_cons_zero, List.set_cons_succ]
  refine takeH 3 37 ?_ rfl rfl (by kernel_rfl) (by kernel_rfl) (by kernel_rfl) (fun _ _ _ h => h) (Or.inl ⟨by kernel_rfl, ?_⟩) hS ?_; rotate_left; (intro w' hw; obtain ⟨z4, z5⟩ := HS1.out _ hw; first | (go_simp; done) | (go_simp; with_reducible rfl)); rotate_left
  try simp only [List.setIfInBounds_toArray, List.set_cons_zero, List.set_cons_succ]
  refine takeH 4 38 ?_ rfl rfl (by kernel_rfl) (by kernel_rfl) (by kernel_rfl) (fun _ _ _ h => h) (Or.inl ⟨by kernel_rfl, ?_⟩) hS ?_; rotate_left; (intro w' hw; skip; first | (go_simp; done) | (go_simp; with_reducible rfl)); rotate_left
  try simp only [List.setIfInBounds_toArray, List.set_cons_zero, List.set_cons_succ]
  refine takeH 5 39 ?_ rfl rfl (by kernel_rfl) (by kernel_rfl) (by kernel_rfl) (fun _ _ _ h => h) (Or.inl ⟨by kernel_rfl, ?_⟩) hS ?_; rotate_left; (intro w' hw; skip; first | (go_simp; done) | (go_simp; with_reducible rfl)); rotate_left
  try simp only [List.setIfInBounds_toArray, List.set_cons_zero, List.set_cons_succ]
  refine takeH 6 40 ?_ rfl rfl (by kernel_rfl) (by kernel_rfl) (by kernel_rfl) (fun _ _ _ h => h) (Or.inl ⟨by kernel_rfl, ?_⟩) hS ?_; rotate_left; (intro w' hw; skip; first | (go_simp; done) | (go_simp; with_reducible rfl)); rotate_left
  try simp only [List.setIfInBounds_toArray, List.set_cons_zero, List.set_cons_succ]
  refine takeH 7 41 ?_ rfl rfl (by kernel_rfl) (by kernel_rfl) (by kernel_rfl) (fun _ _ _ h => h) (Or.inl ⟨by kernel_rfl, ?_⟩) hS ?_; rotate_left; (intro w' hw; obtain ⟨z4, z5⟩ := HS1.out _ hw; first | (go_simp; done) | (go_simp; with_reducible rfl)); rotate_left
  try simp only [List.setIfInBounds_toArray, List.set_cons_zero, List.set_cons_succ]
  refine wpAnyH_ready (rs := [8]) (by kernel_rfl) (by simp) ?_; refine AllReadyH.cons rfl (fun K2 hK => ?_) AllReadyH.nil; go_simp; go_wp2_with (go_at_call 57; (with_reducible refine (J1.out _ HQ.out).mono ?_); rintro e wB ⟨rfl, hB⟩); refine hK.out _ _ ?_ (fun _ => ?_); (exact HS2.out _ hB.out); clear hK K2
  refine wpAnyH_done (by kernel_rfl) ?_ _
  clear hS HQ J1 HS1 HS2
  obtain ⟨_, x1, _, _⟩ := hB.out.r.cs
  have hmp := hB.out.r.map
  rw [List.map_append, List.map_cons] at hmp
  have hni : (((v :: a).map Nd.key ++ n.key :: b.map Nd.key).map (·.id)).Nodup := by
    have := hB.out.r.ndi
    rw [← Rb.keys_id, List.map_append, List.map_cons] at this
    exact this
  have HMP := Lib.hid hmp
  have HNI := Lib.hid hni
  have HB := Lib.hid hB.out
  clear hmp hni hB
  go_upto_region 6 with (at_delete; (refine wpDelR _ rfl _ _ rfl m ((v :: a).map Nd.key) (b.map Nd.key) n.key rfl HMP.out rfl HW.out HNI.out ?_); intro wC hmC hcC hsz; have HD := Lib.hid (HB.out.del hmC hcC); clear hmC hcC hsz)
  clear HMP HNI HB HW
  obtain ⟨_, x2, _, _⟩ := HD.out.r.cs
  have HM2 := Lib.hid HD.out.r.map
  obtain ⟨N, hNd⟩ : ∃ N, (((v :: a) ++ b).map Nd.key).length = N + 1 := ⟨(a ++ b).length, by simp⟩
  have t0 : ((((N + 1 : Nat) : Nat) : Int) == 0) = false := by simp; omega
  have HND := Lib.hid hNd
  clear hNd
  go_wp2_with (at_len; refine wpLenR _ rfl _ rfl m _ rfl HM2.out ?_; rw [HND.out])
  go_end0
  exact ⟨rfl, GQ.cut HRING.out (fun h => by cases h) HLO.out HD.out rfl, HD.out.c⟩
set_option maxRecDepth 100000 in
set_option maxHeartbeats 8000000 in
theorem settleMore (B R m : Nat) (q : Int) (g : Bool) (n : Nd) (v : Nd) (t : List Nd) (x y : Nat → Nat) (w : World) (h : RIn w B R m q g (n :: (v :: t)) x y) (hi : n.r.its = []) :
    Calls Try.prog 42 #[.pointer (some ⟨R, 0, none⟩), .int .i64 n.r.f] w (RetS B R m q false [] n (v :: t) w) := by
  have hn : n ∈ n :: (v :: t) := by simp
  obtain ⟨_, c1, c2, _⟩ := h.r.cs
  replace c2 : w.cell? ⟨R, 2, none⟩ = some (.pointer (some ⟨n.b, 0, none⟩)) := c2
  have r1 := h.r.look hn
  obtain ⟨d0, _, _, _, _, _⟩ := h.r.nd6 hn
  unfold Nd.src at d0
  rw [h.qs.src n hn] at d0
  have hm1 := run_mLen n.q
  simp only [Try.types_size, Made.depth, Nat.reduceAdd] at hm1
  have KL := Lib.hid (lenC B n.q n.r.its n.F w (h.qs.q n hn) (by rw [hi]; decide))
  rw [hi] at KL
  have hq2 := eqSameR ⟨n.b, 0, none⟩ w
  have KV := Lib.hid (visitC B R m q g n (v :: t) x y w h)
  have hp : ((v :: t) ++ [n]).Perm ([] ++ n :: (v :: t)) := List.perm_append_singleton n (v :: t)
  have HFP := Lib.hid (fun k => footG_perm (R := R) (m := m) hp k)
  clear h hn hi hp
  go_enter Try.func42, Try.ntmps42
  go_upto_region 4 with (first | (go_at_call 33; (with_reducible refine KL.out.mono ?_); rintro e wA ⟨rfl, rfl⟩) | (go_at_call 58; (with_reducible refine KV.out.mono ?_); rintro e wV ⟨rfl, hV, hVc⟩))
  have HR := Lib.hid (show RIn wV B R m q false ((v :: t) ++ n :: []) x y from hV)
  have HVC := Lib.hid hVc
  clear c1 c2 r1 d0 hm1 KL hq2 hV hVc KV
  have HLO := Lib.hid (HR.out.lo)
  have HRING := Lib.hid (HR.out.ring)
  have HQ := Lib.hid HR.out.gqd
  have HW := Lib.hid (HR.out.r.small n (by simp))
  have hin := HR.out.ring.in_of (x := n.b) (by simp)
  have J1 := Lib.hid (fun W' hW => gq_join (w0 := wV) (F := footG R m ((v :: t) ++ n :: [])) (B := B) (R := R) (m := m) (q := q) (v := visOf ((v :: t) ++ n :: [])) (g := false) (ns := ((v :: t) ++ n :: [])) (aft := fun k => pB (x k)) (bef := fun k => pB (y k)) (y n.b) (x n.b) W' hW hin.2 hin.1)
  clear hin
  obtain ⟨S, hSd⟩ : ∃ S : World → Prop, S = fun W' => ∃ aft' bef', GQ wV (footG R m ((v :: t) ++ n :: [])) B R m q (visOf ((v :: t) ++ n :: [])) false ((v :: t) ++ n :: []) aft' bef' W' ∧ aft' n.b = .pointer (some ⟨x n.b, 0, none⟩) ∧ bef' n.b = .pointer (some ⟨y n.b, 0, none⟩) := ⟨_, rfl⟩
  have HS1 : Hid (∀ W', S W' → W'.cell? ⟨n.b, 4, none⟩ = some (.pointer (some ⟨y n.b, 0, none⟩)) ∧ W'.cell? ⟨n.b, 5, none⟩ = some (.pointer (some ⟨x n.b, 0, none⟩))) := Lib.hid (fun W' hW' => by
    rw [hSd] at hW'
    obtain ⟨aft', bef', hg, h1, h2⟩ := hW'
    obtain ⟨_, _, _, _, g4, g5⟩ := hg.r.nd6 (n := n) (by simp)
    rw [h2] at g4
    rw [h1] at g5
    exact ⟨g4, g5⟩)
  have HS2 : Hid (∀ W', GQ wV (footG R m ((v :: t) ++ n :: [])) B R m q (visOf ((v :: t) ++ n :: [])) false ((v :: t) ++ n :: []) (updV (fun k => pB (x k)) (y n.b) (.pointer (some ⟨x n.b, 0, none⟩))) (updV (fun k => pB (y k)) (x n.b) (.pointer (some ⟨y n.b, 0, none⟩))) W' → S W') := Lib.hid (fun W' hW' => by
    rw [hSd]
    exact ⟨_, _, hW', by unfold updV; split <;> rfl, by unfold updV; split <;> rfl⟩)
  have hS : S (World.drew wV) := by rw [hSd]; exact ⟨_, _, HQ.out, rfl, rfl⟩
  clear hSd
  go_upto_region 4 with fail
  refine wp_region_any (by kernel_rfl) ?_
  change wpAny _ _ _ _ _ _ _ (World.drew _)
  refine wpAny_of_held (S := S) _ _ _ _ ?_
  refine takeH 0 34 ?_ rfl rfl (by kernel_rfl) (by kernel_rfl) (by kernel_rfl) (fun _ _ _ h => h) (Or.inl ⟨by kernel_rfl, ?_⟩) hS ?_; rotate_left; (intro w' hw; skip; first | (go_simp; done) | (go_simp; with_reducible rfl)); rotate_left
  try simp only [List.setIfInBounds_toArray, List.set_cons_zero, List.set_cons_succ]
  refine takeH 1 35 ?_ rfl rfl (by kernel_rfl) (by kernel_rfl) (by kernel_rfl) (fun _ _ _ h => h) (Or.inl ⟨by kernel_rfl, ?_⟩) hS ?_; rotate_left; (intro w' hw; skip; first | (go_simp; done) | (go_simp; with_reducible rfl)); rotate_left
  try simp only [List.setIfInBounds_toArray, List.set_cons_zero, List.set_cons_succ]
  refine takeH 2 36 ?_ rfl rfl (by kernel_rfl) (by kernel_rfl) (by kernel_rfl) (fun _ _ _ h => h) (Or.inl ⟨by kernel_rfl, ?_⟩) hS ?_; rotate_left; (intro w' hw; skip; first | (go_simp; done) | (go_simp; with_reducible rfl)); rotate_left
  try simp only [List.setIfInBounds_toArray, List.set_cons_zero, List.set_cons_succ]
  refine takeH 3 37 ?_ rfl rfl (by kernel_rfl) (by kernel_rfl) (by kernel_rfl) (fun _ _ _ h => h) (Or.inl ⟨by kernel_rfl, ?_⟩) hS ?_; rotate_left; (intro w' hw; obtain ⟨z4, z5⟩ := HS1.out _ hw; first | (go_simp; done) | (go_simp; with_reducible rfl)); rotate_left
  try simp only [List.setIfInBounds_toArray, List.set_cons_zero, List.set_cons_succ]
  refine takeH 4 38 ?_ rfl rfl (by kernel_rfl) (by kernel_rfl) (by kernel_rfl) (fun _ _ _ h => h) (Or.inl ⟨by kernel_rfl, ?_⟩) hS ?_; rotate_left; (intro w' hw; skip; first | (go_simp; done) | (go_simp; with_reducible rfl)); rotate_left
  try simp only [List.setIfInBounds_toArray, List.set_cons_zero, List.set_cons_succ]
  refine takeH 5 39 ?_ rfl rfl (by kernel_rfl) (by kernel_rfl) (by kernel_rfl) (fun _ _ _ h => h) (Or.inl ⟨by kernel_rfl, ?_⟩) hS ?_; rotate_left; (intro w' hw; skip; first | (go_simp; done) | (go_simp; with_reducible rfl)); rotate_left
  try simp only [List.setIfInBounds_toArray, List.set_cons_zero, List.set_cons_succ]
  refine takeH 6 40 ?_ rfl rfl (by kernel_rfl) (by kernel_rfl) (by kernel_rfl) (fun _ _ _ h => h) (Or.inl ⟨by kernel_rfl, ?_⟩) hS ?_; rotate_left; (intro w' hw; skip; first | (go_simp; done) | (go_simp; with_reducible rfl)); rotate_left
  try simp only [List.setIfInBounds_toArray, List.set_cons_zero, List.set_cons_succ]
  refine takeH 7 41 ?_ rfl rfl (by kernel_rfl) (by kernel_rfl) (by kernel_rfl) (fun _ _ _ h => h) (Or.inl ⟨by kernel_rfl, ?_⟩) hS ?_; rotate_left; (intro w' hw; obtain ⟨z4, z5⟩ := HS1.out _ hw; first | (go_simp; done) | (go_simp; with_reducible rfl)); rotate_left
  try simp only [List.setIfInBounds_toArray, List.set_cons_zero, List.set_cons_succ]
  refine wpAnyH_ready (rs := [8]) (by kernel_rfl) (by simp) ?_; refine AllReadyH.cons rfl (fun K2 hK => ?_) AllReadyH.nil; go_simp; go_wp2_with (go_at_call 57; (with_reducible refine (J1.out _ HQ.out).mono ?_); rintro e wB ⟨rfl, hB⟩); refine hK.out _ _ ?_ (fun _ => ?_); (exact HS2.out _ hB.out); clear hK K2
  refine wpAnyH_done (by kernel_rfl) ?_ _
  clear hS HQ J1 HS1 HS2
  obtain ⟨_, x1, _, _⟩ := hB.out.r.cs
  have hmp := hB.out.r.map
  rw [List.map_append, List.map_cons] at hmp
  have hni : (((v :: t).map Nd.key ++ n.key :: [].map Nd.key).map (·.id)).Nodup := by
    have := hB.out.r.ndi
    rw [← Rb.keys_id, List.map_append, List.map_cons] at this
    exact this
  have HMP := Lib.hid hmp
  have HNI := Lib.hid hni
  have HB := Lib.hid hB.out
  clear hmp hni hB
  go_upto_region 6 with (at_delete; (refine wpDelR _ rfl _ _ rfl m ((v :: t).map Nd.key) ([].map Nd.key) n.key rfl HMP.out rfl HW.out HNI.out ?_); intro wC hmC hcC hsz; have HD := Lib.hid (HB.out.del hmC hcC); clear hmC hcC hsz)
  clear HMP HNI HB HW
  obtain ⟨_, x2, _, _⟩ := HD.out.r.cs
  have HM2 := Lib.hid HD.out.r.map
  obtain ⟨N, hNd⟩ : ∃ N, (((v :: t) ++ []).map Nd.key).length = N + 1 := ⟨t.length, by simp⟩
  have t0 : ((((N + 1 : Nat) : Nat) : Int) == 0) = false := by simp; omega
  have HND := Lib.hid hNd
  clear hNd
  go_wp2_with (at_len; refine wpLenR _ rfl _ rfl m _ rfl HM2.out ?_; rw [HND.out])
  go_end0
  have hfc : Chg (footG R m ([] ++ n :: (v :: t))) w wC := (HVC.out.mono (fun k hk => Or.inl (Or.inl (Or.inl hk)))).trans HD.out.c (fun k hk => Or.inl ((HFP.out k).1 hk))
  exact ⟨rfl, (by have := GQ.cut HRING.out (fun h => by cases h) HLO.out HD.out rfl; rw [List.append_nil] at this; exact this), hfc⟩
set_option maxRecDepth 100000 in
set_option maxHeartbeats 8000000 in
theorem settleOne (B R m : Nat) (q : Int) (g : Bool) (n : Nd) (x y : Nat → Nat) (w : World) (h : RIn w B R m q g (n :: []) x y) (hi : n.r.its = []) :
    Calls Try.prog 42 #[.pointer (some ⟨R, 0, none⟩), .int .i64 n.r.f] w (RetS B R m q false [] n [] w) := by
  have hn : n ∈ n :: [] := by simp
  obtain ⟨_, c1, c2, _⟩ := h.r.cs
  replace c2 : w.cell? ⟨R, 2, none⟩ = some (.pointer (some ⟨n.b, 0, none⟩)) := c2
  have r1 := h.r.look hn
  obtain ⟨d0, _, _, _, _, _⟩ := h.r.nd6 hn
  unfold Nd.src at d0
  rw [h.qs.src n hn] at d0
  have hm1 := run_mLen n.q
  simp only [Try.types_size, Made.depth, Nat.reduceAdd] at hm1
  have KL := Lib.hid (lenC B n.q n.r.its n.F w (h.qs.q n hn) (by rw [hi]; decide))
  rw [hi] at KL
  have hq2 := eqSameR ⟨n.b, 0, none⟩ w
  have KV := Lib.hid (visitC B R m q g n [] x y w h)
  have hp : ([] ++ [n]).Perm ([] ++ n :: []) := List.perm_append_singleton n []
  have HFP := Lib.hid (fun k => footG_perm (R := R) (m := m) hp k)
  clear h hn hi hp
  go_enter Try.func42, Try.ntmps42
  go_upto_region 4 with (first | (go_at_call 33; (with_reducible refine KL.out.mono ?_); rintro e wA ⟨rfl, rfl⟩) | (go_at_call 58; (with_reducible refine KV.out.mono ?_); rintro e wV ⟨rfl, hV, hVc⟩))
  have HR := Lib.hid (show RIn wV B R m q false (([] : List Nd) ++ n :: []) x y from hV)
  have HVC := Lib.hid hVc
  clear c1 c2 r1 d0 hm1 KL hq2 hV hVc KV
  have HLO := Lib.hid (HR.out.lo)
  have HRING := Lib.hid (HR.out.ring)
  have HQ := Lib.hid HR.out.gqd
  have HW := Lib.hid (HR.out.r.small n (by simp))
  have hin := HR.out.ring.in_of (x := n.b) (by simp)
  have J1 := Lib.hid (fun W' hW => gq_join (w0 := wV) (F := footG R m (([] : List Nd) ++ n :: ([] : List Nd))) (B := B) (R := R) (m := m) (q := q) (v := visOf (([] : List Nd) ++ n :: ([] : List Nd))) (g := false) (ns := (([] : List Nd) ++ n :: ([] : List Nd))) (aft := fun k => pB (x k)) (bef := fun k => pB (y k)) (y n.b) (x n.b) W' hW hin.2 hin.1)
  clear hin
  obtain ⟨S, hSd⟩ : ∃ S : World → Prop, S = fun W' => ∃ aft' bef', GQ wV (footG R m (([] : List Nd) ++ n :: ([] : List Nd))) B R m q (visOf (([] : List Nd) ++ n :: ([] : List Nd))) false (([] : List Nd) ++ n :: ([] : List Nd)) aft' bef' W' ∧ aft' n.b = .pointer (some ⟨x n.b, 0, none⟩) ∧ bef' n.b = .pointer (some ⟨y n.b, 0, none⟩) := ⟨_, rfl⟩
  have HS1 : Hid (∀ W', S W' → W'.cell? ⟨n.b, 4, none⟩ = some (.pointer (some ⟨y n.b, 0, none⟩)) ∧ W'.cell? ⟨n.b, 5, none⟩ = some (.pointer (some ⟨x n.b, 0, none⟩))) := Lib.hid (fun W' hW' => by
    rw [hSd] at hW'
    obtain ⟨aft', bef', hg, h1, h2⟩ := hW'
    obtain ⟨_, _, _, _, g4, g5⟩ := hg.r.nd6 (n := n) (by simp)
    rw [h2] at g4
    rw [h1] at g5
    exact ⟨g4, g5⟩)
  have HS2 : Hid (∀ W', GQ wV (footG R m (([] : List Nd) ++ n :: ([] : List Nd))) B R m q (visOf (([] : List Nd) ++ n :: ([] : List Nd))) false (([] : List Nd) ++ n :: ([] : List Nd)) (updV (fun k => pB (x k)) (y n.b) (.pointer (some ⟨x n.b, 0, none⟩))) (updV (fun k => pB (y k)) (x n.b) (.pointer (some ⟨y n.b, 0, none⟩))) W' → S W') := Lib.hid (fun W' hW' => by
    rw [hSd]
    exact ⟨_, _, hW', by unfold updV; split <;> rfl, by unfold updV; split <;> rfl⟩)
  have hS : S (World.drew wV) := by rw [hSd]; exact ⟨_, _, HQ.out, rfl, rfl⟩
  clear hSd
  go_upto_region 4 with fail
  refine wp_region_any (by kernel_rfl) ?_
  change wpAny _ _ _ _ _ _ _ (World.drew _)
  refine wpAny_of_held (S := S) _ _ _ _ ?_
  refine takeH 0 34 ?_ rfl rfl (by kernel_rfl) (by kernel_rfl) (by kernel_rfl) (fun _ _ _ h => h) (Or.inl ⟨by kernel_rfl, ?_⟩) hS ?_; rotate_left; (intro w' hw; skip; first | (go_simp; done) | (go_simp; with_reducible rfl)); rotate_left
  try simp only [List.setIfInBounds_toArray, List.set_cons_zero, List.set_cons_succ]
  refine takeH 1 35 ?_ rfl rfl (by kernel_rfl) (by kernel_rfl) (by kernel_rfl) (fun _ _ _ h => h) (Or.inl ⟨by kernel_rfl, ?_⟩) hS ?_; rotate_left; (intro w' hw; skip; first | (go_simp; done) | (go_simp; with_reducible rfl)); rotate_left
  try simp only [List.setIfInBounds_toArray, List.set_cons_zero, List.set_cons_succ]
  refine takeH 2 36 ?_ rfl rfl (by kernel_rfl) (by kernel_rfl) (by kernel_rfl) (fun _ _ _ h => h) (Or.inl ⟨by kernel_rfl, ?_⟩) hS ?_; rotate_left; (intro w' hw; skip; first | (go_simp; done) | (go_simp; with_reducible rfl)); rotate_left
  try simp only [List.setIfInBounds_toArray, List.set_cons_zero, List.set_cons_succ]
  refine takeH 3 37 ?_ rfl rfl (by kernel_rfl) (by kernel_rfl) (by kernel_rfl) (fun _ _ _ h => h) (Or.inl ⟨by kernel_rfl, ?_⟩) hS ?_; rotate_left; (intro w' hw; obtain ⟨z4, z5⟩ := HS1.out _ hw; first | (go_simp; done) | (go_simp; with_reducible rfl)); rotate_left
  try simp only [List.setIfInBounds_toArray, List.set_cons_zero, List.set_cons_succ]
  refine takeH 4 38 ?_ rfl rfl (by kernel_rfl) (by kernel_rfl) (by kernel_rfl) (fun _ _ _ h => h) (Or.inl ⟨by kernel_rfl, ?_⟩) hS ?_; rotate_left; (intro w' hw; skip; first | (go_simp; done) | (go_simp; with_reducible rfl)); rotate_left
  try simp only [List.setIfInBounds_toArray, List.set_cons_zero, List.set_cons_succ]
  refine takeH 5 39 ?_ rfl rfl (by kernel_rfl) (by kernel_rfl) (by kernel_rfl) (fun _ _ _ h => h) (Or.inl ⟨by kernel_rfl, ?_⟩) hS ?_; rotate_left; (intro w' hw; skip; first | (go_simp; done) | (go_simp; with_reducible rfl)); rotate_left
  try simp only [List.setIfInBounds_toArray, List.set_cons_zero, List.set_cons_succ]
  refine takeH 6 40 ?_ rfl rfl (by kernel_rfl) (by kernel_rfl) (by kernel_rfl) (fun _ _ _ h => h) (Or.inl ⟨by kernel_rfl, ?_⟩) hS ?_; rotate_left; (intro w' hw; skip; first | (go_simp; done) | (go_simp; with_reducible rfl)); rotate_left
  try simp only [List.setIfInBounds_toArray, List.set_cons_zero, List.set_cons_succ]
  refine takeH 7 41 ?_ rfl rfl (by kernel_rfl) (by kernel_rfl) (by kernel_rfl) (fun _ _ _ h => h) (Or.inl ⟨by kernel_rfl, ?_⟩) hS ?_; rotate_left; (intro w' hw; obtain ⟨z4, z5⟩ := HS1.out _ hw; first | (go_simp; done) | (go_simp; with_reducible rfl)); rotate_left
  try simp only [List.setIfInBounds_toArray, List.set_cons_zero, List.set_cons_succ]
  refine wpAnyH_ready (rs := [8]) (by kernel_rfl) (by simp) ?_; refine AllReadyH.cons rfl (fun K2 hK => ?_) AllReadyH.nil; go_simp; go_wp2_with (go_at_call 57; (with_reducible refine (J1.out _ HQ.out).mono ?_); rintro e wB ⟨rfl, hB⟩); refine hK.out _ _ ?_ (fun _ => ?_); (exact HS2.out _ hB.out); clear hK K2
  refine wpAnyH_done (by kernel_rfl) ?_ _
  clear hS HQ J1 HS1 HS2
  obtain ⟨_, x1, _, _⟩ := hB.out.r.cs
  have hmp := hB.out.r.map
  rw [List.map_append, List.map_cons] at hmp
  have hni : ((([] : List Nd).map Nd.key ++ n.key :: ([] : List Nd).map Nd.key).map (·.id)).Nodup := by
    have := hB.out.r.ndi
    rw [← Rb.keys_id, List.map_append, List.map_cons] at this
    exact this
  have HMP := Lib.hid hmp
  have HNI := Lib.hid hni
  have HB := Lib.hid hB.out
  clear hmp hni hB
  go_upto_region 6 with (at_delete; (refine wpDelR _ rfl _ _ rfl m (([] : List Nd).map Nd.key) (([] : List Nd).map Nd.key) n.key rfl HMP.out rfl HW.out HNI.out ?_); intro wC hmC hcC hsz; have HD := Lib.hid (HB.out.del hmC hcC); clear hmC hcC hsz)
  clear HMP HNI HB HW
  obtain ⟨_, x2, _, _⟩ := HD.out.r.cs
  have HM2 := Lib.hid HD.out.r.map
  have HV2 := Lib.hid (HD.out.vis (.pointer none))
  have f2 := HD.out.r.fr 2
  obtain ⟨_, _, x3, _⟩ := HD.out.r.cs
  replace x3 : wC.cell? ⟨R, 2, none⟩ = some (.pointer (some ⟨n.b, 0, none⟩)) := x3
  have HND : Hid ((((([] : List Nd) ++ []).map Nd.key).length : Nat) = 0) := Lib.hid rfl
  go_wp2_with (at_len; refine wpLenR _ rfl _ rfl m _ rfl HM2.out ?_; rw [HND.out])
  go_end0
  have hfc : Chg (footG R m ([] ++ n :: [])) w _ := (HVC.out.mono (fun k hk => Or.inl (Or.inl (Or.inl hk)))).trans HV2.out.c (fun k hk => Or.inl (hk))
  exact ⟨rfl, GQ.cut (a := []) (b := []) (n := n) HRING.out (fun _ => rfl) HLO.out HV2.out rfl, hfc⟩
end Go.Proofs.Ytgeoebodlcbebaa

namespace Rb
def Nd.que (n : Nd) (F : Nat → Prop) (its : List Ff.E) : Nd := { n with F := F, r := { n.r with its := its } }
end Rb
namespace Go.Proofs.Ytgeoebodlcbebaa
open Go.RowKit
open Rb (Nd)
set_option linter.unusedVariables false

theorem mem_que {a b : List Nd} {n z : Nd} {F : Nat → Prop} {its : List Ff.E} (h : z ∈ a ++ n.que F its :: b) : z = n.que F its ∨ (z ∈ a ++ n :: b ∧ z ∈ a ++ b) := by
  rcases List.mem_append.1 h with h | h
  · exact Or.inr ⟨by simp [h], by simp [h]⟩
  · rcases List.mem_cons.1 h with h | h
    · exact Or.inl h
    · exact Or.inr ⟨by simp [h], by simp [h]⟩
theorem map_que (a b : List Nd) (n : Nd) (F : Nat → Prop) (its : List Ff.E) : (a ++ n.que F its :: b).map (·.b) = (a ++ n :: b).map (·.b) := by simp [Rb.Nd.que]
theorem vis_que (a b : List Nd) (n : Nd) (F : Nat → Prop) (its : List Ff.E) : visOf (a ++ n.que F its :: b) = visOf (a ++ n :: b) := by cases a <;> rfl
theorem RIn.queue {w w' : World} {B R m : Nat} {q : Int} {g : Bool} {a b : List Nd} {n : Nd} {x y : Nat → Nat} {r : Value} {its : List Ff.E} {e : Ending} (h : RIn w B R m q g (a ++ n :: b) x y) (hBw : B ≤ w.heap.size) (hr : RetQ r B n.q its n.F w e w') :
    ∃ F', RIn w' B R m q g (a ++ n.que F' its :: b) x y ∧ (∀ k, footG R m (a ++ n.que F' its :: b) k → footG R m (a ++ n :: b) k ∨ w.heap.size ≤ k) ∧ Chg (footG R m (a ++ n :: b)) w w' := by
  obtain ⟨F', g1, g2⟩ := hr.s
  have hn : n ∈ a ++ n :: b := by simp
  have hnd := h.r.ndb
  have hne : ∀ z ∈ a ++ b, z.b ≠ n.b := fun z hz => by
    rw [List.map_append, List.map_cons, List.nodup_append] at hnd
    obtain ⟨_, h2, h3⟩ := hnd
    rw [List.nodup_cons] at h2
    rcases List.mem_append.1 hz with h4 | h4
    · exact h3 z.b (List.mem_map.2 ⟨z, h4, rfl⟩) n.b (by simp)
    · exact fun e => h2.1 (by rw [← e]; exact List.mem_map.2 ⟨z, h4, rfl⟩)
  have hkeep : ∀ k, footR R m (a ++ n :: b) k → w'.heap[k]? = w.heap[k]? := fun k hk => hr.c.block k (h.r.lt k hk) (fun hf => h.qs.own n hn k hf hk)
  have hz : ∀ z ∈ a ++ b, z ∈ a ++ n :: b := fun z hz => by
    rcases List.mem_append.1 hz with h | h <;> simp [h]
  have hkz : ∀ z ∈ a ++ b, ∀ k, z.F k → ¬ n.F k := fun z hz' => h.qs.apart z (hz z hz') n hn (hne z hz')
  have hfR : ∀ k, footR R m (a ++ n.que F' its :: b) k ↔ footR R m (a ++ n :: b) k := fun k => by unfold footR; rw [map_que]
  have hfG : ∀ k, footG R m (a ++ n.que F' its :: b) k → footG R m (a ++ n :: b) k ∨ w.heap.size ≤ k := fun k hk => by
    rcases hk with hk | ⟨z, hz', hk⟩
    · exact Or.inl (Or.inl ((hfR k).1 hk))
    · rcases mem_que hz' with e | ⟨i1, i2⟩
      · subst e
        rcases g2 k hk with e | e
        · exact Or.inl (Or.inr ⟨n, hn, e⟩)
        · exact Or.inr e
      · exact Or.inl (Or.inr ⟨z, i1, hk⟩)
  refine ⟨F', ⟨?_, ⟨fun z hz' => ?_, fun z hz' => ?_, fun z hz' k hk hx => ?_, fun z hz1 z' hz2 hne' k hk hk' => ?_⟩, by rw [map_que]; exact h.ring, fun k hk => ?_⟩, hfG, hr.c.mono (fun k hk => Or.inl (Or.inr ⟨n, hn, hk⟩))⟩
  · rw [vis_que]
    exact (h.r.keep hkeep).swap rfl rfl rfl rfl rfl rfl
  · rcases mem_que hz' with e | ⟨i1, i2⟩
    · subst e; exact h.qs.src n hn
    · exact h.qs.src z i1
  · rcases mem_que hz' with e | ⟨i1, i2⟩
    · subst e; exact g1
    · exact (h.qs.q z i1).keep (fun k hk => hr.c.block k ((h.qs.q z i1).lt k hk).2 (hkz z i2 k hk))
  · have hx := (hfR k).1 hx
    rcases mem_que hz' with e | ⟨i1, i2⟩
    · subst e
      rcases g2 k hk with e | e
      · exact h.qs.own n hn k e hx
      · have := h.r.lt k hx; omega
    · exact h.qs.own z i1 k hk hx
  · rcases mem_que hz1 with e | ⟨i1, i2⟩ <;> rcases mem_que hz2 with e' | ⟨j1, j2⟩
    · subst e e'; exact absurd rfl hne'
    · subst e
      rcases g2 k hk with e | e
      · exact hkz z' j2 k hk' e
      · have := ((h.qs.q z' j1).lt k hk').2; omega
    · subst e'
      rcases g2 k hk' with e | e
      · exact hkz z i2 k hk e
      · have := ((h.qs.q z i1).lt k hk).2; omega
    · exact h.qs.apart z i1 z' j1 hne' k hk hk'
  · rcases hfG k hk with e | e
    · exact h.lo k e
    · omega
end Go.Proofs.Ytgeoebodlcbebaa

namespace Fl
theorem take_shape {s : St} {r : Rw} {t : List Rw} {e : Ff.E} {rest : List Ff.E} (hnd : (s.pick.l.map (·.f)).Nodup) (hl : s.pick.l = r :: t) (hi : r.its = e :: rest) :
    s.take.q = s.pick.q ∧ s.take.l = (if rest = [] then t else { r with d := r.d - e.2, its := rest } :: t) ∧ s.take.g = (if rest = [] then false else s.pick.g) ∧ s.takeV = some (r.f, e) := by
  have e1 : s.take = s.pick.with { r with d := r.d - e.2, its := rest } := by
    unfold St.take
    rw [hl]
    dsimp only
    rw [hi]
  have e2 : s.takeV = some (r.f, e) := by
    unfold St.takeV
    rw [hl]
    dsimp only
    rw [hi]; rfl
  rw [e1]
  refine ⟨rfl, ?_, ?_, e2⟩
  · rw [with_l, hl]
    rw [hl] at hnd
    have := put_split (a := []) (b := t) (r := r) (x := { r with d := r.d - e.2, its := rest }) hnd rfl
    rw [List.nil_append, List.nil_append] at this
    rw [this]
    by_cases h : rest = []
    · simp [h]
    · simp [h]
  · by_cases h : rest = []
    · rw [if_pos h, with_first (x := { r with d := r.d - e.2, its := rest }) hl rfl h]
    · rw [if_neg h, with_stay (x := { r with d := r.d - e.2, its := rest }) h]
end Fl
namespace Go.Proofs.Ytgeoebodlcbebaa
open Go.RowKit
open Rb (Nd)
set_option linter.unusedVariables false

structure RetSF (B R m : Nat) (q : Int) (g : Bool) (n : Nd) (t : List Nd) (w : World) (e : Ending) (w' : World) : Prop where
  e : e = .returned (.tuple #[])
  s : ∃ x y, RIn w' B R m q (if n.r.its = [] then false else g) (if n.r.its = [] then t else n :: t) x y
  c : Chg (footG R m (n :: t)) w w'
theorem settleFirst (B R m : Nat) (q : Int) (g : Bool) (n : Nd) (t : List Nd) (x y : Nat → Nat) (w : World) (h : RIn w B R m q g (n :: t) x y) (hl : n.r.its.length ≤ 1000000) :
    Calls Try.prog 42 #[.pointer (some ⟨R, 0, none⟩), .int .i64 n.r.f] w (RetSF B R m q g n t w) := by
  by_cases hi : n.r.its = []
  · cases t with
    | nil => exact (settleOne B R m q g n x y w h hi).mono fun e w' hr => ⟨hr.e, by rw [if_pos hi, if_pos hi]; exact hr.s, hr.c⟩
    | cons v t => exact (settleMore B R m q g n v t x y w h hi).mono fun e w' hr => ⟨hr.e, by rw [if_pos hi, if_pos hi]; exact hr.s, hr.c⟩
  · exact (settleWaits B R m q g (n :: t) x y n w h (by simp) hi hl).mono fun e w' hr => by
      obtain ⟨h1, h2⟩ := hr
      subst h2
      exact ⟨h1, by rw [if_neg hi, if_neg hi]; exact ⟨x, y, h⟩, Chg.refl _ _⟩
/-- Take's post -/
structure RetTk (B R m : Nat) (F : Nat → Prop) (s : Fl.St) (w : World) (e : Ending) (w' : World) : Prop where
  v : (s.takeV = none ∧ e = .returned (pickV [])) ∨ ∃ f id co T q wt d, s.takeV = some (f, (id, co)) ∧ e = .returned (.tuple #[.agg #[.iface T (.pointer (some ⟨q, 0, none⟩)), .int .i64 f, .int .i64 wt, .int .i64 d], .agg #[.int .i64 id, .int .i64 co], .bool true])
  s : ∃ ns x y, RIn w' B R m s.take.q s.take.g ns x y ∧ ns.map (·.r) = s.take.l ∧ ∀ k, footG R m ns k → F k ∨ w.heap.size ≤ k
  c : Chg F w w'
/-- the four boxes of Take's walk -/
structure Box4 (C X : Nat) (n : Nd) (id co : Int) (W : World) : Prop where
  c : W.heap[C]? = some flO0
  d : W.heap[C + 1]? = some zeroI
  x : W.heap[X]? = some (.cells #[.iface n.t (.pointer (some ⟨n.q, 0, none⟩)), .int .i64 n.r.f, .int .i64 n.r.w, .int .i64 n.r.d] 75)
  y : W.heap[X + 1]? = some (itO id co)
theorem Box4.keep {C X : Nat} {n : Nd} {id co : Int} {W W' : World} {G : Nat → Prop} (h : Box4 C X n id co W) (hc : Chg G W W') (h1 : ¬ G C) (h2 : ¬ G (C + 1)) (h3 : ¬ G X) (h4 : ¬ G (X + 1)) : Box4 C X n id co W' :=
  ⟨hc.keep h.c h1, hc.keep h.d h2, hc.keep h.x h3, hc.keep h.y h4⟩
theorem fl_cells {W : World} {X : Nat} {s f wt d : Value} (h : W.heap[X]? = some (.cells #[s, f, wt, d] 75)) : W.cell? ⟨X, 0, none⟩ = some s ∧ W.cell? ⟨X, 1, none⟩ = some f ∧ W.cell? ⟨X, 2, none⟩ = some wt ∧ W.cell? ⟨X, 3, none⟩ = some d :=
  ⟨by rw [cell_of_row W _ _ _ _ _ h]; rfl, by rw [cell_of_row W _ _ _ _ _ h]; rfl, by rw [cell_of_row W _ _ _ _ _ h]; rfl, by rw [cell_of_row W _ _ _ _ _ h]; rfl⟩
set_option maxRecDepth 100000 in
set_option maxHeartbeats 8000000 in
theorem takeNone (B R m : Nat) (s : Fl.St) (ns : List Nd) (x y : Nat → Nat) (F : Nat → Prop) (w : World) (h : RIn w B R m s.q s.g ns x y) (hl : ns.map (·.r) = s.l) (hF : ∀ k, footG R m ns k ↔ F k) (hG : Fl.Good s) (hL : Fl.Lim 64 s) (hS : Fl.Small 90000 s) (hn : s.l = []) :
    Calls Try.prog 39 #[.pointer (some ⟨R, 0, none⟩)] w (RetTk B R m F s w) := by
  have hb0 : Below w.heap.size w (preP w) := ((Below.refl _ _).alloc (Nat.le_refl _) _).alloc (by simp) _
  have hp : s.pick = s := Fl.pick_nil hn
  have hFl : ∀ k, F k → k < w.heap.size := fun k hk => (h.lt k ((hF k).2 hk)).2
  have ht1 : s.take = s := by unfold Fl.St.take; rw [hp, hn]
  have ht2 : s.takeV = none := by unfold Fl.St.takeV; rw [hp, hn]
  have K := Lib.hid ((pickC B R m s ns x y F _ (h.below hb0) hl hF hG hL hS).mono (R' := fun e w' => e = .returned (.tuple #[.agg #[.nilIface, .int .i64 0, .int .i64 0, .int .i64 0], .agg #[.int .i64 0, .int .i64 0], .bool false]) ∧ w'.heap[w.heap.size]? = some flO0 ∧ w'.heap[w.heap.size + 1]? = some zeroI ∧ Hid (∀ W, Chg (fun k => w.heap.size ≤ k) w' W → RetTk B R m F s w (.returned (pickV [])) W)) fun e w' hr => by
    obtain ⟨ns', x', y', h1, h2, h3, h4⟩ := hr.s
    rw [hp, hn] at h3
    obtain rfl : ns' = [] := by simpa using h3
    refine ⟨h1, hr.c.keep (heap_alloc2_old w flO0 zeroI) (fun hf => by have := hFl _ hf; omega), hr.c.keep (heap_alloc2_new w flO0 zeroI) (fun hf => by have := hFl _ hf; omega), Lib.hid fun W hW => ⟨Or.inl ⟨ht2, rfl⟩, ⟨[], x', y', ?_, by rw [ht1, hn]; rfl, fun k hk => Or.inl ((h4 k).1 hk)⟩, ?_⟩⟩
    · rw [ht1]
      rw [hp] at h2
      exact h2.keep (fun k hk => hW.block k (h2.lt k hk).2 (fun hle => by have := hFl k ((h4 k).1 hk); omega))
    · exact (((Chg.of_below (F := F) hb0).trans hr.c (fun k hk => Or.inl hk)).trans hW (fun k hk => Or.inr hk)))
  clear h hl hF hG hL hS hn hb0 hp hFl ht1 ht2
  go_enter Try.func39, Try.ntmps39
  go_wp2_with (go_at_call 40; (with_reducible refine K.out.mono ?_); rintro e wA ⟨rfl, hX0, hX1, hE⟩; have HX := Lib.hid (And.intro hX0 hX1); clear hX0 hX1; have hY0 := (Lib.alloc_old (wA.alloc flO0) zeroI w.heap.size (by have := lt_block HX.out.1; simp; omega)).trans ((Lib.alloc_old wA flO0 w.heap.size (lt_block HX.out.1)).trans HX.out.1); have hY1 := (Lib.alloc_old (wA.alloc flO0) zeroI (w.heap.size + 1) (by have := lt_block HX.out.2; simp; omega)).trans ((Lib.alloc_old wA flO0 (w.heap.size + 1) (lt_block HX.out.2)).trans HX.out.2); obtain ⟨a0, a1, a2, a3, a4, a5, f0, f1, f2, f3, f4, f5⟩ := res_cells hY0 hY1; clear hY0 hY1)
  have hfin := hE.out (((((((wA.alloc flO0).alloc zeroI).setCell ⟨w.heap.size, 0, none⟩ .nilIface).setCell ⟨w.heap.size, 1, none⟩ (.int .i64 0)).setCell ⟨w.heap.size, 2, none⟩ (.int .i64 0)).setCell ⟨w.heap.size, 3, none⟩ (.int .i64 0)).setCell ⟨w.heap.size + 1, 0, none⟩ (.int .i64 0) |>.setCell ⟨w.heap.size + 1, 1, none⟩ (.int .i64 0)) (by
    have hb : Below wA.heap.size wA ((wA.alloc flO0).alloc zeroI) := ((Below.refl _ _).alloc (Nat.le_refl _) _).alloc (by simp) _
    exact (((((((Chg.of_below (F := fun k => w.heap.size ≤ k) hb).setCell (p := ⟨w.heap.size, 0, none⟩) (Or.inl (Nat.le_refl _)) _).setCell (p := ⟨w.heap.size, 1, none⟩) (Or.inl (Nat.le_refl _)) _).setCell (p := ⟨w.heap.size, 2, none⟩) (Or.inl (Nat.le_refl _)) _).setCell (p := ⟨w.heap.size, 3, none⟩) (Or.inl (Nat.le_refl _)) _).setCell (p := ⟨w.heap.size + 1, 0, none⟩) (Or.inl (Nat.le_succ _)) _).setCell (p := ⟨w.heap.size + 1, 1, none⟩) (Or.inl (Nat.le_succ _)) _))
  have HE := Lib.hid hfin
  clear hfin hE
  refine bodyPost_ret (v := pickV []) ?_ rfl ?_
  · rw [results_cct rfl]; unfold pickV; go_simp; (try rfl)
  · exact HE.out
end Go.Proofs.Ytgeoebodlcbebaa

namespace Go.Proofs.Ytgeoebodlcbebaa
open Go.RowKit
open Rb (Nd)
set_option linter.unusedVariables false

/-- a ring in the course of Take, behind Pick -/
structure TkQ (w : World) (B R m : Nat) (F : Nat → Prop) (X : Nat) (n0 : Nd) (id co : Int) (q : Int) (g : Bool) (ns : List Nd) (x y : Nat → Nat) (W : World) : Prop where
  r : RIn W B R m q g ns x y
  bx : Box4 w.heap.size X n0 id co W
  f : ∀ k, footG R m ns k → F k ∨ X + 2 ≤ k
  c : Chg F w W
  fl : ∀ k, F k → k < w.heap.size
  x2 : w.heap.size + 2 ≤ X
  z : X + 2 ≤ W.heap.size
theorem TkQ.chg {w : World} {B R m : Nat} {F : Nat → Prop} {X : Nat} {n0 : Nd} {id co : Int} {q : Int} {g g' : Bool} {ns ns' : List Nd} {x y x' y' : Nat → Nat} {W W' : World} (h : TkQ w B R m F X n0 id co q g ns x y W) (hr : RIn W' B R m q g' ns' x' y') (hf : ∀ k, footG R m ns' k → footG R m ns k ∨ W.heap.size ≤ k) (hc : Chg (footG R m ns) W W') : TkQ w B R m F X n0 id co q g' ns' x' y' W' := by
  have hno : ∀ k, w.heap.size ≤ k → k < X + 2 → ¬ footG R m ns k := fun k h1 h2 hk => by
    rcases h.f k hk with e | e
    · have := h.fl k e; omega
    · omega
  have h2 := h.x2
  have hz := h.z
  refine ⟨hr, h.bx.keep hc (hno _ (Nat.le_refl _) (by omega)) (hno _ (by omega) (by omega)) (hno _ (by omega) (by omega)) (hno _ (by omega) (by omega)), fun k hk => ?_, h.c.trans hc (fun k hk => ?_), h.fl, h.x2, Nat.le_trans h.z hc.size⟩
  · rcases hf k hk with e | e
    · exact h.f k e
    · right; omega
  · rcases h.f k hk with e | e
    · exact Or.inl e
    · right; omega
theorem TkQ.drew {w : World} {B R m : Nat} {F : Nat → Prop} {X : Nat} {n0 : Nd} {id co : Int} {q : Int} {g : Bool} {ns : List Nd} {x y : Nat → Nat} {W : World} (h : TkQ w B R m F X n0 id co q g ns x y W) : TkQ w B R m F X n0 id co q g ns x y W.drew :=
  ⟨h.r.below (Below.refl _ _).drew, ⟨h.bx.c, h.bx.d, h.bx.x, h.bx.y⟩, h.f, h.c.drew, h.fl, h.x2, h.z⟩
theorem TkQ.dfc {w : World} {B R m : Nat} {F : Nat → Prop} {X : Nat} {n0 : Nd} {id co : Int} {q : Int} {g : Bool} {n : Nd} {t : List Nd} {x y : Nat → Nat} {W : World} (h : TkQ w B R m F X n0 id co q g (n :: t) x y W) (d : Int) : TkQ w B R m F X n0 id co q g (n.dfc d :: t) x y (W.setCell ⟨n.b, 3, none⟩ (.int .i64 d)) :=
  h.chg (RIn.dfc (a := []) (b := t) h.r d) (fun k hk => Or.inl ((footG_dfc [] t n d k).1 hk)) ((Chg.refl (footG R m (n :: t)) W).setCell (p := ⟨n.b, 3, none⟩) (Or.inl (Or.inl (Or.inr (Or.inr (by simp))))) _)
theorem tk_pop {w : World} {B R m : Nat} {F : Nat → Prop} {X : Nat} {n0 : Nd} {id co : Int} {q : Int} {g : Bool} {n : Nd} {t : List Nd} {x y : Nat → Nat} {W : World} (h : TkQ w B R m F X n0 id co q g (n :: t) x y W) (hBw : B ≤ w.heap.size) (rest : List Ff.E) (hi : n.r.its = (id, co) :: rest) (hl : rest.length ≤ 90000) :
    Calls Try.prog 78 #[.pointer (some ⟨n.q, 0, none⟩)] W fun e W' => e = .returned (.tuple #[.agg #[.int .i64 id, .int .i64 co], .bool true]) ∧ ∃ F', Hid (TkQ w B R m F X n0 id co q g (n.que F' rest :: t) x y W') := by
  have hq := h.r.qs.q n (by simp)
  rw [hi] at hq
  refine (popSome B n.q (id, co) rest n.F W hq hl).mono fun e W' hr => ⟨hr.r, ?_⟩
  have hBW : B ≤ W.heap.size := Nat.le_trans hBw (Nat.le_trans (by have := h.x2; omega) h.z)
  obtain ⟨F', r1, r2, r3⟩ := RIn.queue (a := []) (b := t) h.r hBW hr
  exact ⟨F', Lib.hid (h.chg r1 r2 r3)⟩
theorem tk_settle {w : World} {B R m : Nat} {F : Nat → Prop} {X : Nat} {n0 : Nd} {id co : Int} {q : Int} {g : Bool} {n : Nd} {t : List Nd} {x y : Nat → Nat} {W : World} (h : TkQ w B R m F X n0 id co q g (n :: t) x y W) (hl : n.r.its.length ≤ 1000000) :
    Calls Try.prog 42 #[.pointer (some ⟨R, 0, none⟩), .int .i64 n.r.f] W fun e W' => e = .returned (.tuple #[]) ∧ Hid (∃ x' y', TkQ w B R m F X n0 id co q (if n.r.its = [] then false else g) (if n.r.its = [] then t else n :: t) x' y' W') := by
  refine (settleFirst B R m q g n t x y W h.r hl).mono fun e W' hr => ⟨hr.e, Lib.hid ?_⟩
  obtain ⟨x', y', h1⟩ := hr.s
  refine ⟨x', y', h.chg h1 (fun k hk => Or.inl ?_) hr.c⟩
  by_cases hi : n.r.its = []
  · rw [if_pos hi] at hk
    exact footG_sub (a := []) (b := t) k hk
  · rw [if_neg hi] at hk
    exact hk
theorem TkQ.out {w : World} {B R m : Nat} {F : Nat → Prop} {X : Nat} {n0 : Nd} {id co : Int} {s : Fl.St} {q : Int} {g : Bool} {ns : List Nd} {x y : Nat → Nat} {W W' : World} (h : TkQ w B R m F X n0 id co q g ns x y W) (hc : Chg (fun k => k = w.heap.size ∨ k = w.heap.size + 1) W W') (h1 : s.take.q = q) (h2 : s.take.g = g) (h3 : s.take.l = ns.map (·.r)) (v : Value) (hv : ∃ f id co T q wt d, s.takeV = some (f, (id, co)) ∧ v = .tuple #[.agg #[.iface T (.pointer (some ⟨q, 0, none⟩)), .int .i64 f, .int .i64 wt, .int .i64 d], .agg #[.int .i64 id, .int .i64 co], .bool true]) : RetTk B R m F s w (.returned v) W' := by
  have h4 := h.x2
  refine ⟨Or.inr ?_, ⟨ns, x, y, ?_, h3.symm, fun k hk => ?_⟩, h.c.trans hc (fun k hk => Or.inr (by rcases hk with e | e <;> omega))⟩
  · obtain ⟨f, id, co, T, q, wt, d, e1, e2⟩ := hv
    exact ⟨f, id, co, T, q, wt, d, e1, by rw [e2]⟩
  · rw [h1, h2]
    exact h.r.keep (fun k hk => hc.block k (h.r.lt k hk).2 (fun he => by
      rcases h.f k hk with e | e
      · have := h.fl k e; omega
      · omega))
  · rcases h.f k hk with e | e
    · exact Or.inl e
    · right; omega
set_option maxRecDepth 100000 in
set_option maxHeartbeats 16000000 in
theorem takeSome (B R m : Nat) (s : Fl.St) (ns : List Nd) (x y : Nat → Nat) (F : Nat → Prop) (w : World) (h : RIn w B R m s.q s.g ns x y) (hl : ns.map (·.r) = s.l) (hF : ∀ k, footG R m ns k ↔ F k) (hG : Fl.Good s) (hL : Fl.Lim 64 s) (hS : Fl.Small 90000 s) (hn : s.l ≠ []) (hBw : B ≤ w.heap.size) :
    Calls Try.prog 39 #[.pointer (some ⟨R, 0, none⟩)] w (RetTk B R m F s w) := by
  have hb0 : Below w.heap.size w (preP w) := ((Below.refl _ _).alloc (Nat.le_refl _) _).alloc (by simp) _
  have hFl : ∀ k, F k → k < w.heap.size := fun k hk => (h.lt k ((hF k).2 hk)).2
  obtain ⟨hGp, hLp, hrp⟩ := hG.pick hL
  have hSp := hS.pick hG hL
  have hln : s.pick.l ≠ [] := fun e => hn (by
    have := (Fl.pick_fs hG hL).length_eq
    rw [e] at this
    simpa using this.symm)
  have K := Lib.hid ((pickC B R m s ns x y F _ (h.below hb0) hl hF hG hL hS).mono (R' := fun e w' => ∃ (n : Nd) (t : List Nd) (x' y' : Nat → Nat) (id co : Int) (rest : List Ff.E), e = .returned (.tuple #[.agg #[.iface 69 (.pointer (some ⟨n.q, 0, none⟩)), .int .i64 n.r.f, .int .i64 n.r.w, .int .i64 n.r.d], .agg #[.int .i64 id, .int .i64 co], .bool true]) ∧ n.r.its = (id, co) :: rest ∧ n.t = 69 ∧ (n :: t).map (·.r) = s.pick.l ∧ Hid (TkQ w B R m F w'.heap.size n id co s.pick.q s.pick.g (n :: t) x' y' ((w'.alloc (.cells #[.iface 69 (.pointer (some ⟨n.q, 0, none⟩)), .int .i64 n.r.f, .int .i64 n.r.w, .int .i64 n.r.d] 75)).alloc (itO id co)))) fun e w' hr => by
    obtain ⟨ns', x', y', h1, h2, h3, h4⟩ := hr.s
    cases ns' with
    | nil => exact absurd h3.symm hln
    | cons n t =>
      have hok := hGp.ok n.r (by rw [← h3]; simp)
      cases hi : n.r.its with
      | nil => exact absurd hi hok.ne
      | cons e0 rest =>
        obtain ⟨id, co⟩ := e0
        have ht := h2.qs.src n (by simp)
        refine ⟨n, t, x', y', id, co, rest, ?_, hi, ht, h3, Lib.hid ?_⟩
        · rw [h1]
          show Ending.returned (.tuple #[.agg #[.iface n.t (.pointer (some ⟨n.q, 0, none⟩)), .int .i64 n.r.f, .int .i64 n.r.w, .int .i64 n.r.d], .agg #[.int .i64 (n.r.its.head?.getD (0, 0)).1, .int .i64 (n.r.its.head?.getD (0, 0)).2], .bool true]) = _
          rw [hi, ht]; rfl
        · have hz0 : w.heap.size + 2 ≤ w'.heap.size := by have := hr.c.size; simp [preP] at this; omega
          have hbb : Below w'.heap.size w' ((w'.alloc (.cells #[.iface 69 (.pointer (some ⟨n.q, 0, none⟩)), .int .i64 n.r.f, .int .i64 n.r.w, .int .i64 n.r.d] 75)).alloc (itO id co)) := ((Below.refl _ _).alloc (Nat.le_refl _) _).alloc (by simp) _
          have k0 := hr.c.keep (heap_alloc2_old w flO0 zeroI) (fun hf => by have := hFl _ hf; omega)
          have k1 := hr.c.keep (heap_alloc2_new w flO0 zeroI) (fun hf => by have := hFl _ hf; omega)
          refine ⟨h2.below hbb, ⟨(hbb.block _ (by omega)).trans k0, (hbb.block _ (by omega)).trans k1, ?_, ?_⟩, fun k hk => Or.inl ((h4 k).1 hk), ((Chg.of_below (F := F) hb0).trans hr.c (fun k hk => Or.inl hk)).then hbb, hFl, hz0, by simp⟩
          · rw [ht]; exact heap_alloc2_old w' _ _
          · exact heap_alloc2_new w' _ _)
  have HG := Lib.hid hGp
  have HL := Lib.hid hLp
  have HS := Lib.hid hSp
  have HFl := Lib.hid hFl
  have HB := Lib.hid hBw
  clear h hl hF hG hL hS hn hb0 hFl hGp hLp hrp hSp hln hBw
  go_enter Try.func39, Try.ntmps39
  go_wp2_with (first | (go_at_call 40; (with_reducible refine K.out.mono ?_); rintro e wA ⟨n, t, x', y', id, co, rest, rfl, hi, ht, hln, hT⟩; have hlr : rest.length ≤ 90000 := (by have := HS.out.its n.r (by rw [← hln]; simp); rw [hi] at this; simp at this; omega); obtain ⟨_, _, c2, _⟩ := hT.out.r.r.cs; rw [show visOf (n :: t) = .pointer (some ⟨n.b, 0, none⟩) from rfl] at c2; obtain ⟨d0, _, _, _, _, _⟩ := hT.out.r.r.nd6 (n := n) (by simp); unfold Nd.src at d0; rw [ht] at d0; have hm1 := run_mPop n.q; simp only [Try.types_size, Made.depth, Nat.reduceAdd] at hm1) | (go_at_call 78; (with_reducible refine (tk_pop hT.out HB.out rest hi hlr).mono ?_); rintro e wB ⟨rfl, F', hP⟩))
  clear c2 d0 hm1 hlr K
  have hok := HG.out.ok n.r (by rw [← hln]; simp)
  have hco := hok.its.co (id, co) (by rw [hi]; simp)
  have hdd := hok.d
  have htop := HL.out.top n.r (by rw [← hln]; rfl)
  have hqw := qw_bound HG.out.q.1 HG.out.q.2 hok.w.1 hok.w.2
  have hw : IntKind.i64.wrap (n.r.d - co) = n.r.d - co := by
    have h1 : co ≤ 64 := hco.2
    have h2 : 1 ≤ co := hco.1
    have h3 : n.r.d ≤ 64 + 1024 := by
      by_cases hg : s.pick.g = true
      · rw [if_pos hg] at htop; omega
      · rw [if_neg hg] at htop; omega
    rw [IntKind.wrap_i64]; omega
  obtain ⟨_, _, c2, _⟩ := hP.out.r.r.cs
  rw [show visOf (n.que F' rest :: t) = .pointer (some ⟨n.b, 0, none⟩) from rfl] at c2
  obtain ⟨_, _, _, d3, _, _⟩ := hP.out.r.r.nd6 (n := n.que F' rest) (by simp)
  replace d3 : wB.cell? ⟨n.b, 3, none⟩ = some (.int .i64 n.r.d) := d3
  have f3 : wB.frozen? ⟨n.b, 3, none⟩ = false := hP.out.r.r.nf (n := n.que F' rest) (by simp) 3
  obtain ⟨_, i1⟩ := it_cells hP.out.bx.y
  have H5 := Lib.hid (hP.out.dfc (n.r.d - co)).drew
  clear hok hco hdd htop hqw
  obtain ⟨X, hX⟩ : ∃ X, X = wA.heap.size := ⟨_, rfl⟩
  rw [← hX] at H5 hP hT i1
  rw [← hX]
  obtain ⟨D, hD⟩ : ∃ D, D = n.r.d - co := ⟨_, rfl⟩
  rw [← hD] at H5
  replace hw := hw.trans hD.symm
  have HD := Lib.hid hD
  clear hD hX
  obtain ⟨w5, hw5⟩ : ∃ w5, w5 = (wB.setCell ⟨n.b, 3, none⟩ (.int .i64 D)).drew := ⟨_, rfl⟩
  have H6 := Lib.hid (show TkQ w B R m F X n id co s.pick.q s.pick.g ((n.que F' rest).dfc D :: t) x' y' w5 by rw [hw5]; exact H5.out)
  have HW5 := Lib.hid hw5
  clear hw5 H5
  go_region
  rw [← HW5.out]
  clear c2 d3 f3 i1 hw
  obtain ⟨_, u1, _, _⟩ := fl_cells H6.out.bx.x
  have KS := Lib.hid (tk_settle H6.out (by show rest.length ≤ 1000000; have := HS.out.its n.r (by rw [← hln]; simp); rw [hi] at this; simp at this; omega))
  have KS2 : Hid (Calls Try.prog 42 #[.pointer (some ⟨R, 0, none⟩), .int .i64 n.r.f] w5 fun e W' => e = .returned (.tuple #[]) ∧ Hid (∃ x'' y'', TkQ w B R m F X n id co s.pick.q (if rest = [] then false else s.pick.g) (if rest = [] then t else (n.que F' rest).dfc D :: t) x'' y'' W')) := KS
  clear KS
  go_wp2_with (go_at_call 42; (with_reducible refine KS2.out.mono ?_); rintro e wD ⟨rfl, hE⟩)
  obtain ⟨x2, y2, hE⟩ := hE.out
  obtain ⟨v0, v1, v2, v3⟩ := fl_cells hE.bx.x
  rw [ht] at v0
  obtain ⟨i0, i1⟩ := it_cells hE.bx.y
  obtain ⟨a0, a1, a2, a3, a4, a5, f0, f1, f2, f3, f4, f5⟩ := res_cells hE.bx.c hE.bx.d
  have hx2 := hE.x2
  obtain ⟨C, hC⟩ : ∃ C, C = w.heap.size := ⟨_, rfl⟩
  rw [← hC] at a0 a1 a2 a3 a4 a5 f0 f1 f2 f3 f4 f5 hx2 ⊢
  have q1 : X ≠ C := by omega
  have q2 : X ≠ C + 1 := by omega
  have q3 : X + 1 ≠ C := by omega
  have q4 : X + 1 ≠ C + 1 := by omega
  have HC := Lib.hid hC
  have HE := Lib.hid hE
  clear hx2 hC hE u1
  obtain ⟨e1, e2, e3, e4⟩ := Fl.take_shape HG.out.nd hln.symm hi
  have hfin := TkQ.out (s := s) (W' := ((((((wD.setCell ⟨C, 0, none⟩ (.iface 69 (.pointer (some ⟨n.q, 0, none⟩)))).setCell ⟨C, 1, none⟩ (.int .i64 n.r.f)).setCell ⟨C, 2, none⟩ (.int .i64 n.r.w)).setCell ⟨C, 3, none⟩ (.int .i64 n.r.d)).setCell ⟨C + 1, 0, none⟩ (.int .i64 id)).setCell ⟨C + 1, 1, none⟩ (.int .i64 co)).drew) HE.out (by
    rw [← HC.out]
    exact ((((((Chg.refl (fun k => k = C ∨ k = C + 1) wD).setCell (p := ⟨C, 0, none⟩) (Or.inl (Or.inl rfl)) _).setCell (p := ⟨C, 1, none⟩) (Or.inl (Or.inl rfl)) _).setCell (p := ⟨C, 2, none⟩) (Or.inl (Or.inl rfl)) _).setCell (p := ⟨C, 3, none⟩) (Or.inl (Or.inl rfl)) _).setCell (p := ⟨C + 1, 0, none⟩) (Or.inl (Or.inr rfl)) _).setCell (p := ⟨C + 1, 1, none⟩) (Or.inl (Or.inr rfl)) _ |>.drew) e1 e3 (by
    rw [e2]
    by_cases hr : rest = []
    · rw [if_pos hr, if_pos hr]
    · rw [if_neg hr, if_neg hr, HD.out]; rfl) _ ⟨n.r.f, id, co, 69, n.q, n.r.w, n.r.d, e4, rfl⟩
  have HF := Lib.hid hfin
  clear hfin e1 e2 e3 e4
  go_region
  go_wp2
  refine bodyPost_ret (v := .tuple #[.agg #[.iface 69 (.pointer (some ⟨n.q, 0, none⟩)), .int .i64 n.r.f, .int .i64 n.r.w, .int .i64 n.r.d], .agg #[.int .i64 id, .int .i64 co], .bool true]) ?_ rfl ?_
  · rw [results_cct rfl]; go_simp; (try rfl)
  · exact HF.out
theorem robTakeC (B R m : Nat) (s : Fl.St) (ns : List Nd) (x y : Nat → Nat) (F : Nat → Prop) (w : World) (h : RIn w B R m s.q s.g ns x y) (hl : ns.map (·.r) = s.l) (hF : ∀ k, footG R m ns k ↔ F k) (hG : Fl.Good s) (hL : Fl.Lim 64 s) (hS : Fl.Small 90000 s) (hBw : B ≤ w.heap.size) :
    Calls Try.prog 39 #[.pointer (some ⟨R, 0, none⟩)] w (RetTk B R m F s w) := by
  by_cases hn : s.l = []
  · exact takeNone B R m s ns x y F w h hl hF hG hL hS hn
  · exact takeSome B R m s ns x y F w h hl hF hG hL hS hn hBw
end Go.Proofs.Ytgeoebodlcbebaa

namespace Go.Proofs.Ytgeoebodlcbebaa
open Go.RowKit
open Rb (Nd)
set_option linter.unusedVariables false

/-- an empty ring of new blocks -/
structure RetNewR (q : Int) (w : World) (e : Ending) (w' : World) : Prop where
  s : ∃ R m x y, e = .returned (.pointer (some ⟨R, 0, none⟩)) ∧ RIn w' w.heap.size R m q false [] x y
  b : Below w.heap.size w w'
set_option maxRecDepth 100000 in
set_option maxHeartbeats 1000000 in
theorem robNewC (q : Int) (w : World) (h1 : 1 ≤ q) (h2 : q ≤ 64) : Calls Try.prog 25 #[.int .i64 q] w (RetNewR q w) := by
  have hfin : RetNewR q w (.returned (.pointer (some ⟨w.heap.size + 1, 0, none⟩))) ((w.alloc (.map #[] 0)).alloc (robO q w.heap.size (.pointer none) false)) := by
    have hz : (w.alloc (.map #[] 0)).heap.size = w.heap.size + 1 := by simp
    refine ⟨⟨w.heap.size + 1, w.heap.size, fun _ => 0, fun _ => 0, rfl, ⟨⟨?_, ?_, fun n hn => by simp at hn, by simp, by simp, fun n hn => by simp at hn⟩, ⟨fun n hn => by simp at hn, fun n hn => by simp at hn, fun n hn => by simp at hn, fun n hn => by simp at hn⟩, trivial, fun k hk => ?_⟩⟩, ((Below.refl _ _).alloc (Nat.le_refl _) _).alloc (by simp) _⟩
    · exact heap_alloc2_new w _ _
    · exact (MapL.made w).keep (Lib.alloc_old _ _ _ (by simp))
    · rcases hk with (e | e | e) | ⟨n, hn, _⟩
      · omega
      · omega
      · simp at e
      · simp at hn
  have H := Lib.hid hfin
  have hmm : (Instr.makeMap 95 none).run Try.prog w = .ok (.map (some w.heap.size)) (w.alloc (.map #[] 0)) := rfl
  have t1 : decide (q < 1) = false := decide_eq_false (by omega)
  have t2 : decide (q > 64) = false := decide_eq_false (by omega)
  clear hfin h1 h2
  go_enter Try.func25, Try.ntmps25
  go_wp2
  go_ret
  exact H.out
theorem robNewNil (q : Int) (w : World) (h : ¬ (1 ≤ q ∧ q ≤ 64)) : Calls Try.prog 25 #[.int .i64 q] w (Same (.pointer none) w) := by
  by_cases h1 : q < 1
  · have t1 : decide (q < 1) = true := decide_eq_true h1
    clear h h1
    go_enter Try.func25, Try.ntmps25
    go_wp2
    go_ret
    exact ⟨rfl, rfl⟩
  · have t1 : decide (q < 1) = false := decide_eq_false h1
    have t2 : decide (q > 64) = true := decide_eq_true (by omega)
    clear h h1
    go_enter Try.func25, Try.ntmps25
    go_wp2
    go_ret
    exact ⟨rfl, rfl⟩
/-- how a flow lies in a row -/
def eltW : Elt Try.prog Nd where
  st := 87
  e := 75
  z := .agg #[.nilIface, .int .i64 0, .int .i64 0, .int .i64 0]
  size := 4
  bytes := 40
  pv := fun n => [n.src, .int .i64 n.r.f, .int .i64 n.r.w, .int .i64 n.r.d]
  ht := Try.underlying87
  info := by kernel_rfl
  hz := rfl
  pos := by decide
  le := by decide
  len := fun _ => rfl
  one := fun s u hu => by simp at hu; rcases hu with rfl | rfl | rfl | rfl <;> rfl
/-- it returns a row of one's own of these links -/
structure RetFl (ns : List Nd) (w : World) (e : Ending) (w' : World) : Prop where
  r : ∃ v, e = .returned v ∧ eltW.Row w' w.heap.size v ns
  b : Below w.heap.size w w'
set_option maxRecDepth 100000 in
set_option maxHeartbeats 4000000 in
theorem flowsC (B R m : Nat) (q : Int) (g : Bool) (ns : List Nd) (x y : Nat → Nat) (w : World) (h : RIn w B R m q g ns x y) (hl : ns.length ≤ 1000000) :
    Calls Try.prog 44 #[.pointer (some ⟨R, 0, none⟩)] w (RetFl ns w) := by
  obtain ⟨_, c1, c2, _⟩ := h.r.cs
  have HM := Lib.hid h.r.map
  have HN : Hid ((((ns.map Nd.key).length : Nat) : Int) = ((ns.length : Nat) : Int)) := Lib.hid (by simp)
  have hrow0 : eltW.Row w w.heap.size (.slice none 0 0) [] := Elt.Row.nil w _
  have HROW := Lib.hid hrow0
  have HR := Lib.hid h
  obtain ⟨V, hV⟩ : ∃ V, V = visOf ns := ⟨_, rfl⟩
  rw [← hV] at c2
  have HV := Lib.hid hV
  clear h hrow0 hV
  go_enter Try.func44, Try.ntmps44
  go_wp2_with (at_len; refine wpLenR _ rfl _ rfl m _ rfl HM.out ?_; rw [HN.out])
  go_loopw [3, 4, 14] (fun u z i wr => ∃ a b : List Nd, ns = a ++ b ∧ i = .int .i64 ((a.length : Nat) : Int) ∧ (∀ n t, b = n :: t → z = .pointer (some ⟨n.b, 0, none⟩)) ∧ Hid (Below w.heap.size w wr ∧ eltW.Row wr w.heap.size u a)) (fun _ _ i _ => ns.length - (intOf i).toNat)
  case atStart => exact ⟨[], ns, rfl, rfl, fun n t e => by rw [HV.out, e]; rfl, Lib.hid ⟨Below.refl _ _, HROW.out⟩⟩
  case round =>
    obtain ⟨a, b, hab, rfl, hz, hst⟩ := hrel
    clear HROW c1 c2 HM HN
    obtain ⟨hb, hrow⟩ := hst.out
    obtain ⟨ad, cp, rfl⟩ := hrow.slice
    cases b with
    | nil =>
      have hla : ns.length = a.length := by rw [hab, List.append_nil]
      have HF : Hid (RetFl ns w (.returned (.slice ad a.length cp)) wr) := Lib.hid ⟨⟨_, rfl, by rw [hab, List.append_nil]; exact hrow⟩, hb⟩
      rw [hla]
      clear hst hb hrow hz
      go_wp2
      go_ret
      exact HF.out
    | cons n b =>
      obtain rfl := hz n b rfl
      have hmem : n ∈ ns := by rw [hab]; simp
      have hlt : a.length < ns.length := by rw [hab]; simp
      have hRr := HR.out.below (hb.mono (Nat.le_refl _))
      obtain ⟨d0, d1, d2, d3, _, _⟩ := hRr.r.nd6 hmem
      have hnx : ∀ n2 t, b = n2 :: t → x n.b = n2.b := fun n2 t e => by
        have := HR.out.ring
        rw [hab, e] at this
        rw [List.map_append, List.map_cons, List.map_cons] at this
        exact this.next
      have HNX := Lib.hid hnx
      have HB := Lib.hid hb
      have HBR := Lib.hid hrow
      have hB := hb.size
      have HAB := Lib.hid hab
      have hla : a.length ≤ 1000000 := by omega
      have HAFT := Lib.hid (fun W (hW : Below w.heap.size w W) => (show W.cell? ⟨n.b, 5, none⟩ = some (.pointer (some ⟨x n.b, 0, none⟩)) from ((HR.out.below hW).r.nd6 hmem).2.2.2.2.2))
      generalize x n.b = xn at *
      unfold Nd.src at d0
      have e1 : eltW.pv n = [.iface n.t (.pointer (some ⟨n.q, 0, none⟩)), .int .i64 n.r.f, .int .i64 n.r.w, .int .i64 n.r.d] := rfl
      have HE1 := Lib.hid e1
      generalize n.t = T at *
      generalize n.q = Q at *
      generalize n.r.f = f at *
      generalize n.r.w = wt at *
      generalize n.r.d = df at *
      clear hst hb hrow hmem hnx hRr hab e1 HV
      go_wp2_with (at_builtin; (refine eltW.wpApp wr rfl _ _ rfl w.heap.size (.slice ad a.length cp) a rfl HBR.out #[.iface T (.pointer (some ⟨Q, 0, none⟩)), .int .i64 f, .int .i64 wt, .int .i64 df] _ rfl n HE1.out.symm (by omega) hB ?_); intro v' w2 hown hb2 hkeep hlies; have e5 := HAFT.out w2 (HB.out.trans hb2))
      have hrow2 := Lib.hid (show Below w.heap.size w w2 ∧ eltW.Row w2 w.heap.size v' (a ++ [n]) from ⟨HB.out.trans hb2, hown⟩)
      go_roundw
      case rel => exact ⟨a ++ [n], b, by rw [HAB.out]; simp, by rw [List.length_append]; go_num, fun n2 t e => by rw [HNX.out n2 t e], hrow2⟩
      case measure => simp [intOf]; omega
end Go.Proofs.Ytgeoebodlcbebaa
