/-
  A ring of flows: Pick.
-/
import Derived.Test.YtgeoebodlcbebaaRobE
import Derived.Test.YtgeoebodlcbebaaFlowSeq
namespace Go.Proofs.Ytgeoebodlcbebaa
open Go.RowKit
open Rb (Nd)
set_option linter.unusedVariables false

theorem results_cct {fn : Func} {p p2 u : Tmp} {ty ty2 : TypeId} (h : fn.results = #[.cell p ty, .cell p2 ty2, .tmp u]) (tmps : Array Value) (P : Program) (w : World) :
    (results fn tmps).run P w =
      ((asAddr (tmps.getD p undef)).run P w).andThen fun a w₁ => ((loadVar ty a).run P w₁).andThen fun v w₂ => ((asAddr (tmps.getD p2 undef)).run P w₂).andThen fun a2 w₃ => ((loadVar ty2 a2).run P w₃).andThen fun v2 w₄ => .ok (.tuple #[v, v2, tmps.getD u undef]) w₄ := by
  simp only [results, h]
  simp [Sem.run_bind, Result.andThen]
theorem results_tct {fn : Func} {p p2 u : Tmp} {ty2 : TypeId} (h : fn.results = #[.tmp p, .cell p2 ty2, .tmp u]) (tmps : Array Value) (P : Program) (w : World) :
    (results fn tmps).run P w =
      ((asAddr (tmps.getD p2 undef)).run P w).andThen fun a2 w₃ => ((loadVar ty2 a2).run P w₃).andThen fun v2 w₄ => .ok (.tuple #[tmps.getD p undef, v2, tmps.getD u undef]) w₄ := by
  simp only [results, h]
  simp [Sem.run_bind, Result.andThen]
theorem run_mHead (q : Nat) (W : World) : (method (Try.prog.types.size + Made.depth) 69 (.pointer (some ⟨q, 0, none⟩)) "Head").run Try.prog W = .ok (77, .pointer (some ⟨q, 0, none⟩)) W := by kernel_rfl
theorem run_mPop (q : Nat) (W : World) : (method (Try.prog.types.size + Made.depth) 69 (.pointer (some ⟨q, 0, none⟩)) "Pop").run Try.prog W = .ok (78, .pointer (some ⟨q, 0, none⟩)) W := by kernel_rfl
theorem run_mLen (q : Nat) (W : World) : (method (Try.prog.types.size + Made.depth) 69 (.pointer (some ⟨q, 0, none⟩)) "Len").run Try.prog W = .ok (33, .pointer (some ⟨q, 0, none⟩)) W := by kernel_rfl
/-- what Pick tells of the links -/
def pickV : List Nd → Value
  | [] => .tuple #[flZ, .agg #[.int .i64 0, .int .i64 0], .bool false]
  | n :: _ => .tuple #[flV n, .agg #[.int .i64 (n.r.its.head?.getD (0, 0)).1, .int .i64 (n.r.its.head?.getD (0, 0)).2], .bool true]
structure RetPk (B R m : Nat) (F : Nat → Prop) (s : Fl.St) (w : World) (e : Ending) (w' : World) : Prop where
  s : ∃ ns x y, e = .returned (pickV ns) ∧ RIn w' B R m s.pick.q s.pick.g ns x y ∧ ns.map (·.r) = s.pick.l ∧ ∀ k, footG R m ns k ↔ F k
  c : Chg F w w'
abbrev preP (w : World) : World := ((w.alloc flO0).alloc zeroI)
theorem pk_head {w0 : World} {F : Nat → Prop} {B R m : Nat} {s s' : Fl.St} {n : Nd} {t : List Nd} {x y : Nat → Nat} (W : World) (h : PkQ w0 F B R m s s' (n :: t) x y W) (hS : Fl.Small 90000 s') (e0 : Ff.E) (r0 : List Ff.E) (he : n.r.its = e0 :: r0) :
    Calls Try.prog 77 #[.pointer (some ⟨n.q, 0, none⟩)] W fun e W' => e = .returned (.tuple #[.agg #[.int .i64 e0.1, .int .i64 e0.2], .bool true]) ∧ Hid (PkQ w0 F B R m s s' (n :: t) x y W') := by
  have hn : n ∈ n :: t := by simp
  have hr : n.r ∈ s'.l := by rw [← h.l]; simp
  refine (headC B n.q n.r.its n.F W (h.r.qs.q n hn) (by have := hS.its n.r hr; omega)).mono fun e W' hr => ⟨hr.e.trans ?_, Lib.hid (h.below hr.b)⟩
  rw [he]; rfl
theorem it_cells {W : World} {X : Nat} {a b : Int} (h : W.heap[X]? = some (itO a b)) : W.cell? ⟨X, 0, none⟩ = some (.int .i64 a) ∧ W.cell? ⟨X, 1, none⟩ = some (.int .i64 b) :=
  ⟨by rw [cell_of_row W _ _ _ _ _ h]; rfl, by rw [cell_of_row W _ _ _ _ _ h]; rfl⟩
theorem qw_bound {q w : Int} (h0 : 1 ≤ q) (h1 : q ≤ 64) (h2 : 1 ≤ w) (h3 : w ≤ 16) : 0 ≤ q * w ∧ q * w ≤ 1024 := by
  have := Int.mul_le_mul h1 h3 (by omega) (by decide)
  exact ⟨Int.mul_nonneg (by omega) (by omega), by omega⟩
/-- Pick's end -/
theorem PkQ.done {w : World} {F : Nat → Prop} {B R m : Nat} {s s' : Fl.St} {ns : List Nd} {x y : Nat → Nat} {W W' : World} (h : PkQ (preP w) F B R m s s' ns x y W) (hF : ∀ k, F k → k < w.heap.size) (hp : s'.pick = s') (hc : Chg (fun k => w.heap.size ≤ k) W W') : RetPk B R m F s w (.returned (pickV ns)) W' := by
  have e : s.pick = s' := h.p.symm.trans hp
  have hb0 : Below w.heap.size w (preP w) := ((Below.refl _ _).alloc (Nat.le_refl _) _).alloc (by simp) _
  refine ⟨⟨ns, x, y, rfl, ?_, by rw [e]; exact h.l, h.f⟩, ?_⟩
  · rw [e]
    exact h.r.keep (fun k hk => hc.block k (h.r.lt k hk).2 (fun hle => by have := hF k ((h.f k).1 hk); omega))
  · exact (((Chg.of_below (F := F) hb0).trans h.c (fun k hk => Or.inl hk)).trans hc (fun k hk => Or.inr hk))
theorem res_cells {W : World} {C D : Nat} (h0 : W.heap[C]? = some flO0) (h1 : W.heap[D]? = some zeroI) : W.cell? ⟨C, 0, none⟩ = some .nilIface ∧ W.cell? ⟨C, 1, none⟩ = some (.int .i64 0) ∧ W.cell? ⟨C, 2, none⟩ = some (.int .i64 0) ∧ W.cell? ⟨C, 3, none⟩ = some (.int .i64 0) ∧ W.cell? ⟨D, 0, none⟩ = some (.int .i64 0) ∧ W.cell? ⟨D, 1, none⟩ = some (.int .i64 0) ∧ W.frozen? ⟨C, 0, none⟩ = false ∧ W.frozen? ⟨C, 1, none⟩ = false ∧ W.frozen? ⟨C, 2, none⟩ = false ∧ W.frozen? ⟨C, 3, none⟩ = false ∧ W.frozen? ⟨D, 0, none⟩ = false ∧ W.frozen? ⟨D, 1, none⟩ = false :=
  ⟨by rw [cell_of_row W _ _ _ _ _ h0]; rfl, by rw [cell_of_row W _ _ _ _ _ h0]; rfl, by rw [cell_of_row W _ _ _ _ _ h0]; rfl, by rw [cell_of_row W _ _ _ _ _ h0]; rfl, by rw [cell_of_row W _ _ _ _ _ h1]; rfl, by rw [cell_of_row W _ _ _ _ _ h1]; rfl, frozen_of W _ _ _ _ h0, frozen_of W _ _ _ _ h0, frozen_of W _ _ _ _ h0, frozen_of W _ _ _ _ h0, frozen_of W _ _ _ _ h1, frozen_of W _ _ _ _ h1⟩
set_option maxRecDepth 100000 in
set_option maxHeartbeats 8000000 in
theorem pickC (B R m : Nat) (s : Fl.St) (ns : List Nd) (x y : Nat → Nat) (F : Nat → Prop) (w : World) (h : RIn w B R m s.q s.g ns x y) (hl : ns.map (·.r) = s.l) (hF : ∀ k, footG R m ns k ↔ F k) (hG : Fl.Good s) (hL : Fl.Lim 64 s) (hS : Fl.Small 90000 s) :
    Calls Try.prog 40 #[.pointer (some ⟨R, 0, none⟩)] w (RetPk B R m F s w) := by
  have hb0 : Below w.heap.size w (preP w) := ((Below.refl _ _).alloc (Nat.le_refl _) _).alloc (by simp) _
  have hP0 : PkQ (preP w) F B R m s s ns x y (preP w) := ⟨h.below hb0, hl, hF, Chg.refl _ _, hG, hL, rfl⟩
  have hFl : ∀ k, F k → k < w.heap.size := fun k hk => (h.lt k ((hF k).2 hk)).2
  have hX0 : ∀ W ns' s' x' y', PkQ (preP w) F B R m s s' ns' x' y' W → W.heap[w.heap.size]? = some flO0 ∧ W.heap[w.heap.size + 1]? = some zeroI := fun W ns' s' x' y' hW => by
    refine ⟨hW.c.keep (heap_alloc2_old w flO0 zeroI) (fun hf => by have := hFl _ hf; omega), hW.c.keep (heap_alloc2_new w flO0 zeroI) (fun hf => by have := hFl _ hf; omega)⟩
  have HP := Lib.hid hP0
  have HX := Lib.hid hX0
  have HFl := Lib.hid hFl
  clear h hl hF hG hL hb0 hP0 hX0 hFl
  go_enter Try.func40, Try.ntmps40
  go_wp2
  obtain ⟨C, hC⟩ : ∃ C, C = w.heap.size := ⟨_, rfl⟩
  rw [← hC] at HX ⊢
  have HC := Lib.hid hC
  clear hC
  go_loopg [] (Fl.meas s) (fun k wr => ∃ (s' : Fl.St) (ns' : List Nd) (x' y' : Nat → Nat), Fl.meas s' ≤ k ∧ Hid (PkQ (preP w) F B R m s s' ns' x' y' wr ∧ Fl.Small 90000 s'))
  case atStart => exact ⟨s, ns, x, y, Nat.le_refl _, Lib.hid ⟨HP.out, hS⟩⟩
  case round =>
    obtain ⟨s', ns', x', y', hk, hst⟩ := hrel
    clear HP
    cases ns' with
    | nil =>
      obtain ⟨_, _, c2, _⟩ := hst.out.1.r.r.cs
      replace c2 : wr.cell? ⟨R, 2, none⟩ = some (.pointer none) := c2
      obtain ⟨hX0, hX1⟩ := HX.out _ _ _ _ _ hst.out.1
      obtain ⟨a0, a1, a2, a3, a4, a5, f0, f1, f2, f3, f4, f5⟩ := res_cells hX0 hX1
      clear hX0 hX1
      go_wp2
      have hfin := PkQ.done (W' := (((((wr.setCell ⟨C, 0, none⟩ .nilIface).setCell ⟨C, 1, none⟩ (.int .i64 0)).setCell ⟨C, 2, none⟩ (.int .i64 0)).setCell ⟨C, 3, none⟩ (.int .i64 0)).setCell ⟨C + 1, 0, none⟩ (.int .i64 0)).setCell ⟨C + 1, 1, none⟩ (.int .i64 0)) hst.out.1 HFl.out (Fl.pick_nil (by rw [← hst.out.1.l]; rfl)) (by
        have hc := HC.out
        exact ((((((Chg.refl (fun k => w.heap.size ≤ k) wr).setCell (p := ⟨C, 0, none⟩) (Or.inl (by show w.heap.size ≤ C; omega)) _).setCell (p := ⟨C, 1, none⟩) (Or.inl (by show w.heap.size ≤ C; omega)) _).setCell (p := ⟨C, 2, none⟩) (Or.inl (by show w.heap.size ≤ C; omega)) _).setCell (p := ⟨C, 3, none⟩) (Or.inl (by show w.heap.size ≤ C; omega)) _).setCell (p := ⟨C + 1, 0, none⟩) (Or.inl (by show w.heap.size ≤ C + 1; omega)) _).setCell (p := ⟨C + 1, 1, none⟩) (Or.inl (by show w.heap.size ≤ C + 1; omega)) _)
      have HE := Lib.hid hfin
      clear hfin
      refine bodyPost_ret (v := pickV []) ?_ rfl ?_
      · rw [results_cct rfl]; unfold pickV; go_simp; (try rfl)
      · exact HE.out
    | cons n t =>
      have hn : n ∈ n :: t := by simp
      have hln : s'.l = n.r :: t.map (·.r) := by rw [← hst.out.1.l]; rfl
      have hok := hst.out.1.good.ok n.r (by rw [hln]; simp)
      obtain ⟨e0, r0, he0⟩ : ∃ e0 r0, n.r.its = e0 :: r0 := by
        cases hi : n.r.its with
        | nil => exact absurd hi hok.ne
        | cons e0 r0 => exact ⟨e0, r0, rfl⟩
      obtain ⟨_, c1, c2, c3⟩ := hst.out.1.r.r.cs
      obtain ⟨d0, d1, d2, d3, d4, d5⟩ := hst.out.1.r.r.nd6 hn
      replace c2 : wr.cell? ⟨R, 2, none⟩ = some (.pointer (some ⟨n.b, 0, none⟩)) := c2
      have hsrc := hst.out.1.r.qs.src n hn
      unfold Nd.src at d0
      rw [hsrc] at d0
      have hln2 := Lib.hid hln
      have hsm := hst.out.2
      obtain ⟨id, co⟩ := e0
      cases hg : s'.g with
      | true =>
        rw [hg] at c3
        have hm1 := run_mHead n.q
        simp only [Try.types_size, Made.depth, Nat.reduceAdd] at hm1
        have hgv : Fl.St.give s' = s' := Fl.give_yes hg
        have hln1 : (s').l = (n).r :: t.map (·.r) := hln
        have KH := Lib.hid (pk_head _ hst.out.1 hst.out.2 (id, co) r0 he0)
        go_wp2_with (go_at_call 77; (with_reducible refine KH.out.mono ?_); rintro e wA ⟨rfl, hA⟩; have hB := Lib.hid (hA.out.below ((Below.refl _ _).alloc (Nat.le_refl _) (itO id co))); obtain ⟨z0, z1, z2, z3, _, _⟩ := hB.out.r.r.nd6 (n := n) (by simp))
        go_quiet (fail)
        obtain ⟨wC, hwC⟩ : ∃ wC, wC = (wA.alloc (itO id co)).drewN nq := ⟨_, rfl⟩
        have hQ : PkQ (preP w) F B R m s (s') (n :: t) x' y' wC := hB.out.below (by rw [hwC]; exact below_drewN (Below.refl _ _) nq)
        have hI : wC.heap[wA.heap.size]? = some (itO id co) := by rw [hwC]; exact heap_alloc_new _ _
        rw [← hwC]
        obtain ⟨i0, i1⟩ := it_cells hI
        obtain ⟨v0, v1, v2, v3, _, _⟩ := hQ.r.r.nd6 (n := n) (by simp)
        replace v0 : wC.cell? ⟨n.b, 0, none⟩ = some (.iface 69 (.pointer (some ⟨n.q, 0, none⟩))) := by rw [← hsrc]; exact v0
        replace v3 : wC.cell? ⟨n.b, 3, none⟩ = some (.int .i64 (n).r.d) := v3
        obtain ⟨hX0, hX1⟩ := HX.out _ _ _ _ _ hQ
        obtain ⟨a0, a1, a2, a3, a4, a5, f0, f1, f2, f3, f4, f5⟩ := res_cells hX0 hX1
        have hCA : C + 2 ≤ wA.heap.size := by
          have h1 := lt_block (HX.out _ _ _ _ _ hA.out).2
          omega
        have hCb : n.b < C := by
          have h1 := HFl.out n.b ((hQ.f n.b).1 (Or.inl (Or.inr (Or.inr (List.mem_map.2 ⟨n, by simp, rfl⟩)))))
          have h2 := HC.out
          omega
        generalize wA.heap.size = I at *
        have q1 : I ≠ C := by omega
        have q2 : I ≠ C + 1 := by omega
        have q3 : n.b ≠ C := by omega
        have q4 : n.b ≠ C + 1 := by omega
        have HQ := Lib.hid hQ
        clear hCA hCb hQ hI hwC z0 z1 z2 z3 hB hA hX0 hX1 d0 d1 d2 d3 d4 d5 c1 c2 c3 hm1 KH
        have hfits : (n).r.fits = decide (co ≤ (n).r.d) := by
          show (match n.r.its with | [] => true | x :: _ => decide (x.2 ≤ (n).r.d)) = _
          rw [he0]
        have HFI := Lib.hid hfits
        clear hfits
        have HGV := Lib.hid hgv
        have HLN1 := Lib.hid hln1
        clear hgv hln1
        have hd : ∃ d, d = (n).r.d := ⟨_, rfl⟩
        obtain ⟨d, hd⟩ := hd
        rw [← hd] at v3 ⊢
        by_cases hle : co ≤ d
        · rw [decide_eq_true hle]
          have hrd : Fl.St.ready s' = true := by
            unfold Fl.St.ready
            rw [HLN1.out]
            show ((s').g && (n).r.fits) = true
            rw [HFI.out, hg, ← hd, decide_eq_true hle]; rfl
          have hpk : Fl.St.pick s' = s' := by rw [Fl.pick_done (by rw [HGV.out]; exact hrd), HGV.out]
          have hfin := PkQ.done (W' := ((((((wC.setCell ⟨C, 0, none⟩ (.iface 69 (.pointer (some ⟨n.q, 0, none⟩)))).setCell ⟨C, 1, none⟩ (.int .i64 n.r.f)).setCell ⟨C, 2, none⟩ (.int .i64 n.r.w)).setCell ⟨C, 3, none⟩ (.int .i64 d)).setCell ⟨C + 1, 0, none⟩ (.int .i64 id)).setCell ⟨C + 1, 1, none⟩ (.int .i64 co)).drew) HQ.out HFl.out hpk (by
            have hc := HC.out
            exact (((((((Chg.refl (fun k => w.heap.size ≤ k) wC).setCell (p := ⟨C, 0, none⟩) (Or.inl (by show w.heap.size ≤ C; omega)) _).setCell (p := ⟨C, 1, none⟩) (Or.inl (by show w.heap.size ≤ C; omega)) _).setCell (p := ⟨C, 2, none⟩) (Or.inl (by show w.heap.size ≤ C; omega)) _).setCell (p := ⟨C, 3, none⟩) (Or.inl (by show w.heap.size ≤ C; omega)) _).setCell (p := ⟨C + 1, 0, none⟩) (Or.inl (by show w.heap.size ≤ C + 1; omega)) _).setCell (p := ⟨C + 1, 1, none⟩) (Or.inl (by show w.heap.size ≤ C + 1; omega)) _).drew)
          have hpv : pickV (n :: t) = .tuple #[.agg #[.iface 69 (.pointer (some ⟨n.q, 0, none⟩)), .int .i64 n.r.f, .int .i64 n.r.w, .int .i64 d], .agg #[.int .i64 id, .int .i64 co], .bool true] := by
            show (.tuple #[.agg #[.iface n.t (.pointer (some ⟨n.q, 0, none⟩)), .int .i64 n.r.f, .int .i64 n.r.w, .int .i64 (n).r.d], .agg #[.int .i64 (n.r.its.head?.getD (0, 0)).1, .int .i64 (n.r.its.head?.getD (0, 0)).2], .bool true] : Value) = _
            rw [hsrc, he0, ← hd]; rfl
          rw [hpv] at hfin
          have HE := Lib.hid hfin
          clear hfin hpv hpk hrd hd hle
          go_wp2
          go_region
          go_wp2
          refine bodyPost_ret (v := .tuple #[.agg #[.iface 69 (.pointer (some ⟨n.q, 0, none⟩)), .int .i64 n.r.f, .int .i64 n.r.w, .int .i64 d], .agg #[.int .i64 id, .int .i64 co], .bool true]) ?_ rfl ?_
          · rw [results_cct rfl]; go_simp; (try rfl)
          · exact HE.out
        · rw [decide_eq_false hle]
          have hrd : Fl.St.ready s' = false := by
            unfold Fl.St.ready
            rw [HLN1.out]
            show ((s').g && (n).r.fits) = false
            rw [HFI.out, ← hd, decide_eq_false hle, Bool.and_false]
          have hms := Fl.meas_turn hst.out.1.good hst.out.1.lim (by rw [hln]; simp) (by rw [HGV.out]; exact hrd)
          have HRD := Lib.hid hrd
          have HMS := Lib.hid hms
          have KV := Lib.hid (visitC B R m _ _ (n) t x' y' wC HQ.out.r)
          clear hrd hms hd hle v0 v1 v2 v3 i0 i1
          go_wp2_with (go_at_call 58; (with_reducible refine KV.out.mono ?_); rintro e wD ⟨rfl, hD, hDc⟩)
          have hT := Lib.hid (PkQ.turn HQ.out hg HRD.out ⟨rfl, hD, hDc⟩)
          go_roundg (Fl.meas (Fl.St.turn s'))
          case rel => exact ⟨_, _, _, _, Nat.le_refl _, Lib.hid ⟨hT.out, hst.out.2.turn⟩⟩
          case measure => have := HMS.out; rw [HGV.out] at this; omega
      | false =>
        rw [hg] at c3
        have hw := hok.w
        have hqg := hst.out.1.good.q
        have hqw := qw_bound hqg.1 hqg.2 hw.1 hw.2
        have hdd : 0 ≤ n.r.d ∧ n.r.d ≤ 64 := ⟨hok.d, by have := hst.out.1.lim.top n.r (by rw [hln]; rfl); rw [hg] at this; simpa using this⟩
        have hw1 : IntKind.i64.wrap (s'.q * n.r.w) = s'.q * n.r.w := by rw [IntKind.wrap_i64]; omega
        have hw2 : IntKind.i64.wrap (n.r.d + s'.q * n.r.w) = n.r.d + s'.q * n.r.w := by rw [IntKind.wrap_i64]; omega
        have f3 := hst.out.1.r.r.nf hn 3
        obtain ⟨w5, hw5⟩ : ∃ w5, w5 = (wr.setCell ⟨n.b, 3, none⟩ (.int .i64 (n.r.d + s'.q * n.r.w))).drew := ⟨_, rfl⟩
        have hP1 := hst.out.1.give hg
        rw [← hw5] at hP1
        have hR5 : RAt w5 R m s'.q (visOf (n :: t)) false (n.dfc (n.r.d + s'.q * n.r.w) :: t) (fun k => pB (x' k)) (fun k => pB (y' k)) := by
          have := (RAt.dfc (a := []) (b := t) hst.out.1.r.r (n.r.d + s'.q * n.r.w)).below (Below.refl _ _).drew
          rw [hw5, ← hg]
          exact this
        obtain ⟨_, _, _, b3⟩ := hR5.cs
        have b4 := hR5.fr 3
        have HW5 := Lib.hid hw5
        have HP1 := Lib.hid hP1
        have hmg : (Fl.St.give s').g = true := Fl.give_g (by rw [hln]; simp)
        have hgl := Fl.give_no hln hg
        have HGL := Lib.hid hgl
        clear hgl hP1 hR5 hw5 hqw hdd
        obtain ⟨D, hD⟩ : ∃ D, D = n.r.d + s'.q * n.r.w := ⟨_, rfl⟩
        rw [← hD] at HW5 HP1
        replace hw2 : IntKind.i64.wrap (n.r.d + s'.q * n.r.w) = D := hw2.trans hD.symm
        have HD := Lib.hid hD
        clear hD
        go_wp2
        go_region
        rw [← HW5.out]
        clear d0 d1 d2 d3 d4 d5 c1 c2 c3
        obtain ⟨x0, x1, x2, x3, _, _⟩ := HP1.out.r.r.nd6 (n := n.dfc D) (by simp)
        replace x0 : (w5.setCell ⟨R, 3, none⟩ (.bool true)).cell? ⟨n.b, 0, none⟩ = some (.iface 69 (.pointer (some ⟨n.q, 0, none⟩))) := by rw [← hsrc]; exact x0
        have hm1 := run_mHead n.q
        simp only [Try.types_size, Made.depth, Nat.reduceAdd] at hm1
        have hgv : Fl.St.give s'.give = s'.give := Fl.give_yes hmg
        have hln1 : (s'.give).l = (n.dfc D).r :: t.map (·.r) := HP1.out.l.symm
        have KH := Lib.hid (show Calls Try.prog 77 #[.pointer (some ⟨n.q, 0, none⟩)] _ _ from pk_head _ HP1.out hst.out.2.give (id, co) r0 he0)
        go_wp2_with (go_at_call 77; (with_reducible refine KH.out.mono ?_); rintro e wA ⟨rfl, hA⟩; have hB := Lib.hid (hA.out.below ((Below.refl _ _).alloc (Nat.le_refl _) (itO id co))); obtain ⟨z0, z1, z2, z3, _, _⟩ := hB.out.r.r.nd6 (n := n.dfc D) (by simp); replace z3 : (wA.alloc (itO id co)).cell? ⟨n.b, 3, none⟩ = some (.int .i64 D) := z3)
        go_quiet (fail)
        obtain ⟨wC, hwC⟩ : ∃ wC, wC = (wA.alloc (itO id co)).drewN nq := ⟨_, rfl⟩
        have hQ : PkQ (preP w) F B R m s (s'.give) (n.dfc D :: t) x' y' wC := hB.out.below (by rw [hwC]; exact below_drewN (Below.refl _ _) nq)
        have hI : wC.heap[wA.heap.size]? = some (itO id co) := by rw [hwC]; exact heap_alloc_new _ _
        rw [← hwC]
        obtain ⟨i0, i1⟩ := it_cells hI
        obtain ⟨v0, v1, v2, v3, _, _⟩ := hQ.r.r.nd6 (n := n.dfc D) (by simp)
        replace v0 : wC.cell? ⟨n.b, 0, none⟩ = some (.iface 69 (.pointer (some ⟨n.q, 0, none⟩))) := by rw [← hsrc]; exact v0
        replace v1 : wC.cell? ⟨n.b, 1, none⟩ = some (.int .i64 n.r.f) := v1
        replace v2 : wC.cell? ⟨n.b, 2, none⟩ = some (.int .i64 n.r.w) := v2
        replace v3 : wC.cell? ⟨n.b, 3, none⟩ = some (.int .i64 (n.dfc D).r.d) := v3
        obtain ⟨hX0, hX1⟩ := HX.out _ _ _ _ _ hQ
        obtain ⟨a0, a1, a2, a3, a4, a5, f0, f1, f2, f3, f4, f5⟩ := res_cells hX0 hX1
        have hCA : C + 2 ≤ wA.heap.size := by
          have h1 := lt_block (HX.out _ _ _ _ _ hA.out).2
          omega
        have hCb : n.b < C := by
          have h1 := HFl.out n.b ((hQ.f n.b).1 (Or.inl (Or.inr (Or.inr (List.mem_map.2 ⟨n.dfc D, by simp, rfl⟩)))))
          have h2 := HC.out
          omega
        generalize wA.heap.size = I at *
        have q1 : I ≠ C := by omega
        have q2 : I ≠ C + 1 := by omega
        have q3 : n.b ≠ C := by omega
        have q4 : n.b ≠ C + 1 := by omega
        have HQ := Lib.hid hQ
        clear hCA hCb hQ hI hwC z0 z1 z2 z3 hB hA hX0 hX1 x0 x1 x2 x3 hm1 KH
        have hfits : (n.dfc D).r.fits = decide (co ≤ (n.dfc D).r.d) := by
          show (match n.r.its with | [] => true | x :: _ => decide (x.2 ≤ (n.dfc D).r.d)) = _
          rw [he0]
        have HFI := Lib.hid hfits
        clear hfits
        have HGV := Lib.hid hgv
        have HLN1 := Lib.hid hln1
        clear hgv hln1
        have hd : D = (n.dfc D).r.d := rfl
        rw [← hd] at v3
        by_cases hle : co ≤ D
        · rw [decide_eq_true hle]
          have hrd : Fl.St.ready s'.give = true := by
            unfold Fl.St.ready
            rw [HLN1.out]
            show ((s'.give).g && (n.dfc D).r.fits) = true
            rw [HFI.out, hmg, ← hd, decide_eq_true hle]; rfl
          have hpk : Fl.St.pick s'.give = s'.give := by rw [Fl.pick_done (by rw [HGV.out]; exact hrd), HGV.out]
          have hfin := PkQ.done (W' := ((((((wC.setCell ⟨C, 0, none⟩ (.iface 69 (.pointer (some ⟨n.q, 0, none⟩)))).setCell ⟨C, 1, none⟩ (.int .i64 n.r.f)).setCell ⟨C, 2, none⟩ (.int .i64 n.r.w)).setCell ⟨C, 3, none⟩ (.int .i64 D)).setCell ⟨C + 1, 0, none⟩ (.int .i64 id)).setCell ⟨C + 1, 1, none⟩ (.int .i64 co)).drew) HQ.out HFl.out hpk (by
            have hc := HC.out
            exact (((((((Chg.refl (fun k => w.heap.size ≤ k) wC).setCell (p := ⟨C, 0, none⟩) (Or.inl (by show w.heap.size ≤ C; omega)) _).setCell (p := ⟨C, 1, none⟩) (Or.inl (by show w.heap.size ≤ C; omega)) _).setCell (p := ⟨C, 2, none⟩) (Or.inl (by show w.heap.size ≤ C; omega)) _).setCell (p := ⟨C, 3, none⟩) (Or.inl (by show w.heap.size ≤ C; omega)) _).setCell (p := ⟨C + 1, 0, none⟩) (Or.inl (by show w.heap.size ≤ C + 1; omega)) _).setCell (p := ⟨C + 1, 1, none⟩) (Or.inl (by show w.heap.size ≤ C + 1; omega)) _).drew)
          have hpv : pickV (n.dfc D :: t) = .tuple #[.agg #[.iface 69 (.pointer (some ⟨n.q, 0, none⟩)), .int .i64 n.r.f, .int .i64 n.r.w, .int .i64 D], .agg #[.int .i64 id, .int .i64 co], .bool true] := by
            show (.tuple #[.agg #[.iface n.t (.pointer (some ⟨n.q, 0, none⟩)), .int .i64 n.r.f, .int .i64 n.r.w, .int .i64 (n.dfc D).r.d], .agg #[.int .i64 (n.r.its.head?.getD (0, 0)).1, .int .i64 (n.r.its.head?.getD (0, 0)).2], .bool true] : Value) = _
            rw [hsrc, he0, ← hd]; rfl
          rw [hpv] at hfin
          have HE := Lib.hid hfin
          clear hfin hpv hpk hrd hd hle
          go_wp2
          go_region
          go_wp2
          refine bodyPost_ret (v := .tuple #[.agg #[.iface 69 (.pointer (some ⟨n.q, 0, none⟩)), .int .i64 n.r.f, .int .i64 n.r.w, .int .i64 D], .agg #[.int .i64 id, .int .i64 co], .bool true]) ?_ rfl ?_
          · rw [results_cct rfl]; go_simp; (try rfl)
          · exact HE.out
        · rw [decide_eq_false hle]
          have hrd : Fl.St.ready s'.give = false := by
            unfold Fl.St.ready
            rw [HLN1.out]
            show ((s'.give).g && (n.dfc D).r.fits) = false
            rw [HFI.out, ← hd, decide_eq_false hle, Bool.and_false]
          have hms := Fl.meas_turn hst.out.1.good hst.out.1.lim (by rw [hln]; simp) (by skip; exact hrd)
          have HRD := Lib.hid hrd
          have HMS := Lib.hid hms
          have KV := Lib.hid (visitC B R m _ _ (n.dfc D) t x' y' wC HQ.out.r)
          clear hrd hms hd hle v0 v1 v2 v3 i0 i1
          go_wp2_with (go_at_call 58; (with_reducible refine KV.out.mono ?_); rintro e wD ⟨rfl, hD, hDc⟩)
          have hT := Lib.hid (PkQ.turn HQ.out hmg HRD.out ⟨rfl, hD, hDc⟩)
          go_roundg (Fl.meas (Fl.St.turn s'.give))
          case rel => exact ⟨_, _, _, _, Nat.le_refl _, Lib.hid ⟨hT.out, hst.out.2.give.turn⟩⟩
          case measure => have := HMS.out; skip; omega
end Go.Proofs.Ytgeoebodlcbebaa
