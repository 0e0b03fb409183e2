/-
  A ring of flows: Take of a ring with flows.
-/
import Derived.Test.YtgeoebodlcbebaaRobJ
namespace Go.Proofs.Ytgeoebodlcbebaa
open Go.RowKit
open Rb (Nd)
set_option linter.unusedVariables false

/-- a ring in the course of Take, behind Pick -/
structure TkQ (w : World) (B R m : Nat) (F : Nat → Prop) (X : Nat) (n0 : Nd) (id co : Int) (q : Int) (g : Bool) (ns : List Nd) (x y : Nat → Nat) (W : World) : Prop where
  r : RIn W B R m q g ns x y
  bx : Box4 w.heap.size X n0 id co W
  f : ∀ k, footG R m ns k → F k ∨ X + 2 ≤ k
  c : Chg F w W
  fl : ∀ k, F k → k < w.heap.size
  x2 : w.heap.size + 2 ≤ X
  z : X + 2 ≤ W.heap.size
theorem TkQ.chg {w : World} {B R m : Nat} {F : Nat → Prop} {X : Nat} {n0 : Nd} {id co : Int} {q : Int} {g g' : Bool} {ns ns' : List Nd} {x y x' y' : Nat → Nat} {W W' : World} (h : TkQ w B R m F X n0 id co q g ns x y W) (hr : RIn W' B R m q g' ns' x' y') (hf : ∀ k, footG R m ns' k → footG R m ns k ∨ W.heap.size ≤ k) (hc : Chg (footG R m ns) W W') : TkQ w B R m F X n0 id co q g' ns' x' y' W' := by
  have hno : ∀ k, w.heap.size ≤ k → k < X + 2 → ¬ footG R m ns k := fun k h1 h2 hk => by
    rcases h.f k hk with e | e
    · have := h.fl k e; omega
    · omega
  have h2 := h.x2
  have hz := h.z
  refine ⟨hr, h.bx.keep hc (hno _ (Nat.le_refl _) (by omega)) (hno _ (by omega) (by omega)) (hno _ (by omega) (by omega)) (hno _ (by omega) (by omega)), fun k hk => ?_, h.c.trans hc (fun k hk => ?_), h.fl, h.x2, Nat.le_trans h.z hc.size⟩
  · rcases hf k hk with e | e
    · exact h.f k e
    · right; omega
  · rcases h.f k hk with e | e
    · exact Or.inl e
    · right; omega
theorem TkQ.drew {w : World} {B R m : Nat} {F : Nat → Prop} {X : Nat} {n0 : Nd} {id co : Int} {q : Int} {g : Bool} {ns : List Nd} {x y : Nat → Nat} {W : World} (h : TkQ w B R m F X n0 id co q g ns x y W) : TkQ w B R m F X n0 id co q g ns x y W.drew :=
  ⟨h.r.below (Below.refl _ _).drew, ⟨h.bx.c, h.bx.d, h.bx.x, h.bx.y⟩, h.f, h.c.drew, h.fl, h.x2, h.z⟩
theorem TkQ.dfc {w : World} {B R m : Nat} {F : Nat → Prop} {X : Nat} {n0 : Nd} {id co : Int} {q : Int} {g : Bool} {n : Nd} {t : List Nd} {x y : Nat → Nat} {W : World} (h : TkQ w B R m F X n0 id co q g (n :: t) x y W) (d : Int) : TkQ w B R m F X n0 id co q g (n.dfc d :: t) x y (W.setCell ⟨n.b, 3, none⟩ (.int .i64 d)) :=
  h.chg (RIn.dfc (a := []) (b := t) h.r d) (fun k hk => Or.inl ((footG_dfc [] t n d k).1 hk)) ((Chg.refl (footG R m (n :: t)) W).setCell (p := ⟨n.b, 3, none⟩) (Or.inl (Or.inl (Or.inr (Or.inr (by simp))))) _)
theorem tk_pop {w : World} {B R m : Nat} {F : Nat → Prop} {X : Nat} {n0 : Nd} {id co : Int} {q : Int} {g : Bool} {n : Nd} {t : List Nd} {x y : Nat → Nat} {W : World} (h : TkQ w B R m F X n0 id co q g (n :: t) x y W) (hBw : B ≤ w.heap.size) (rest : List Ff.E) (hi : n.r.its = (id, co) :: rest) (hl : rest.length ≤ 90000) :
    Calls Try.prog 78 #[.pointer (some ⟨n.q, 0, none⟩)] W fun e W' => e = .returned (.tuple #[.agg #[.int .i64 id, .int .i64 co], .bool true]) ∧ ∃ F', Hid (TkQ w B R m F X n0 id co q g (n.que F' rest :: t) x y W') := by
  have hq := h.r.qs.q n (by simp)
  rw [hi] at hq
  refine (popSome B n.q (id, co) rest n.F W hq hl).mono fun e W' hr => ⟨hr.r, ?_⟩
  have hBW : B ≤ W.heap.size := Nat.le_trans hBw (Nat.le_trans (by have := h.x2; omega) h.z)
  obtain ⟨F', r1, r2, r3⟩ := RIn.queue (a := []) (b := t) h.r hBW hr
  exact ⟨F', Lib.hid (h.chg r1 r2 r3)⟩
theorem tk_settle {w : World} {B R m : Nat} {F : Nat → Prop} {X : Nat} {n0 : Nd} {id co : Int} {q : Int} {g : Bool} {n : Nd} {t : List Nd} {x y : Nat → Nat} {W : World} (h : TkQ w B R m F X n0 id co q g (n :: t) x y W) (hl : n.r.its.length ≤ 1000000) :
    Calls Try.prog 42 #[.pointer (some ⟨R, 0, none⟩), .int .i64 n.r.f] W fun e W' => e = .returned (.tuple #[]) ∧ Hid (∃ x' y', TkQ w B R m F X n0 id co q (if n.r.its = [] then false else g) (if n.r.its = [] then t else n :: t) x' y' W') := by
  refine (settleFirst B R m q g n t x y W h.r hl).mono fun e W' hr => ⟨hr.e, Lib.hid ?_⟩
  obtain ⟨x', y', h1⟩ := hr.s
  refine ⟨x', y', h.chg h1 (fun k hk => Or.inl ?_) hr.c⟩
  by_cases hi : n.r.its = []
  · rw [if_pos hi] at hk
    exact footG_sub (a := []) (b := t) k hk
  · rw [if_neg hi] at hk
    exact hk
theorem TkQ.out {w : World} {B R m : Nat} {F : Nat → Prop} {X : Nat} {n0 : Nd} {id co : Int} {s : Fl.St} {q : Int} {g : Bool} {ns : List Nd} {x y : Nat → Nat} {W W' : World} (h : TkQ w B R m F X n0 id co q g ns x y W) (hc : Chg (fun k => k = w.heap.size ∨ k = w.heap.size + 1) W W') (h1 : s.take.q = q) (h2 : s.take.g = g) (h3 : s.take.l = ns.map (·.r)) (v : Value) (hv : ∃ f id co T q wt d, s.takeV = some (f, (id, co)) ∧ v = .tuple #[.agg #[.iface T (.pointer (some ⟨q, 0, none⟩)), .int .i64 f, .int .i64 wt, .int .i64 d], .agg #[.int .i64 id, .int .i64 co], .bool true]) : RetTk B R m F s w (.returned v) W' := by
  have h4 := h.x2
  refine ⟨Or.inr ?_, ⟨ns, x, y, ?_, h3.symm, fun k hk => ?_⟩, h.c.trans hc (fun k hk => Or.inr (by rcases hk with e | e <;> omega))⟩
  · obtain ⟨f, id, co, T, q, wt, d, e1, e2⟩ := hv
    exact ⟨f, id, co, T, q, wt, d, e1, by rw [e2]⟩
  · rw [h1, h2]
    exact h.r.keep (fun k hk => hc.block k (h.r.lt k hk).2 (fun he => by
      rcases h.f k hk with e | e
      · have := h.fl k e; omega
      · omega))
  · rcases h.f k hk with e | e
    · exact Or.inl e
    · right; omega
set_option maxRecDepth 100000 in
set_option maxHeartbeats 16000000 in
theorem takeSome (B R m : Nat) (s : Fl.St) (ns : List Nd) (x y : Nat → Nat) (F : Nat → Prop) (w : World) (h : RIn w B R m s.q s.g ns x y) (hl : ns.map (·.r) = s.l) (hF : ∀ k, footG R m ns k ↔ F k) (hG : Fl.Good s) (hL : Fl.Lim 64 s) (hS : Fl.Small 90000 s) (hn : s.l ≠ []) (hBw : B ≤ w.heap.size) :
    Calls Try.prog 39 #[.pointer (some ⟨R, 0, none⟩)] w (RetTk B R m F s w) := by
  have hb0 : Below w.heap.size w (preP w) := ((Below.refl _ _).alloc (Nat.le_refl _) _).alloc (by simp) _
  have hFl : ∀ k, F k → k < w.heap.size := fun k hk => (h.lt k ((hF k).2 hk)).2
  obtain ⟨hGp, hLp, hrp⟩ := hG.pick hL
  have hSp := hS.pick hG hL
  have hln : s.pick.l ≠ [] := fun e => hn (by
    have := (Fl.pick_fs hG hL).length_eq
    rw [e] at this
    simpa using this.symm)
  have K := Lib.hid ((pickC B R m s ns x y F _ (h.below hb0) hl hF hG hL hS).mono (R' := fun e w' => ∃ (n : Nd) (t : List Nd) (x' y' : Nat → Nat) (id co : Int) (rest : List Ff.E), e = .returned (.tuple #[.agg #[.iface 69 (.pointer (some ⟨n.q, 0, none⟩)), .int .i64 n.r.f, .int .i64 n.r.w, .int .i64 n.r.d], .agg #[.int .i64 id, .int .i64 co], .bool true]) ∧ n.r.its = (id, co) :: rest ∧ n.t = 69 ∧ (n :: t).map (·.r) = s.pick.l ∧ Hid (TkQ w B R m F w'.heap.size n id co s.pick.q s.pick.g (n :: t) x' y' ((w'.alloc (.cells #[.iface 69 (.pointer (some ⟨n.q, 0, none⟩)), .int .i64 n.r.f, .int .i64 n.r.w, .int .i64 n.r.d] 75)).alloc (itO id co)))) fun e w' hr => by
    obtain ⟨ns', x', y', h1, h2, h3, h4⟩ := hr.s
    cases ns' with
    | nil => exact absurd h3.symm hln
    | cons n t =>
      have hok := hGp.ok n.r (by rw [← h3]; simp)
      cases hi : n.r.its with
      | nil => exact absurd hi hok.ne
      | cons e0 rest =>
        obtain ⟨id, co⟩ := e0
        have ht := h2.qs.src n (by simp)
        refine ⟨n, t, x', y', id, co, rest, ?_, hi, ht, h3, Lib.hid ?_⟩
        · rw [h1]
          show Ending.returned (.tuple #[.agg #[.iface n.t (.pointer (some ⟨n.q, 0, none⟩)), .int .i64 n.r.f, .int .i64 n.r.w, .int .i64 n.r.d], .agg #[.int .i64 (n.r.its.head?.getD (0, 0)).1, .int .i64 (n.r.its.head?.getD (0, 0)).2], .bool true]) = _
          rw [hi, ht]; rfl
        · have hz0 : w.heap.size + 2 ≤ w'.heap.size := by have := hr.c.size; simp [preP] at this; omega
          have hbb : Below w'.heap.size w' ((w'.alloc (.cells #[.iface 69 (.pointer (some ⟨n.q, 0, none⟩)), .int .i64 n.r.f, .int .i64 n.r.w, .int .i64 n.r.d] 75)).alloc (itO id co)) := ((Below.refl _ _).alloc (Nat.le_refl _) _).alloc (by simp) _
          have k0 := hr.c.keep (heap_alloc2_old w flO0 zeroI) (fun hf => by have := hFl _ hf; omega)
          have k1 := hr.c.keep (heap_alloc2_new w flO0 zeroI) (fun hf => by have := hFl _ hf; omega)
          refine ⟨h2.below hbb, ⟨(hbb.block _ (by omega)).trans k0, (hbb.block _ (by omega)).trans k1, ?_, ?_⟩, fun k hk => Or.inl ((h4 k).1 hk), ((Chg.of_below (F := F) hb0).trans hr.c (fun k hk => Or.inl hk)).then hbb, hFl, hz0, by simp⟩
          · rw [ht]; exact heap_alloc2_old w' _ _
          · exact heap_alloc2_new w' _ _)
  have HG := Lib.hid hGp
  have HL := Lib.hid hLp
  have HS := Lib.hid hSp
  have HFl := Lib.hid hFl
  have HB := Lib.hid hBw
  clear h hl hF hG hL hS hn hb0 hFl hGp hLp hrp hSp hln hBw
  go_enter Try.func39, Try.ntmps39
  go_wp2_with (first | (go_at_call 40; (with_reducible refine K.out.mono ?_); rintro e wA ⟨n, t, x', y', id, co, rest, rfl, hi, ht, hln, hT⟩; have hlr : rest.length ≤ 90000 := (by have := HS.out.its n.r (by rw [← hln]; simp); rw [hi] at this; simp at this; omega); obtain ⟨_, _, c2, _⟩ := hT.out.r.r.cs; rw [show visOf (n :: t) = .pointer (some ⟨n.b, 0, none⟩) from rfl] at c2; obtain ⟨d0, _, _, _, _, _⟩ := hT.out.r.r.nd6 (n := n) (by simp); unfold Nd.src at d0; rw [ht] at d0; have hm1 := run_mPop n.q; simp only [Try.types_size, Made.depth, Nat.reduceAdd] at hm1) | (go_at_call 78; (with_reducible refine (tk_pop hT.out HB.out rest hi hlr).mono ?_); rintro e wB ⟨rfl, F', hP⟩))
  clear c2 d0 hm1 hlr K
  have hok := HG.out.ok n.r (by rw [← hln]; simp)
  have hco := hok.its.co (id, co) (by rw [hi]; simp)
  have hdd := hok.d
  have htop := HL.out.top n.r (by rw [← hln]; rfl)
  have hqw := qw_bound HG.out.q.1 HG.out.q.2 hok.w.1 hok.w.2
  have hw : IntKind.i64.wrap (n.r.d - co) = n.r.d - co := by
    have h1 : co ≤ 64 := hco.2
    have h2 : 1 ≤ co := hco.1
    have h3 : n.r.d ≤ 64 + 1024 := by
      by_cases hg : s.pick.g = true
      · rw [if_pos hg] at htop; omega
      · rw [if_neg hg] at htop; omega
    rw [IntKind.wrap_i64]; omega
  obtain ⟨_, _, c2, _⟩ := hP.out.r.r.cs
  rw [show visOf (n.que F' rest :: t) = .pointer (some ⟨n.b, 0, none⟩) from rfl] at c2
  obtain ⟨_, _, _, d3, _, _⟩ := hP.out.r.r.nd6 (n := n.que F' rest) (by simp)
  replace d3 : wB.cell? ⟨n.b, 3, none⟩ = some (.int .i64 n.r.d) := d3
  have f3 : wB.frozen? ⟨n.b, 3, none⟩ = false := hP.out.r.r.nf (n := n.que F' rest) (by simp) 3
  obtain ⟨_, i1⟩ := it_cells hP.out.bx.y
  have H5 := Lib.hid (hP.out.dfc (n.r.d - co)).drew
  clear hok hco hdd htop hqw
  obtain ⟨X, hX⟩ : ∃ X, X = wA.heap.size := ⟨_, rfl⟩
  rw [← hX] at H5 hP hT i1
  rw [← hX]
  obtain ⟨D, hD⟩ : ∃ D, D = n.r.d - co := ⟨_, rfl⟩
  rw [← hD] at H5
  replace hw := hw.trans hD.symm
  have HD := Lib.hid hD
  clear hD hX
  obtain ⟨w5, hw5⟩ : ∃ w5, w5 = (wB.setCell ⟨n.b, 3, none⟩ (.int .i64 D)).drew := ⟨_, rfl⟩
  have H6 := Lib.hid (show TkQ w B R m F X n id co s.pick.q s.pick.g ((n.que F' rest).dfc D :: t) x' y' w5 by rw [hw5]; exact H5.out)
  have HW5 := Lib.hid hw5
  clear hw5 H5
  go_region
  rw [← HW5.out]
  clear c2 d3 f3 i1 hw
  obtain ⟨_, u1, _, _⟩ := fl_cells H6.out.bx.x
  have KS := Lib.hid (tk_settle H6.out (by show rest.length ≤ 1000000; have := HS.out.its n.r (by rw [← hln]; simp); rw [hi] at this; simp at this; omega))
  have KS2 : Hid (Calls Try.prog 42 #[.pointer (some ⟨R, 0, none⟩), .int .i64 n.r.f] w5 fun e W' => e = .returned (.tuple #[]) ∧ Hid (∃ x'' y'', TkQ w B R m F X n id co s.pick.q (if rest = [] then false else s.pick.g) (if rest = [] then t else (n.que F' rest).dfc D :: t) x'' y'' W')) := KS
  clear KS
  go_wp2_with (go_at_call 42; (with_reducible refine KS2.out.mono ?_); rintro e wD ⟨rfl, hE⟩)
  obtain ⟨x2, y2, hE⟩ := hE.out
  obtain ⟨v0, v1, v2, v3⟩ := fl_cells hE.bx.x
  rw [ht] at v0
  obtain ⟨i0, i1⟩ := it_cells hE.bx.y
  obtain ⟨a0, a1, a2, a3, a4, a5, f0, f1, f2, f3, f4, f5⟩ := res_cells hE.bx.c hE.bx.d
  have hx2 := hE.x2
  obtain ⟨C, hC⟩ : ∃ C, C = w.heap.size := ⟨_, rfl⟩
  rw [← hC] at a0 a1 a2 a3 a4 a5 f0 f1 f2 f3 f4 f5 hx2 ⊢
  have q1 : X ≠ C := by omega
  have q2 : X ≠ C + 1 := by omega
  have q3 : X + 1 ≠ C := by omega
  have q4 : X + 1 ≠ C + 1 := by omega
  have HC := Lib.hid hC
  have HE := Lib.hid hE
  clear hx2 hC hE u1
  obtain ⟨e1, e2, e3, e4⟩ := Fl.take_shape HG.out.nd hln.symm hi
  have hfin := TkQ.out (s := s) (W' := ((((((wD.setCell ⟨C, 0, none⟩ (.iface 69 (.pointer (some ⟨n.q, 0, none⟩)))).setCell ⟨C, 1, none⟩ (.int .i64 n.r.f)).setCell ⟨C, 2, none⟩ (.int .i64 n.r.w)).setCell ⟨C, 3, none⟩ (.int .i64 n.r.d)).setCell ⟨C + 1, 0, none⟩ (.int .i64 id)).setCell ⟨C + 1, 1, none⟩ (.int .i64 co)).drew) HE.out (by
    rw [← HC.out]
    exact ((((((Chg.refl (fun k => k = C ∨ k = C + 1) wD).setCell (p := ⟨C, 0, none⟩) (Or.inl (Or.inl rfl)) _).setCell (p := ⟨C, 1, none⟩) (Or.inl (Or.inl rfl)) _).setCell (p := ⟨C, 2, none⟩) (Or.inl (Or.inl rfl)) _).setCell (p := ⟨C, 3, none⟩) (Or.inl (Or.inl rfl)) _).setCell (p := ⟨C + 1, 0, none⟩) (Or.inl (Or.inr rfl)) _).setCell (p := ⟨C + 1, 1, none⟩) (Or.inl (Or.inr rfl)) _ |>.drew) e1 e3 (by
    rw [e2]
    by_cases hr : rest = []
    · rw [if_pos hr, if_pos hr]
    · rw [if_neg hr, if_neg hr, HD.out]; rfl) _ ⟨n.r.f, id, co, 69, n.q, n.r.w, n.r.d, e4, rfl⟩
  have HF := Lib.hid hfin
  clear hfin e1 e2 e3 e4
  go_region
  go_wp2
  refine bodyPost_ret (v := .tuple #[.agg #[.iface 69 (.pointer (some ⟨n.q, 0, none⟩)), .int .i64 n.r.f, .int .i64 n.r.w, .int .i64 n.r.d], .agg #[.int .i64 id, .int .i64 co], .bool true]) ?_ rfl ?_
  · rw [results_cct rfl]; go_simp; (try rfl)
  · exact HF.out
theorem robTakeC (B R m : Nat) (s : Fl.St) (ns : List Nd) (x y : Nat → Nat) (F : Nat → Prop) (w : World) (h : RIn w B R m s.q s.g ns x y) (hl : ns.map (·.r) = s.l) (hF : ∀ k, footG R m ns k ↔ F k) (hG : Fl.Good s) (hL : Fl.Lim 64 s) (hS : Fl.Small 90000 s) (hBw : B ≤ w.heap.size) :
    Calls Try.prog 39 #[.pointer (some ⟨R, 0, none⟩)] w (RetTk B R m F s w) := by
  by_cases hn : s.l = []
  · exact takeNone B R m s ns x y F w h hl hF hG hL hS hn
  · exact takeSome B R m s ns x y F w h hl hF hG hL hS hn hBw
end Go.Proofs.Ytgeoebodlcbebaa
