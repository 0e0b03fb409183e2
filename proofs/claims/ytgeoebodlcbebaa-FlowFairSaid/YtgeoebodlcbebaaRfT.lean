/-
  A region that draws its order, held by S BUT FOR ITS LAST OPERATION T: a store that breaks S ('r.L = append(.. r.L ..)').
  The document's ring: Pick.
  The document's ring: Pick whole, Take.
  The document's Same, on two slices of the same rows.
-/
import Derived.Test.YtgeoebodlcbebaaFoot
import Derived.Test.YtgeoebodlcbebaaRfS
import Derived.Test.YtgeoebodlcbebaaRobT
namespace Go.Proofs.Ytgeoebodlcbebaa
section
variable {P : Program} {ops : Array Oper} {Q : Exit → Act → World → Prop} {md : Region.Mode} {S : World → Prop} {T : Nat}

/-- Whatever order is picked from here on, and S holds behind every operation but T -/
def wpAnyT (P : Program) (md : Region.Mode) (ops : Array Oper) (Q : Exit → Act → World → Prop) (S : World → Prop) (T : Nat) : Nat → Array Bool → Act → World → Prop
  | 0, listed, a, w => Region.ready md ops listed = [] ∧ Q .normal a w
  | fuel + 1, listed, a, w =>
    (Region.ready md ops listed = [] → Q .normal a w) ∧
    ∀ i ∈ Region.ready md ops listed, wpOp P ops Q i (fun a' w' => (i ≠ T → S w') ∧ wpAnyT P md ops Q S T fuel (listed.setIfInBounds i true) a' w') a w
theorem wpAny_of_T : ∀ (fuel : Nat) (listed : Array Bool) (a : Act) (w : World), wpAnyT P md ops Q S T fuel listed a w → wpAny P md ops Q fuel listed a w
  | 0, _, _, _, h => h
  | fuel + 1, _, _, _, h => ⟨h.1, fun i hi => wpOp_mono (fun a' w' h' => wpAny_of_T fuel _ a' w' h'.2) (h.2 i hi)⟩
theorem wpAnyT_first {i : Nat} {oi : Oper} {v : Value} (hi : ops[i]? = some oi) (hsel : ∀ (j : Nat) (o : Oper) cs b, ops[j]? = some o → o.op ≠ .select cs b)
    (hQ : ∀ c a w, Q (.panic c) (a.put oi.dst v) w → Q (.panic c) a w) (hT : ∀ o, ops[T]? = some o → ∃ e ∈ o.after, Region.binds md e = true ∧ e.on = i) :
    ∀ (fuel : Nat) (listed : Array Bool) (a : Act) (w : World),
      (∀ j oj, ops[j]? = some oj → j ≠ i → listed.getD j true = false → (∀ e ∈ oj.after, Region.binds md e = true → e.on ≠ i) → oi.apart ops oj = true) →
      i ∈ Region.ready md ops listed → YieldsIf P ops S oi v a → S w →
      wpAnyT P md ops Q S T fuel (listed.setIfInBounds i true) (a.put oi.dst v) w → wpAnyT P md ops Q S T (fuel + 1) listed a w := by
  intro fuel
  induction fuel with
  | zero =>
    intro listed a w _ hr hy hS H
    refine ⟨fun h => (by rw [h] at hr; cases hr), fun j hj => ?_⟩
    by_cases hji : j = i
    · subst hji; exact hy.wpOp hi hS ⟨fun _ => hS, H⟩
    · have := ready_mono hj hji
      rw [H.1] at this
      cases this
  | succ fuel ih =>
    intro listed a w hfree hr hy hS H
    refine ⟨fun h => (by rw [h] at hr; cases hr), fun j hj => ?_⟩
    by_cases hji : j = i
    · subst hji; exact hy.wpOp hi hS ⟨fun _ => hS, H⟩
    · have h1 := H.2 j (ready_mono hj hji)
      obtain ⟨hjun, oj, hoj, hall⟩ := mem_ready.1 hj
      have hnot : ∀ e ∈ oj.after, Region.binds md e = true → e.on ≠ i := fun e he hb heq => by
        have h1 := hall e he hb
        have h0 := (mem_ready.1 hr).1
        rw [heq] at h1
        rcases Nat.lt_or_ge i listed.size with h' | h'
        · simp [h'] at h0 h1; rw [h0] at h1; cases h1
        · simp [Array.getElem?_eq_none h'] at h1
      have hjT : j ≠ T := fun e => by
        subst e
        obtain ⟨e, he, hb, hei⟩ := hT oj hoj
        exact hnot e he hb hei
      have h2 := wpOp_putIf hoj (hfree j oj hoj hji hjun hnot) (fun cs b => hsel i oi cs b hi) (fun cs b => hsel j oj cs b hoj) hQ hy h1
      have hfree' : ∀ k ok, ops[k]? = some ok → k ≠ i → (listed.setIfInBounds j true).getD k true = false →
          (∀ e ∈ ok.after, Region.binds md e = true → e.on ≠ i) → oi.apart ops ok = true := fun k ok hk hki hun hno => by
        refine hfree k ok hk hki ?_ hno
        by_cases hjk : j = k
        · subst hjk; exact hjun
        · rw [getD_set_ne true hjk] at hun; exact hun
      refine wpOp_mono (fun a' w' h3 => ⟨h3.2.1, ih (listed.setIfInBounds j true) a' w' hfree' (ready_mono hr (Ne.symm hji)) h3.1 (h3.2.1 hjT) ?_⟩) h2
      rw [Array.setIfInBounds_comm _ _ hji]
      exact h3.2.2
/-- T waits for i -/
def Region.waits (md : Region.Mode) (ops : Array Oper) (T i : Nat) : Bool := match ops[T]? with | some o => o.after.any (fun e => Region.binds md e && e.on == i) | none => true
theorem Region.waits_spec {i : Nat} (h : Region.waits md ops T i = true) : ∀ o, ops[T]? = some o → ∃ e ∈ o.after, Region.binds md e = true ∧ e.on = i := fun o ho => by
  unfold Region.waits at h
  rw [ho] at h
  obtain ⟨k, hk, hp⟩ := Array.any_eq_true.1 h
  simp only [Bool.and_eq_true, beq_iff_eq] at hp
  exact ⟨o.after[k], Array.getElem_mem hk, hp⟩
/-- a step that yields its value in every world that meets S is taken first; the slot is written out -/
theorem takeT (i : Nat) (d : Tmp) (v : Value) {oi : Oper} {fuel : Nat} {listed : Array Bool} {a : Act} {w : World} (hi : ops[i]? = some oi) (hd : oi.dst = some d)
    (hs : Region.noSelect ops = true) (hf : Region.free md ops listed i = true) (hw : Region.waits md ops T i = true) (hr : (Region.ready md ops listed).contains i = true)
    (hQ : ∀ c a w, Q (.panic c) (a.put oi.dst v) w → Q (.panic c) a w) (hy : YieldsIf P ops S oi v a) (hS : S w)
    (h : wpAnyT P md ops Q S T fuel (listed.setIfInBounds i true) ⟨a.tmps.setIfInBounds d v, a.defers⟩ w) : wpAnyT P md ops Q S T (fuel + 1) listed a w :=
  wpAnyT_first hi (Region.noSelect_spec hs) hQ (Region.waits_spec hw) fuel listed a w (Region.free_spec hi hf) (by simpa using hr) hy hS (by rw [hd]; exact h)
def AllReadyT (P : Program) (md : Region.Mode) (ops : Array Oper) (Q : Exit → Act → World → Prop) (S : World → Prop) (T : Nat) (fuel : Nat) (listed : Array Bool) (a : Act) (w : World) (rs : List Nat) : Prop :=
  ∀ i ∈ rs, wpOp P ops Q i (fun a' w' => (i ≠ T → S w') ∧ wpAnyT P md ops Q S T fuel (listed.setIfInBounds i true) a' w') a w
theorem AllReadyT.nil {fuel : Nat} {listed : Array Bool} {a : Act} {w : World} : AllReadyT P md ops Q S T fuel listed a w [] := fun _ h => by cases h
theorem AllReadyT.cons {fuel : Nat} {listed : Array Bool} {a : Act} {w : World} {i : Nat} {o : Oper} {rs : List Nat} (ho : ops[i]? = some o)
    (h : ∀ K' : Act → World → Prop, Shut (∀ a w, (i ≠ T → S w) → wpAnyT P md ops Q S T fuel (listed.setIfInBounds i true) a w → K' a w) → if Region.wanted o (yielded ops a.tmps) = true then Oper.wp P o a w K' Q else K' (a.put o.dst undef) w)
    (hs : AllReadyT P md ops Q S T fuel listed a w rs) : AllReadyT P md ops Q S T fuel listed a w (i :: rs) := fun j hj => by
  rcases List.mem_cons.1 hj with rfl | hj
  · exact wpOp_step ho (fun K' hK => h K' (fun a w hS hW => hK a w ⟨hS, hW⟩))
  · exact hs j hj
theorem wpAnyT_ready {rs : List Nat} {fuel : Nat} {listed : Array Bool} {a : Act} {w : World} (hr : Region.ready md ops listed = rs) (hne : rs ≠ [])
    (h : AllReadyT P md ops Q S T fuel listed a w rs) : wpAnyT P md ops Q S T (fuel + 1) listed a w :=
  ⟨fun h0 => absurd (hr ▸ h0) hne, hr ▸ h⟩
theorem wpAnyT_done {listed : Array Bool} {a : Act} {w : World} (hr : Region.ready md ops listed = []) (h : Q .normal a w) :
    ∀ fuel, wpAnyT P md ops Q S T fuel listed a w
  | 0 => ⟨hr, h⟩
  | _ + 1 => ⟨fun _ => h, by rw [hr]; simp⟩
end
end Go.Proofs.Ytgeoebodlcbebaa

namespace Go.Proofs.Ytgeoebodlcbebaa
open Go.RowKit
set_option linter.unusedVariables false
set_option linter.unusedSimpArgs false

theorem takeV_some {s : Fl.St} (hG : Fl.Good s) (hL : Fl.Lim 64 s) (hn : s.l ≠ []) : s.takeV.isSome = true := by
  rcases Fl.picked hG hL with ⟨h1, h2⟩ | ⟨f, id, co, r, t, rest, h1, _⟩
  · have := (Fl.pick_fs hG hL).length_eq
    rw [h2] at this
    exact absurd (List.length_eq_zero_iff.1 (by simpa using this.symm)) hn
  · rw [h1]; rfl
/-- the first goes to the end -/
theorem RfM.turn {w W W3 : World} {V : Nat} {D : Nat → Prop} {s S1 : Fl.St} {X : Nat} {y : DR} {a : Option Addr} {cap : Nat} {o : DR} {B : List DR} {u : Option Addr} {c : Nat} (h : RfM w V D s S1 X y W) (hV : V < w.heap.size) (h1 : RfAt W V S1 a cap (o :: B)) (h2 : ∀ k, rfD V a (o :: B) k → D k ∨ w.heap.size ≤ k) (hrd : S1.ready = false)
    (hb : Below W.heap.size W W3) (hrow : eltD.Row W3 W.heap.size (.slice u (B ++ [y]).length c) (B ++ [y])) : RfQ w V D s S1.turn ((W3.setCell ⟨V, 1, none⟩ (.slice u (B ++ [y]).length c)).setCell ⟨V, 2, none⟩ (.bool false)) := by
  have hln : S1.l = o.r :: B.map DR.r := by rw [← h1.l]; rfl
  have hyr : y.r = o.r := by
    have := h.hd
    rw [hln] at this
    simpa using this.symm
  have hte := Fl.turn_eq hln
  have hVW : V < W.heap.size := Nat.lt_of_lt_of_le hV h.q.c.size
  obtain ⟨u2, c2, e3, hfl, hz⟩ := hrow.flat0
  obtain ⟨rfl, rfl⟩ : u = u2 ∧ c = c2 := by injection e3 with e1 e2 e3; exact ⟨e1, e3⟩
  have hu : ∀ g off sp, u = some ⟨g, off, sp⟩ → W.heap.size ≤ g := fun g off sp ha => (hrow.lt g (by rw [ha]; rfl)).1
  obtain ⟨W4, hW4⟩ : ∃ W4, W4 = ((W3.setCell ⟨V, 1, none⟩ (.slice u (B ++ [y]).length c)).setCell ⟨V, 2, none⟩ (.bool false)) := ⟨_, rfl⟩
  have hoth : ∀ k, k ≠ V → W4.heap[k]? = W3.heap[k]? := fun k hk => by
    rw [hW4]
    exact (Below.heap_setCell _ _ _ _ hk).trans (Below.heap_setCell _ _ _ _ hk)
  have hz4 : W3.heap.size ≤ W4.heap.size := by rw [hW4]; simp [World.setCell]
  have hW3 := h1.below hb
  have hmem : ∀ d ∈ B ++ [y], d ∈ o :: B ∨ d = y := fun d hd => by
    rcases List.mem_append.1 hd with h | h
    · exact Or.inl (List.mem_cons_of_mem _ h)
    · exact Or.inr (by simpa using h)
  have hblk : ∀ d ∈ B ++ [y], 0 < d.r.its.length → ∀ g off sp, d.a = some ⟨g, off, sp⟩ → (D g ∨ w.heap.size ≤ g) ∧ g ≠ V := fun d hd h0 g off sp ha => by
    rcases hmem d hd with e | e
    · exact ⟨h2 g (Or.inr (Or.inr ⟨d, e, h0, off, sp, ha⟩)), h1.nv g (Or.inr ⟨d, e, h0, off, sp, ha⟩)⟩
    · subst e; exact h.yb h0 g off sp ha
  have hok : ∀ d ∈ B ++ [y], DOk W3 d := fun d hd => by
    rcases hmem d hd with e | e
    · exact hW3.d d e
    · subst e; exact h.ok.below hb
  have hgv : S1.give = S1 := Fl.give_yes h.g
  have hp := Fl.pick_step h.q.good h.q.lim (by rw [hgv]; exact hrd)
  rw [hgv] at hp
  rw [← hW4]
  refine ⟨⟨u, c, B ++ [y], ⟨?_, View.keep hfl.view hz4 (fun h0 g off sp ha => hoth g (by have := hu g off sp ha; omega)), ?_, fun d hd => ⟨View.keep (hok d hd).v hz4 (fun h0 g off sp ha => hoth g (hblk d hd h0 g off sp ha).2), (hok d hd).z⟩, hz, hrow.le, ?_⟩, fun k hk => ?_⟩, ?_, h.q.good.turn, h.q.lim.turn (fun r hr' => (h.q.good.ok r hr').ne) hrd h.g, h.q.small.turn, hp.symm.trans h.q.p, ?_⟩
  · rw [hW4, Fl.turn_q, hte]
    exact setCell_block _ V 2 _ _ _ (setCell_block W3 V 1 _ _ _ hW3.o)
  · rw [hte, List.map_append]
    show B.map DR.r ++ [y.r] = _
    rw [hyr]
  · rintro k (⟨h0, off, sp, ha⟩ | ⟨d, hd, h0, off, sp, ha⟩)
    · have := hu k off sp ha; omega
    · exact (hblk d hd h0 k off sp ha).2
  · rcases hk with e | ⟨h0, off, sp, ha⟩ | ⟨d, hd, h0, off, sp, ha⟩
    · exact h2 k (Or.inl e)
    · right; have := hu k off sp ha; have := h.q.c.size; omega
    · exact (hblk d hd h0 k off sp ha).1
  · rw [hW4]
    exact ((h.q.c.then hb).setCell (p := ⟨V, 1, none⟩) (Or.inl rfl) _).setCell (p := ⟨V, 2, none⟩) (Or.inl rfl) _
  · rw [hte]; simp
set_option maxRecDepth 100000 in
set_option maxHeartbeats 4000000 in
theorem refPickNone (V : Nat) (s : Fl.St) (D : Nat → Prop) (w : World) (h : RfIs w V s D) (hn : s.l = []) :
    Calls Try.prog 28 #[.pointer (some ⟨V, 0, none⟩)] w (RetRf (.bool s.takeV.isSome) V s.pick D w) := by
  obtain ⟨a, cap, ds, h1, hD⟩ := h
  have hp := Fl.pick_nil hn
  have ht : s.takeV = none := takeV_nil (by rw [hp]; exact hn)
  rw [ht, hp]
  obtain ⟨c0, c1, c2⟩ := h1.cs
  have hdn : ds.length = 0 := by have := congrArg List.length h1.l; rw [hn] at this; simpa using this
  rw [hdn] at c1
  have HF := Lib.hid (h1.same hD (Below.refl _ _) (.bool false))
  clear h1 hD hp ht hn hdn
  go_enter Try.func28, Try.ntmps28
  go_wp2
  go_ret
  exact HF.out
set_option maxRecDepth 100000 in
set_option maxHeartbeats 16000000 in
theorem refPickSome (V : Nat) (s : Fl.St) (D : Nat → Prop) (w : World) (h : RfIs w V s D) (hG : Fl.Good s) (hL : Fl.Lim 64 s) (hS : Fl.Small 90000 s) (hn : s.l ≠ []) :
    Calls Try.prog 28 #[.pointer (some ⟨V, 0, none⟩)] w (RetRf (.bool s.takeV.isSome) V s.pick D w) := by
  rw [takeV_some hG hL hn]
  obtain ⟨a, cap, ds, h1, hD⟩ := h
  have hVw := lt_block h1.o
  have hQ0 : RfQ w V D s s w := ⟨⟨a, cap, ds, h1, fun k hk => Or.inl ((hD k).2 hk)⟩, Chg.refl _ _, hG, hL, hS, rfl, hn⟩
  obtain ⟨c0, c1, c2⟩ := h1.cs
  have t0 : (((ds.length : Nat) : Int) == 0) = false := by
    have : ds.length ≠ 0 := fun e => hn (by have := congrArg List.length h1.l; rw [List.length_map, e] at this; exact List.length_eq_zero_iff.1 this.symm)
    exact beq_eq_false_iff_ne.2 (by omega)
  generalize ds.length = N0 at *
  have HQ0 := Lib.hid hQ0
  clear h1 hD hQ0 hG hL hS hn
  go_enter Try.func28, Try.ntmps28
  go_wp2
  go_loopg [] (Fl.meas s) (fun k wr => ∃ s', Fl.meas s' ≤ k ∧ Hid (RfQ w V D s s' wr))
  case atStart => exact ⟨s, Nat.le_refl _, HQ0⟩
  case round =>
    obtain ⟨s', hk, hst⟩ := hrel
    clear HQ0 c0 c1 c2 t0
    obtain ⟨a1, cap1, ds1, h1, h2⟩ := hst.out.at_
    have hVr : V < wr.heap.size := Nat.lt_of_lt_of_le hVw hst.out.c.size
    cases ds1 with
    | nil => exact absurd h1.l.symm hst.out.ne
    | cons o B =>
      have hln : s'.l = o.r :: B.map DR.r := by rw [← h1.l]; rfl
      have hok := hst.out.good.ok o.r (by rw [hln]; simp)
      obtain ⟨g, off, rfl, hg, hc⟩ := rows_at h1.v (by simp)
      obtain ⟨d0, d1, d2, d3⟩ := hc 0 (by simp)
      simp only [List.getElem_cons_zero, Nat.zero_mul, Nat.add_zero] at d0 d1 d2 d3
      obtain ⟨c0, c1, c2⟩ := h1.cs
      have hX1 : Below wr.heap.size wr (wr.alloc (drO o)) := (Below.refl _ _).alloc (Nat.le_refl _) _
      obtain ⟨x0, _, x2⟩ := (h1.below hX1).cs
      have hbl : 0 < (o :: B).length := by simp
      clear hc
      go_upto_if 20 with fail
      go_cut [] from 16 to 37 (fun wx => ∃ y, Hid (RfM w V D s s'.give wr.heap.size y wx))
      case first =>
        cases hgc : s'.g with
        | true =>
          have hfin := Lib.hid (hst.out.first hVw h1 h2 hgc)
          have hgv : s'.give = s' := Fl.give_yes hgc
          clear h1 h2 hok hst
          go_wp2
          go_meet
          rw [hgv]
          exact ⟨o, hfin⟩
        | false =>
          have hw := hok.w
          have hqg := hst.out.good.q
          have hqw := qw_bound hqg.1 hqg.2 hw.1 hw.2
          have hdd : 0 ≤ o.r.d ∧ o.r.d ≤ 64 := ⟨hok.d, by have := hst.out.lim.top o.r (by rw [hln]; rfl); rw [hgc] at this; simpa using this⟩
          have hw1 : IntKind.i64.wrap (s'.q * o.r.w) = s'.q * o.r.w := by rw [IntKind.wrap_i64]; omega
          have hw2 : IntKind.i64.wrap (o.r.d + s'.q * o.r.w) = o.r.d + s'.q * o.r.w := by rw [IntKind.wrap_i64]; omega
          have hsm := hst.out.small
          obtain ⟨w5, hw5⟩ : ∃ w5, w5 = (wr.alloc (.cells #[.int .i64 o.r.f, .int .i64 o.r.w, .int .i64 (o.r.d + s'.q * o.r.w), .slice o.a o.r.its.length o.cap] 37)).drew := ⟨_, rfl⟩
          have hX5 : w5.heap[wr.heap.size]? = some (drO ⟨{ o.r with d := o.r.d + s'.q * o.r.w }, o.a, o.cap⟩) := by rw [hw5]; exact heap_alloc_new wr _
          obtain ⟨y0, y1, y2, y3⟩ := dr_cells hX5
          have hc5 : Below wr.heap.size wr w5 := by rw [hw5]; exact ((Below.refl _ _).alloc (Nat.le_refl _) _).drew
          have h5 := h1.below hc5
          have hdok : DOk w5 ⟨{ o.r with d := o.r.d + s'.q * o.r.w }, o.a, o.cap⟩ := ⟨((h1.d o (by simp)).below hc5).v, ((h1.d o (by simp)).below hc5).z⟩
          have hlo : (o :: B).length ≤ 90000 := by have := hsm.l; rw [← h1.l] at this; simpa using this
          have hK := withC V s' _ cap1 [] B o ⟨{ o.r with d := o.r.d + s'.q * o.r.w }, o.a, o.cap⟩ w5 (by rw [List.nil_append]; omega) h5 hdok (fun h0 g' off' sp ha => h1.nv g' (Or.inr ⟨o, by simp, h0, off', sp, ha⟩)) rfl hst.out.good.nd (by have := hsm.its o.r (by rw [hln]; simp); show o.r.its.length ≤ 1000000; omega)
          have KW := Lib.hid (show Calls Try.prog 51 #[.pointer (some ⟨V, 0, none⟩), .int .i64 0, .agg #[.int .i64 o.r.f, .int .i64 o.r.w, .int .i64 (o.r.d + s'.q * o.r.w), .slice o.a o.r.its.length o.cap]] w5 fun e w3 => e = .returned (.tuple #[]) ∧ w3.cell? ⟨V, 2, none⟩ = some (.bool s'.g) ∧ w3.frozen? ⟨V, 2, none⟩ = false ∧ Hid (RfM w V D s s'.give wr.heap.size ⟨{ o.r with d := o.r.d + s'.q * o.r.w }, o.a, o.cap⟩ (w3.setCell ⟨V, 2, none⟩ (.bool true))) from hK.mono fun e w3 hr => by
            obtain ⟨a', cap', ds', g1, g2⟩ := hr.s
            have hsg : (s'.with { o.r with d := o.r.d + s'.q * o.r.w }).g = s'.g := Fl.with_stay (x := { o.r with d := o.r.d + s'.q * o.r.w }) hok.ne
            refine ⟨hr.e, ?_, g1.fr 2, Lib.hid (hst.out.give hVw h1 h2 hgc (by rw [← hw5]; exact hr))⟩
            have := g1.cs.2.2
            rw [hsg] at this
            exact this)
          have HW5 := Lib.hid hw5
          clear hK hc5 h5 hdok hlo hsm hdd hqw hqg hw hw5 h1 h2 hok hst hX5
          go_wp2
          go_region
          rw [← HW5.out]
          go_wp2_with (go_at_call 51; (with_reducible refine KW.out.mono ?_); rintro e w3 ⟨rfl, z2, z3, hM⟩)
          go_meet
          exact ⟨_, hM⟩
      case rest =>
        obtain ⟨y, hm⟩ := hcut
        have HST0 := Lib.hid hst.out
        clear hst h1 h2 hok d0 d1 d2 d3 c0 c1 c2 x0 x2 hbl hX1
        obtain ⟨a2, cap2, ds2, k1, k2⟩ := hm.out.q.at_
        cases ds2 with
        | nil => exact absurd k1.l.symm hm.out.q.ne
        | cons o2 B2 =>
          have hln2 : s'.give.l = o2.r :: B2.map DR.r := by rw [← k1.l]; rfl
          have hok2 := hm.out.q.good.ok o2.r (by rw [hln2]; simp)
          have hyr : y.r = o2.r := by
            have := hm.out.hd
            rw [hln2] at this
            simpa using this.symm
          obtain ⟨e0, r0, he0⟩ : ∃ e0 r0, y.r.its = e0 :: r0 := by
            cases hi : y.r.its with
            | nil => rw [hyr] at hi; exact absurd hi hok2.ne
            | cons e0 r0 => exact ⟨e0, r0, rfl⟩
          obtain ⟨id, co⟩ := e0
          have hi0 : 0 < y.r.its.length := by rw [he0]; simp
          obtain ⟨g2, off2, ha2, hg2, hc2⟩ := hm.out.ok.v.is hi0
          have i1 := hc2 0 hi0 1 (.int .i64 co) (by simp [he0]; rfl)
          rw [Nat.zero_mul, Nat.add_zero] at i1
          obtain ⟨x0, x1, x2, x3⟩ := dr_cells hm.out.x
          rw [ha2] at x3
          have hrd : s'.give.ready = decide (co ≤ y.r.d) := by
            unfold Fl.St.ready
            rw [hln2]
            show (s'.give.g && o2.r.fits) = _
            rw [hm.out.g, ← hyr]
            unfold Fl.Rw.fits
            rw [he0]
            rfl
          have hgg : s'.give.give = s'.give := Fl.give_yes hm.out.g
          have HRD := Lib.hid hrd
          have HGG := Lib.hid hgg
          clear hrd hgg hc2
          obtain ⟨M, hM⟩ : ∃ M, M = y.r.its.length := ⟨_, rfl⟩
          rw [← hM] at x3 hi0
          have HM := Lib.hid hM
          have HYR := Lib.hid hyr
          clear hM hyr
          go_upto_region 8 with fail
          go_quiet (fail)
          obtain ⟨wC, hwC⟩ : ∃ wC, wC = wc.drewN nq := ⟨_, rfl⟩
          have hbC : Below wc.heap.size wc wC := by rw [hwC]; exact below_drewN (Below.refl _ _) nq
          have hMC := Lib.hid (hm.out.below hbC)
          have hkC := Lib.hid (k1.below hbC)
          rw [← hwC]
          clear hwC hbC k1 x0 x1 x2 x3 i1 hm
          by_cases hle : co ≤ y.r.d
          · rw [decide_eq_true hle]
            have hp : s'.give.pick = s'.give := by rw [Fl.pick_done (by rw [HGG.out, HRD.out, decide_eq_true hle]), HGG.out]
            have HF := Lib.hid (hMC.out.q.end_ hp (.bool true))
            clear hp hle
            go_wp2
            go_ret
            exact HF.out
          · rw [decide_eq_false hle]
            have hrd : s'.give.ready = false := by rw [HRD.out, decide_eq_false hle]
            have hms : Fl.meas s'.give.turn < Fl.meas s' := Fl.meas_turn HST0.out.good HST0.out.lim HST0.out.ne hrd
            have HMS := Lib.hid (Nat.lt_of_lt_of_le hms hk)
            obtain ⟨wD, hwD⟩ : ∃ wD, wD = wC.drew := ⟨_, rfl⟩
            have hbD : Below wC.heap.size wC wD := by rw [hwD]; exact (Below.refl _ _).drew
            have hMD := Lib.hid (hMC.out.below hbD)
            have hkD := Lib.hid (hkC.out.below hbD)
            have HWD := Lib.hid hwD
            have HTURN := Lib.hid (fun W3 u c hb hrow => hMD.out.turn (W3 := W3) (u := u) (c := c) hVw hkD.out k2 hrd hb hrow)
            clear hms hle ha2 hi0 he0 hwD hbD hMC hkC hk
            obtain ⟨g3, off3, rfl, hg3, hv3⟩ := rows_at hkD.out.v (by simp)
            have hle2 := hkD.out.le
            have hNl : (o2 :: B2).length = B2.length + 1 := rfl
            have hB2l : B2.length ≤ 90000 := by have := hMD.out.q.small.l; rw [← hkD.out.l] at this; simp at this; omega
            rw [hNl] at hle2
            have hvw := hkD.out.v
            have HS1 := Lib.hid (fun W (hW : Below wD.heap.size wD W) => (show W.cell? ⟨V, 1, none⟩ = some (.slice (some ⟨g3, off3, none⟩) (B2.length + 1) cap2) ∧ W.cell? ⟨wr.heap.size, 0, none⟩ = some (.int .i64 y.r.f) ∧ W.cell? ⟨wr.heap.size, 1, none⟩ = some (.int .i64 y.r.w) ∧ W.cell? ⟨wr.heap.size, 2, none⟩ = some (.int .i64 y.r.d) ∧ W.cell? ⟨wr.heap.size, 3, none⟩ = some (.slice y.a y.r.its.length y.cap) from ⟨(hkD.out.below hW).cs.2.1, dr_cells (hMD.out.below hW).x⟩))
            have HS2 := Lib.hid (fun W (hW : Below wD.heap.size wD W) => (show W.cell? ⟨V, 2, none⟩ = some (.bool s'.give.g) ∧ W.frozen? ⟨V, 1, none⟩ = false ∧ W.frozen? ⟨V, 2, none⟩ = false from ⟨(hkD.out.below hW).cs.2.2, (hkD.out.below hW).fr 1, (hkD.out.below hW).fr 2⟩))
            have hN1 : (1 : Int) ≤ ((B2.length : Nat) : Int) + 1 := by omega
            have HM1 := HM.out
            rw [← HM1] at HS1
            have HPV : Hid ((#[.int .i64 y.r.f, .int .i64 y.r.w, .int .i64 y.r.d, .slice y.a M y.cap] : Array Value).toList = eltD.pv y) := Lib.hid (by rw [HM1]; rfl)
            have HVW : Hid (∀ (W : World) (Z : Nat), W.heap[Z]? = some (.cells #[.int .i64 y.r.f, .int .i64 y.r.w, .int .i64 y.r.d, .slice y.a M y.cap] 37) → eltD.View W (some ⟨Z, 0, none⟩) [y]) := Lib.hid (fun W Z hZ => ⟨fun h0 => ⟨Z, 0, rfl, lt_block hZ, fun j hj i u hu => by
              obtain rfl : j = 0 := by simp at hj; exact hj
              rw [cell_of_row W _ _ _ _ _ hZ]
              have hu : (eltD.pv y)[i]? = some u := hu
              rw [← HPV.out] at hu
              simpa [show eltD.size = 4 from rfl] using hu⟩⟩)
            obtain ⟨off4, hoff⟩ : ∃ off4, off4 = if cap2 = 1 then off3 else off3 + 4 := ⟨_, rfl⟩
            have HTL : Hid (eltD.View wD (some ⟨g3, off4, none⟩) B2) := Lib.hid ⟨fun h0 => by
              have hc1 : cap2 ≠ 1 := by omega
              rw [if_neg hc1] at hoff
              obtain ⟨g9, off9, ha9, hg9, hc9⟩ := hvw.is (by simp)
              injection ha9 with ha9
              injection ha9 with e1 e2 _
              subst e1 e2
              refine ⟨g3, off4, rfl, hg9, fun j hj i u hu => ?_⟩
              have := hc9 (j + 1) (by simp; omega) i u (by simpa using hu)
              rw [hoff, ← this]
              congr 2
              show _ = off3 + (j + 1) * 4 + i
              simp only [show eltD.size = 4 from rfl]
              omega⟩
            have HOFF := Lib.hid hoff
            have hb1 : Below wD.heap.size wD (wD.alloc (.cells #[] 37)) := (Below.refl _ _).alloc (Nat.le_refl _) _
            have hb2 : Below wD.heap.size wD ((wD.alloc (.cells #[] 37)).alloc (.cells #[.int .i64 y.r.f, .int .i64 y.r.w, .int .i64 y.r.d, .slice y.a M y.cap] 37)) := hb1.alloc (by simp) _
            have hb3 : Below wD.heap.size wD (wD.alloc (.cells #[.int .i64 y.r.f, .int .i64 y.r.w, .int .i64 y.r.d, .slice y.a M y.cap] 37)) := (Below.refl _ _).alloc (Nat.le_refl _) _
            have hb4 : Below wD.heap.size wD ((wD.alloc (.cells #[.int .i64 y.r.f, .int .i64 y.r.w, .int .i64 y.r.d, .slice y.a M y.cap] 37)).alloc (.cells #[] 37)) := hb3.alloc (by simp) _
            have HB1 := Lib.hid hb1
            have HB2 := Lib.hid hb2
            have HB3 := Lib.hid hb3
            have HB4 := Lib.hid hb4
            have HL1 : Hid (eltD.Row (wD.alloc (.cells #[] 37)) wD.heap.size (.slice (some ⟨wD.heap.size, 0, none⟩) 0 0) []) := Lib.hid (Elt.Row.lit (E := eltD) wD wD.heap.size (Nat.le_refl _))
            have HL2 : Hid (eltD.Row ((wD.alloc (.cells #[] 37)).alloc (.cells #[.int .i64 y.r.f, .int .i64 y.r.w, .int .i64 y.r.d, .slice y.a M y.cap] 37)) wD.heap.size (.slice (some ⟨wD.heap.size, 0, none⟩) 0 0) []) := Lib.hid ((Elt.Row.lit (E := eltD) wD wD.heap.size (Nat.le_refl _)).below ((Below.refl _ _).alloc (Nat.le_refl _) _))
            have HL3 : Hid (eltD.Row ((wD.alloc (.cells #[.int .i64 y.r.f, .int .i64 y.r.w, .int .i64 y.r.d, .slice y.a M y.cap] 37)).alloc (.cells #[] 37)) wD.heap.size (.slice (some ⟨wD.heap.size + 1, 0, none⟩) 0 0) []) := Lib.hid (by
              have := (Elt.Row.lit (E := eltD) (wD.alloc (.cells #[.int .i64 y.r.f, .int .i64 y.r.w, .int .i64 y.r.d, .slice y.a M y.cap] 37)) wD.heap.size (by simp))
              rw [show (wD.alloc (.cells #[.int .i64 y.r.f, .int .i64 y.r.w, .int .i64 y.r.d, .slice y.a M y.cap] 37)).heap.size = wD.heap.size + 1 by simp] at this
              exact this)
            have HT1 : Hid (eltD.View (wD.alloc (.cells #[] 37)) (some ⟨g3, off4, none⟩) B2) := Lib.hid (HTL.out.below hb1)
            have HT2 : Hid (eltD.View ((wD.alloc (.cells #[] 37)).alloc (.cells #[.int .i64 y.r.f, .int .i64 y.r.w, .int .i64 y.r.d, .slice y.a M y.cap] 37)) (some ⟨g3, off4, none⟩) B2) := Lib.hid (HTL.out.below hb2)
            have HT3 : Hid (eltD.View ((wD.alloc (.cells #[.int .i64 y.r.f, .int .i64 y.r.w, .int .i64 y.r.d, .slice y.a M y.cap] 37)).alloc (.cells #[] 37)) (some ⟨g3, off4, none⟩) B2) := Lib.hid (HTL.out.below hb4)
            have HEL2 : Hid ((((wD.alloc (.cells #[] 37)).alloc (.cells #[.int .i64 y.r.f, .int .i64 y.r.w, .int .i64 y.r.d, .slice y.a M y.cap] 37))).heap[wD.heap.size + 1]? = some (.cells #[.int .i64 y.r.f, .int .i64 y.r.w, .int .i64 y.r.d, .slice y.a M y.cap] 37)) := Lib.hid (heap_alloc2_new wD _ _)
            have HEL3 : Hid ((((wD.alloc (.cells #[.int .i64 y.r.f, .int .i64 y.r.w, .int .i64 y.r.d, .slice y.a M y.cap] 37)).alloc (.cells #[] 37))).heap[wD.heap.size]? = some (.cells #[.int .i64 y.r.f, .int .i64 y.r.w, .int .i64 y.r.d, .slice y.a M y.cap] 37)) := Lib.hid (heap_alloc2_old wD _ _)
            have hld : B2.length ≤ 90000 := hB2l
            clear HM1 hvw hv3 hg3 hoff hb1 hb2 hb3 hb4 k2 hrd hMD hkD HTL
            go_upto_region 10 with fail
            refine wp_region_any (by kernel_rfl) ?_
            change wpAny _ _ _ _ _ _ _ (World.drew _)
            rw [← HWD.out]
            refine wpAny_of_T (S := fun W => Below wD.heap.size wD W) (T := 13) _ _ _ _ ?_
            have hS : Below wD.heap.size wD wD := Below.refl _ _
            refine takeT 0 46 ?_ rfl rfl (by kernel_rfl) (by kernel_rfl) (by kernel_rfl) (by kernel_rfl) (fun _ _ _ h => h) (Or.inl ⟨by kernel_rfl, ?_⟩) hS ?_; rotate_left; (intro w' hw; skip; first | (go_simp; done) | (go_simp; with_reducible rfl)); rotate_left
            try simp only [List.setIfInBounds_toArray, List.set_cons_zero, List.set_cons_succ]
            refine takeT 2 48 ?_ rfl rfl (by kernel_rfl) (by kernel_rfl) (by kernel_rfl) (by kernel_rfl) (fun _ _ _ h => h) (Or.inl ⟨by kernel_rfl, ?_⟩) hS ?_; rotate_left; (intro w' hw; skip; first | (go_simp; done) | (go_simp; with_reducible rfl)); rotate_left
            try simp only [List.setIfInBounds_toArray, List.set_cons_zero, List.set_cons_succ]
            refine takeT 3 49 ?_ rfl rfl (by kernel_rfl) (by kernel_rfl) (by kernel_rfl) (by kernel_rfl) (fun _ _ _ h => h) (Or.inl ⟨by kernel_rfl, ?_⟩) hS ?_; rotate_left; (intro w' hw; skip; first | (go_simp; done) | (go_simp; with_reducible rfl)); rotate_left
            try simp only [List.setIfInBounds_toArray, List.set_cons_zero, List.set_cons_succ]
            refine takeT 4 50 ?_ rfl rfl (by kernel_rfl) (by kernel_rfl) (by kernel_rfl) (by kernel_rfl) (fun _ _ _ h => h) (Or.inl ⟨by kernel_rfl, ?_⟩) hS ?_; rotate_left; (intro w' hw; skip; first | (go_simp; done) | (go_simp; with_reducible rfl)); rotate_left
            try simp only [List.setIfInBounds_toArray, List.set_cons_zero, List.set_cons_succ]
            refine takeT 5 51 ?_ rfl rfl (by kernel_rfl) (by kernel_rfl) (by kernel_rfl) (by kernel_rfl) (fun _ _ _ h => h) (Or.inl ⟨by kernel_rfl, ?_⟩) hS ?_; rotate_left; (intro w' hw; obtain ⟨z0, z1, z2, z3, z4⟩ := HS1.out _ hw; first | (go_simp; done) | (go_simp; with_reducible rfl)); rotate_left
            try simp only [List.setIfInBounds_toArray, List.set_cons_zero, List.set_cons_succ]
            refine takeT 6 52 (.slice (some ⟨g3, off4, none⟩) B2.length (cap2 - 1)) rfl rfl (by kernel_rfl) (by kernel_rfl) (by kernel_rfl) (by kernel_rfl) (fun _ _ _ h => h) (Or.inl ⟨by kernel_rfl, ?_⟩) hS ?_; (intro w' hw; rw [HOFF.out]; by_cases hc1 : cap2 = 1; (rw [if_pos hc1]; go_simp); (rw [if_neg hc1]; go_simp))
            try simp only [List.setIfInBounds_toArray, List.set_cons_zero, List.set_cons_succ]
            refine takeT 8 54 ?_ rfl rfl (by kernel_rfl) (by kernel_rfl) (by kernel_rfl) (by kernel_rfl) (fun _ _ _ h => h) (Or.inl ⟨by kernel_rfl, ?_⟩) hS ?_; rotate_left; (intro w' hw; obtain ⟨z0, z1, z2, z3, z4⟩ := HS1.out _ hw; first | (go_simp; done) | (go_simp; with_reducible rfl)); rotate_left
            try simp only [List.setIfInBounds_toArray, List.set_cons_zero, List.set_cons_succ]
            refine wpAnyT_ready (rs := [1, 9]) (by kernel_rfl) (by simp) ?_
            refine AllReadyT.cons rfl (fun K2 hK => ?_) (AllReadyT.cons rfl (fun K2 hK => ?_) AllReadyT.nil)
            · go_simp; have hS1 := HB1.out; refine hK.out _ _ (fun _ => hS1) ?_; clear hK K2 hS; have hS := hS1; clear hS1
              refine wpAnyT_ready (rs := [7, 9]) (by kernel_rfl) (by simp) ?_
              refine AllReadyT.cons rfl (fun K2 hK => ?_) (AllReadyT.cons rfl (fun K2 hK => ?_) AllReadyT.nil)
              · refine eltD.stepAppS (wD.alloc (.cells #[] 37)) rfl (.tmp 47) (.tmp 52) rfl wD.heap.size (.slice (some ⟨wD.heap.size, 0, none⟩) 0 0) [] (by simp [Act.eval, Act.put]) HL1.out (by simp) ⟨g3, off4, none⟩ B2 (cap2 - 1) (by simp [Act.eval, Act.put]) HT1.out (by simp; omega) hS.size ?_; intro v7 w7 hne7 hrow7 hb7 hk7; rw [List.nil_append] at hrow7; obtain ⟨a7, c7, rfl⟩ := hrow7.slice; have hn7 := Lib.hid hne7; skip; have hS1 := hS.trans hb7; have HR7 := Lib.hid (And.intro hrow7 hS1); clear hne7 hrow7 hb7 hk7; refine hK.out _ _ (fun _ => hS1) ?_; clear hK K2 hS; have hS := hS1; clear hS1; (try simp only [Act.put, List.setIfInBounds_toArray, List.set_cons_zero, List.set_cons_succ])
                refine wpAnyT_ready (rs := [9]) (by kernel_rfl) (by simp) ?_
                refine AllReadyT.cons rfl (fun K2 hK => ?_) AllReadyT.nil
                go_simp; have hS1 := hS.alloc hS.size (.cells #[.int .i64 y.r.f, .int .i64 y.r.w, .int .i64 y.r.d, .slice y.a M y.cap] 37); refine hK.out _ _ (fun _ => hS1) ?_; clear hK K2 hS; have hS := hS1; clear hS1; have HE7 := Lib.hid (heap_alloc_new w7 (.cells #[.int .i64 y.r.f, .int .i64 y.r.w, .int .i64 y.r.d, .slice y.a M y.cap] 37))
                refine wpAnyT_ready (rs := [10]) (by kernel_rfl) (by simp) ?_
                refine AllReadyT.cons rfl (fun K2 hK => ?_) AllReadyT.nil
                refine eltD.stepAppS (w7.alloc (.cells #[.int .i64 y.r.f, .int .i64 y.r.w, .int .i64 y.r.d, .slice y.a M y.cap] 37)) rfl (.tmp 53) (.tmp 55) rfl wD.heap.size (.slice a7 B2.length c7) B2 (by simp [Act.eval, Act.put]) (HR7.out.1.below ((Below.refl _ _).alloc (Nat.le_refl _) _)) hn7.out ⟨w7.heap.size, 0, none⟩ [y] 1 (by simp [Act.eval, Act.put]) (HVW.out _ _ HE7.out) (by simp; omega) hS.size ?_; intro v10 w10 hne10 hrow10 hb10 hk10; obtain ⟨a10, c10, rfl⟩ := hrow10.slice; have hS1 := hS.trans hb10; have HR10 := Lib.hid (And.intro hrow10 hS1); obtain ⟨p5, p6, p7, p8, p9⟩ := HS1.out w10 hS1; obtain ⟨q0, q1, q2⟩ := HS2.out w10 hS1; clear hne10 hrow10 hb10 hk10; refine hK.out _ _ (fun _ => hS1) ?_; clear hK K2 hS; have hS := hS1; clear hS1; (try simp only [Act.put, List.setIfInBounds_toArray, List.set_cons_zero, List.set_cons_succ])
                refine wpAnyT_ready (rs := [11]) (by kernel_rfl) (by simp) ?_
                refine AllReadyT.cons rfl (fun K2 hK => ?_) AllReadyT.nil
                go_simp; have hS1 := hS; refine hK.out _ _ (fun _ => hS1) ?_; clear hK K2 hS; have hS := hS1; clear hS1
                refine wpAnyT_ready (rs := [12]) (by kernel_rfl) (by simp) ?_
                refine AllReadyT.cons rfl (fun K2 hK => ?_) AllReadyT.nil
                go_simp; have hS1 := hS; refine hK.out _ _ (fun _ => hS1) ?_; clear hK K2 hS; have hS := hS1; clear hS1
                refine wpAnyT_ready (rs := [13]) (by kernel_rfl) (by simp) ?_
                refine AllReadyT.cons rfl (fun K2 hK => ?_) AllReadyT.nil
                go_simp
                refine hK.out _ _ (fun h => absurd rfl h) ?_
                clear hK K2 hS
                refine wpAnyT_done (by kernel_rfl) ?_ _
                have HNX := Lib.hid (HTURN.out _ _ _ HR10.out.2 HR10.out.1)
                rw [show (B2 ++ [y]).length = B2.length + 1 by simp] at HNX
                clear HR10 p6 p7 p8 p9
                go_wp2
                go_roundg (Fl.meas s'.give.turn)
                case rel => exact ⟨_, Nat.le_refl _, HNX⟩
                case measure => exact HMS.out
              · go_simp; have hS1 := HB2.out; refine hK.out _ _ (fun _ => hS1) ?_; clear hK K2 hS; have hS := hS1; clear hS1
                refine wpAnyT_ready (rs := [7]) (by kernel_rfl) (by simp) ?_
                refine AllReadyT.cons rfl (fun K2 hK => ?_) AllReadyT.nil
                refine eltD.stepAppS ((wD.alloc (.cells #[] 37)).alloc (.cells #[.int .i64 y.r.f, .int .i64 y.r.w, .int .i64 y.r.d, .slice y.a M y.cap] 37)) rfl (.tmp 47) (.tmp 52) rfl wD.heap.size (.slice (some ⟨wD.heap.size, 0, none⟩) 0 0) [] (by simp [Act.eval, Act.put]) HL2.out (by simp) ⟨g3, off4, none⟩ B2 (cap2 - 1) (by simp [Act.eval, Act.put]) HT2.out (by simp; omega) hS.size ?_; intro v7 w7 hne7 hrow7 hb7 hk7; rw [List.nil_append] at hrow7; obtain ⟨a7, c7, rfl⟩ := hrow7.slice; have hn7 := Lib.hid hne7; have HE7 := Lib.hid ((hk7 (wD.heap.size + 1) (by simp) (by simp [Value.ownBlock])).trans HEL2.out); have hS1 := hS.trans hb7; have HR7 := Lib.hid (And.intro hrow7 hS1); clear hne7 hrow7 hb7 hk7; refine hK.out _ _ (fun _ => hS1) ?_; clear hK K2 hS; have hS := hS1; clear hS1; (try simp only [Act.put, List.setIfInBounds_toArray, List.set_cons_zero, List.set_cons_succ])
                refine wpAnyT_ready (rs := [10]) (by kernel_rfl) (by simp) ?_
                refine AllReadyT.cons rfl (fun K2 hK => ?_) AllReadyT.nil
                refine eltD.stepAppS (w7) rfl (.tmp 53) (.tmp 55) rfl wD.heap.size (.slice a7 B2.length c7) B2 (by simp [Act.eval, Act.put]) HR7.out.1 hn7.out ⟨wD.heap.size + 1, 0, none⟩ [y] 1 (by simp [Act.eval, Act.put]) (HVW.out _ _ HE7.out) (by simp; omega) hS.size ?_; intro v10 w10 hne10 hrow10 hb10 hk10; obtain ⟨a10, c10, rfl⟩ := hrow10.slice; have hS1 := hS.trans hb10; have HR10 := Lib.hid (And.intro hrow10 hS1); obtain ⟨p5, p6, p7, p8, p9⟩ := HS1.out w10 hS1; obtain ⟨q0, q1, q2⟩ := HS2.out w10 hS1; clear hne10 hrow10 hb10 hk10; refine hK.out _ _ (fun _ => hS1) ?_; clear hK K2 hS; have hS := hS1; clear hS1; (try simp only [Act.put, List.setIfInBounds_toArray, List.set_cons_zero, List.set_cons_succ])
                refine wpAnyT_ready (rs := [11]) (by kernel_rfl) (by simp) ?_
                refine AllReadyT.cons rfl (fun K2 hK => ?_) AllReadyT.nil
                go_simp; have hS1 := hS; refine hK.out _ _ (fun _ => hS1) ?_; clear hK K2 hS; have hS := hS1; clear hS1
                refine wpAnyT_ready (rs := [12]) (by kernel_rfl) (by simp) ?_
                refine AllReadyT.cons rfl (fun K2 hK => ?_) AllReadyT.nil
                go_simp; have hS1 := hS; refine hK.out _ _ (fun _ => hS1) ?_; clear hK K2 hS; have hS := hS1; clear hS1
                refine wpAnyT_ready (rs := [13]) (by kernel_rfl) (by simp) ?_
                refine AllReadyT.cons rfl (fun K2 hK => ?_) AllReadyT.nil
                go_simp
                refine hK.out _ _ (fun h => absurd rfl h) ?_
                clear hK K2 hS
                refine wpAnyT_done (by kernel_rfl) ?_ _
                have HNX := Lib.hid (HTURN.out _ _ _ HR10.out.2 HR10.out.1)
                rw [show (B2 ++ [y]).length = B2.length + 1 by simp] at HNX
                clear HR10 p6 p7 p8 p9
                go_wp2
                go_roundg (Fl.meas s'.give.turn)
                case rel => exact ⟨_, Nat.le_refl _, HNX⟩
                case measure => exact HMS.out
            · go_simp; have hS1 := HB3.out; refine hK.out _ _ (fun _ => hS1) ?_; clear hK K2 hS; have hS := hS1; clear hS1
              refine wpAnyT_ready (rs := [1]) (by kernel_rfl) (by simp) ?_
              refine AllReadyT.cons rfl (fun K2 hK => ?_) AllReadyT.nil
              go_simp; have hS1 := HB4.out; refine hK.out _ _ (fun _ => hS1) ?_; clear hK K2 hS; have hS := hS1; clear hS1
              refine wpAnyT_ready (rs := [7]) (by kernel_rfl) (by simp) ?_
              refine AllReadyT.cons rfl (fun K2 hK => ?_) AllReadyT.nil
              refine eltD.stepAppS ((wD.alloc (.cells #[.int .i64 y.r.f, .int .i64 y.r.w, .int .i64 y.r.d, .slice y.a M y.cap] 37)).alloc (.cells #[] 37)) rfl (.tmp 47) (.tmp 52) rfl wD.heap.size (.slice (some ⟨wD.heap.size + 1, 0, none⟩) 0 0) [] (by simp [Act.eval, Act.put]) HL3.out (by simp) ⟨g3, off4, none⟩ B2 (cap2 - 1) (by simp [Act.eval, Act.put]) HT3.out (by simp; omega) hS.size ?_; intro v7 w7 hne7 hrow7 hb7 hk7; rw [List.nil_append] at hrow7; obtain ⟨a7, c7, rfl⟩ := hrow7.slice; have hn7 := Lib.hid hne7; have HE7 := Lib.hid ((hk7 wD.heap.size (by simp; omega) (by simp [Value.ownBlock])).trans HEL3.out); have hS1 := hS.trans hb7; have HR7 := Lib.hid (And.intro hrow7 hS1); clear hne7 hrow7 hb7 hk7; refine hK.out _ _ (fun _ => hS1) ?_; clear hK K2 hS; have hS := hS1; clear hS1; (try simp only [Act.put, List.setIfInBounds_toArray, List.set_cons_zero, List.set_cons_succ])
              refine wpAnyT_ready (rs := [10]) (by kernel_rfl) (by simp) ?_
              refine AllReadyT.cons rfl (fun K2 hK => ?_) AllReadyT.nil
              refine eltD.stepAppS (w7) rfl (.tmp 53) (.tmp 55) rfl wD.heap.size (.slice a7 B2.length c7) B2 (by simp [Act.eval, Act.put]) HR7.out.1 hn7.out ⟨wD.heap.size, 0, none⟩ [y] 1 (by simp [Act.eval, Act.put]) (HVW.out _ _ HE7.out) (by simp; omega) hS.size ?_; intro v10 w10 hne10 hrow10 hb10 hk10; obtain ⟨a10, c10, rfl⟩ := hrow10.slice; have hS1 := hS.trans hb10; have HR10 := Lib.hid (And.intro hrow10 hS1); obtain ⟨p5, p6, p7, p8, p9⟩ := HS1.out w10 hS1; obtain ⟨q0, q1, q2⟩ := HS2.out w10 hS1; clear hne10 hrow10 hb10 hk10; refine hK.out _ _ (fun _ => hS1) ?_; clear hK K2 hS; have hS := hS1; clear hS1; (try simp only [Act.put, List.setIfInBounds_toArray, List.set_cons_zero, List.set_cons_succ])
              refine wpAnyT_ready (rs := [11]) (by kernel_rfl) (by simp) ?_
              refine AllReadyT.cons rfl (fun K2 hK => ?_) AllReadyT.nil
              go_simp; have hS1 := hS; refine hK.out _ _ (fun _ => hS1) ?_; clear hK K2 hS; have hS := hS1; clear hS1
              refine wpAnyT_ready (rs := [12]) (by kernel_rfl) (by simp) ?_
              refine AllReadyT.cons rfl (fun K2 hK => ?_) AllReadyT.nil
              go_simp; have hS1 := hS; refine hK.out _ _ (fun _ => hS1) ?_; clear hK K2 hS; have hS := hS1; clear hS1
              refine wpAnyT_ready (rs := [13]) (by kernel_rfl) (by simp) ?_
              refine AllReadyT.cons rfl (fun K2 hK => ?_) AllReadyT.nil
              go_simp
              refine hK.out _ _ (fun h => absurd rfl h) ?_
              clear hK K2 hS
              refine wpAnyT_done (by kernel_rfl) ?_ _
              have HNX := Lib.hid (HTURN.out _ _ _ HR10.out.2 HR10.out.1)
              rw [show (B2 ++ [y]).length = B2.length + 1 by simp] at HNX
              clear HR10 p6 p7 p8 p9
              go_wp2
              go_roundg (Fl.meas s'.give.turn)
              case rel => exact ⟨_, Nat.le_refl _, HNX⟩
              case measure => exact HMS.out
end Go.Proofs.Ytgeoebodlcbebaa

namespace Go.Proofs.Ytgeoebodlcbebaa
open Go.RowKit
set_option linter.unusedVariables false

theorem refPickC (V : Nat) (s : Fl.St) (D : Nat → Prop) (w : World) (h : RfIs w V s D) (hG : Fl.Good s) (hL : Fl.Lim 64 s) (hS : Fl.Small 90000 s) :
    Calls Try.prog 28 #[.pointer (some ⟨V, 0, none⟩)] w (RetRf (.bool s.takeV.isSome) V s.pick D w) := by
  by_cases hn : s.l = []
  · exact refPickNone V s D w h hn
  · exact refPickSome V s D w h hG hL hS hn
theorem RfIs.lt {w : World} {V : Nat} {s : Fl.St} {D : Nat → Prop} (h : RfIs w V s D) : ∀ k, D k → k < w.heap.size := by
  obtain ⟨a, cap, ds, h1, hD⟩ := h
  exact fun k hk => h1.lt k ((hD k).1 hk)
theorem RfIs.v {w : World} {V : Nat} {s : Fl.St} {D : Nat → Prop} (h : RfIs w V s D) : D V ∧ V < w.heap.size := by
  obtain ⟨a, cap, ds, h1, hD⟩ := h
  exact ⟨(hD V).2 (Or.inl rfl), lt_block h1.o⟩
theorem RfIs.keep {w w' : World} {V : Nat} {s : Fl.St} {D : Nat → Prop} (h : RfIs w V s D) (hz : w.heap.size ≤ w'.heap.size) (hk : ∀ k, D k → w'.heap[k]? = w.heap[k]?) : RfIs w' V s D := by
  obtain ⟨a, cap, ds, h1, hD⟩ := h
  exact ⟨a, cap, ds, h1.keep hz (fun k hf => hk k ((hD k).2 hf)), hD⟩
theorem RfIs.below {w w' : World} {V : Nat} {s : Fl.St} {D : Nat → Prop} (h : RfIs w V s D) (hb : Below w.heap.size w w') : RfIs w' V s D := h.keep hb.size (fun k hk => hb.block k (h.lt k hk))
/-- boxes made ahead of the call, written behind it -/
theorem RetRf.boxed {r v : Value} {V : Nat} {s' : Fl.St} {D : Nat → Prop} {w w0 w1 W : World} {e : Ending} (hD : ∀ k, D k → k < w.heap.size) (hV : V < w.heap.size) (hb : Below w.heap.size w w0) (hz : w.heap.size < w0.heap.size) (h : RetRf r V s' D w0 e w1) (hW : Chg (fun k => k = w.heap.size) w1 W) : RetRf v V s' D w (.returned v) W := by
  obtain ⟨D', h1, h3⟩ := h.s
  refine ⟨rfl, ⟨D', h1.keep hW.size (fun k hk => hW.block k (h1.lt k hk) (fun e => ?_)), fun k hk => ?_⟩, ((Chg.of_below (F := fun k => k = V) hb).trans h.c (fun k hk => Or.inl hk)).trans hW (fun k hk => Or.inr (by omega))⟩
  · rcases h3 k hk with e1 | e1
    · have := hD k e1; omega
    · omega
  · rcases h3 k hk with e1 | e1
    · exact Or.inl e1
    · right; omega
theorem drop_first {id co : Int} {rest : List Ff.E} (h : Ff.Good ((id, co) :: rest)) : Ff.drop ((id, co) :: rest) id = rest := by
  have := Ff.drop_mid (a := []) (b := rest) (e := (id, co)) h.nd
  simpa using this
set_option maxRecDepth 100000 in
set_option maxHeartbeats 4000000 in
theorem refTakeNone (V : Nat) (s : Fl.St) (D : Nat → Prop) (w : World) (h : RfIs w V s D) (hG : Fl.Good s) (hL : Fl.Lim 64 s) (hS : Fl.Small 90000 s) (ht : s.takeV = none) :
    Calls Try.prog 27 #[.pointer (some ⟨V, 0, none⟩)] w (RetRf (tkV s.takeV) V s.take D w) := by
  obtain ⟨hn, hk⟩ := Fl.take_none hG hL ht
  have hp : s.pick = s := Fl.pick_nil hn
  have hb0 : Below w.heap.size w (w.alloc zeroI) := (Below.refl _ _).alloc (Nat.le_refl _) _
  obtain ⟨_, hVw⟩ := h.v
  have hDl := h.lt
  have KP := Lib.hid ((refPickC V s D _ (h.below hb0) hG hL hS).mono (R' := fun e w1 => e = .returned (.bool false) ∧ w1.heap[w.heap.size]? = some zeroI ∧ Hid (∀ W, Chg (fun k => k = w.heap.size) w1 W → RetRf (tkV none) V s D w (.returned (tkV none)) W)) fun e w1 hr => by
    rw [ht, hp] at hr
    exact ⟨hr.r, hr.c.keep (heap_alloc_new _ _) (by show ¬ w.heap.size = V; omega), Lib.hid (fun W hW => hr.boxed hDl hVw hb0 (by simp) hW)⟩)
  rw [ht, hk]
  clear h hG hL hS ht hn hk hp hb0 hDl
  have hVn : w.heap.size ≠ V := by omega
  clear hVw
  go_enter Try.func27, Try.ntmps27
  go_wp2_with (go_at_call 28; (with_reducible refine KP.out.mono ?_); rintro e wA ⟨rfl, hX, hE⟩; obtain ⟨a0, a1⟩ := it_cells hX; have f0 := frozen_of _ w.heap.size 0 _ _ hX; have f1 := frozen_of _ w.heap.size 1 _ _ hX)
  refine bodyPost_ret (v := tkV none) ?_ rfl ?_
  · rw [results_tct rfl]; unfold tkV; go_simp; (try rfl)
  · exact hE.out _ (by first | exact ((Chg.refl (fun k => k = w.heap.size) _).setCell (p := ⟨w.heap.size, 0, none⟩) (Or.inl rfl) _).setCell (p := ⟨w.heap.size, 1, none⟩) (Or.inl rfl) _ | exact (((Chg.refl (fun k => k = w.heap.size) _).setCell (p := ⟨w.heap.size, 0, none⟩) (Or.inl rfl) _).setCell (p := ⟨w.heap.size, 1, none⟩) (Or.inl rfl) _).drew)
set_option maxRecDepth 100000 in
set_option maxHeartbeats 8000000 in
theorem refTakeSome (V : Nat) (s : Fl.St) (D : Nat → Prop) (w : World) (h : RfIs w V s D) (hG : Fl.Good s) (hL : Fl.Lim 64 s) (hS : Fl.Small 90000 s) (f id co : Int) (ht : s.takeV = some (f, (id, co))) :
    Calls Try.prog 27 #[.pointer (some ⟨V, 0, none⟩)] w (RetRf (tkV s.takeV) V s.take D w) := by
  obtain ⟨r, t, rest, hl, rfl, hi, hk⟩ := Fl.take_some ht
  obtain ⟨hpG, hpL, hpr⟩ := hG.pick hL
  have hpS := hS.pick hG hL
  have hok := hpG.ok r (by rw [hl]; simp)
  have hfit : co ≤ r.d := by
    have h2 := hpr
    unfold Fl.St.ready at h2
    rw [hl] at h2
    have h2 : (s.pick.g && r.fits) = true := h2
    rw [Bool.and_eq_true] at h2
    have h3 := h2.2
    unfold Fl.Rw.fits at h3
    rw [hi] at h3
    exact of_decide_eq_true h3
  have hco : 0 ≤ co ∧ co ≤ 64 := by
    have := hok.its.co (id, co) (by rw [hi]; simp)
    have h3 : (1 : Int) ≤ co ∧ co ≤ 64 := this
    omega
  have hd : r.d ≤ 64 + 64 * 16 := by
    have h3 := hpL.top r (by rw [hl]; rfl)
    have h4 := hok.w
    have h5 := hpG.q
    have h6 := qw_bound h5.1 h5.2 h4.1 h4.2
    split at h3 <;> omega
  have hwr : IntKind.i64.wrap (r.d - co) = r.d - co := by rw [IntKind.wrap_i64]; omega
  have hb0 : Below w.heap.size w (w.alloc zeroI) := (Below.refl _ _).alloc (Nat.le_refl _) _
  obtain ⟨_, hVw⟩ := h.v
  have hDl := h.lt
  have hli := hpS.its r (by rw [hl]; simp)
  have hKP : Calls Try.prog 28 #[.pointer (some ⟨V, 0, none⟩)] (w.alloc zeroI) fun e w1 => ∃ g off N cap wt d g2 off2 M oc L, e = .returned (.bool true) ∧ 0 < N ∧ 0 < M ∧ IntKind.i64.wrap (d - co) = d - co ∧ w1.cell? ⟨V, 1, none⟩ = some (.slice (some ⟨g, off, none⟩) N cap) ∧ (w1.cell? ⟨g, off, none⟩ = some (.int .i64 r.f) ∧ w1.cell? ⟨g, off + 1, none⟩ = some (.int .i64 wt) ∧ w1.cell? ⟨g, off + 2, none⟩ = some (.int .i64 d) ∧ w1.cell? ⟨g, off + 3, none⟩ = some (.slice (some ⟨g2, off2, none⟩) M oc)) ∧
      ((w1.alloc (.cells #[.int .i64 r.f, .int .i64 wt, .int .i64 d, .slice (some ⟨g2, off2, none⟩) M oc] 37)).cell? ⟨g2, off2, none⟩ = some (.int .i64 id) ∧ (w1.alloc (.cells #[.int .i64 r.f, .int .i64 wt, .int .i64 d, .slice (some ⟨g2, off2, none⟩) M oc] 37)).cell? ⟨g2, off2 + 1, none⟩ = some (.int .i64 co)) ∧
      Hid (Calls Try.prog 52 #[.slice (some ⟨g2, off2, none⟩) M oc, .int .i64 id] ((w1.alloc (.cells #[.int .i64 r.f, .int .i64 wt, .int .i64 d, .slice (some ⟨g2, off2, none⟩) M oc] 37)).alloc (.cells #[.int .i64 id, .int .i64 co] 48)) fun e w2 => ∃ a' cap', e = .returned (.slice a' L cap') ∧ (w2.cell? ⟨w1.heap.size, 0, none⟩ = some (.int .i64 r.f) ∧ w2.cell? ⟨w1.heap.size, 1, none⟩ = some (.int .i64 wt) ∧ w2.cell? ⟨w1.heap.size, 2, none⟩ = some (.int .i64 d) ∧ w2.cell? ⟨w1.heap.size, 3, none⟩ = some (.slice (some ⟨g2, off2, none⟩) M oc)) ∧ (w2.cell? ⟨w1.heap.size + 1, 0, none⟩ = some (.int .i64 id) ∧ w2.cell? ⟨w1.heap.size + 1, 1, none⟩ = some (.int .i64 co)) ∧ w2.frozen? ⟨w1.heap.size, 3, none⟩ = false ∧ w2.frozen? ⟨w1.heap.size, 2, none⟩ = false ∧
        Hid (Calls Try.prog 51 #[.pointer (some ⟨V, 0, none⟩), .int .i64 0, .agg #[.int .i64 r.f, .int .i64 wt, .int .i64 (d - co), .slice a' L cap']] ((w2.setCell ⟨w1.heap.size, 3, none⟩ (.slice a' L cap')).setCell ⟨w1.heap.size, 2, none⟩ (.int .i64 (d - co))) fun e w3 => e = .returned (.tuple #[]) ∧ w3.cell? ⟨w1.heap.size, 0, none⟩ = some (.int .i64 r.f) ∧ w3.heap[w1.heap.size + 1]? = some (itO id co) ∧ w3.heap[w.heap.size]? = some zeroI ∧ w1.heap.size + 1 ≠ w.heap.size ∧ w1.heap.size ≠ w.heap.size ∧ Hid (∀ W, Chg (fun k => k = w.heap.size) w3 W → RetRf (tkV (some (r.f, (id, co)))) V s.take D w (.returned (tkV (some (r.f, (id, co))))) W))) := by
    refine (refPickC V s D _ (h.below hb0) hG hL hS).mono fun e w1 hr => ?_
    obtain ⟨D1, ⟨a, cap, ds, h1, hD1⟩, h3⟩ := hr.s
    have he := hr.r
    rw [ht] at he
    cases ds with
    | nil => exact absurd h1.l.symm (by rw [hl]; simp)
    | cons o B =>
      have hor : o.r = r := by
        have := h1.l
        rw [hl] at this
        exact (List.cons.inj this).1
      subst hor
      obtain ⟨g, off, rfl, hg, hc⟩ := rows_at h1.v (by simp)
      obtain ⟨d0, d1, d2, d3⟩ := hc 0 (by simp)
      simp only [List.getElem_cons_zero, Nat.zero_mul, Nat.add_zero] at d0 d1 d2 d3
      have hi0 : 0 < o.r.its.length := by rw [hi]; simp
      have hdk := h1.d o (by simp)
      obtain ⟨g2, off2, ha2, hg2, hc2⟩ := hdk.v.is hi0
      have i0 := hc2 0 hi0 0 (.int .i64 id) (by simp [hi]; rfl)
      have i1 := hc2 0 hi0 1 (.int .i64 co) (by simp [hi]; rfl)
      rw [Nat.zero_mul, Nat.add_zero] at i0 i1
      rw [ha2] at d3
      have hw1 : w.heap.size < w1.heap.size := Nat.lt_of_lt_of_le (by simp) hr.c.size
      have hbA : Below w1.heap.size w1 (w1.alloc (drO o)) := (Below.refl _ _).alloc (Nat.le_refl _) _
      have hbB : Below w1.heap.size w1 ((w1.alloc (drO o)).alloc (itO id co)) := hbA.alloc (by simp) _
      have hdrO : drO o = .cells #[.int .i64 o.r.f, .int .i64 o.r.w, .int .i64 o.r.d, .slice (some ⟨g2, off2, none⟩) o.r.its.length o.cap] 37 := by show Obj.cells _ _ = _; rw [ha2]
      have hit : ∀ W, Below w1.heap.size w1 W → W.cell? ⟨g2, off2, none⟩ = some (.int .i64 id) ∧ W.cell? ⟨g2, off2 + 1, none⟩ = some (.int .i64 co) := fun W hW => ⟨(hW.cell (p := ⟨g2, _, none⟩) hg2).trans i0, (hW.cell (p := ⟨g2, _, none⟩) hg2).trans i1⟩
      refine ⟨g, off, (o :: B).length, cap, o.r.w, o.r.d, g2, off2, o.r.its.length, o.cap, rest.length, by simpa using he, by simp, hi0, hwr, h1.cs.2.1, ⟨d0, d1, d2, d3⟩, ?_, Lib.hid ?_⟩
      · rw [← hdrO]; exact hit _ hbA
      · rw [← hdrO, ← ha2]
        have hv1 : eltI.View ((w1.alloc (drO o)).alloc (itO id co)) o.a o.r.its := hdk.v.below hbB
        refine (refDropC id o.a o.cap o.r.its _ (by omega) hv1).mono fun e w2 hr2 => ?_
        obtain ⟨a', cap', rfl, hrow⟩ := hr2.s
        have hdf : Ff.drop o.r.its id = rest := by have := hok.its; rw [hi] at this ⊢; exact drop_first this
        rw [hdf] at hrow ⊢
        have hsz : ((w1.alloc (drO o)).alloc (itO id co)).heap.size = w1.heap.size + 2 := by simp
        have hX : w2.heap[w1.heap.size]? = some (drO o) := (hr2.b.block _ (by rw [hsz]; omega)).trans (heap_alloc2_old _ _ _)
        have hZ : w2.heap[w1.heap.size + 1]? = some (itO id co) := (hr2.b.block _ (by rw [hsz]; omega)).trans (heap_alloc2_new _ _ _)
        have hbw : Below w1.heap.size w1 w2 := hbB.trans (hr2.b.mono hbB.size)
        obtain ⟨ad, cd, e3, hfl, hz⟩ := hrow.flat0
        obtain ⟨rfl, rfl⟩ : a' = ad ∧ cap' = cd := by injection e3 with e1 e2 e3; exact ⟨e1, e3⟩
        have hne : ∀ g off sp, a' = some ⟨g, off, sp⟩ → w1.heap.size + 1 < g ∧ g < w2.heap.size := fun g off sp ha => by
          have := hrow.lt g (by rw [ha]; rfl)
          rw [hsz] at this
          omega
        obtain ⟨W3, hW3⟩ : ∃ W3, W3 = ((w2.setCell ⟨w1.heap.size, 3, none⟩ (.slice a' rest.length cap')).setCell ⟨w1.heap.size, 2, none⟩ (.int .i64 (o.r.d - co))) := ⟨_, rfl⟩
        have hc2' : Chg (fun k => k = V) w1 W3 := by
          rw [hW3]
          exact ((Chg.of_below (F := fun k => k = V) hbw).setCell (p := ⟨w1.heap.size, 3, none⟩) (Or.inr (Nat.le_refl _)) _).setCell (p := ⟨w1.heap.size, 2, none⟩) (Or.inr (Nat.le_refl _)) _
        have hoth : ∀ k, k ≠ w1.heap.size → W3.heap[k]? = w2.heap[k]? := fun k hk => by
          rw [hW3]
          exact (Below.heap_setCell _ _ _ _ hk).trans (Below.heap_setCell _ _ _ _ hk)
        have hz3 : w2.heap.size ≤ W3.heap.size := by rw [hW3]; simp [World.setCell]
        have hX3 : W3.heap[w1.heap.size]? = some (.cells #[.int .i64 o.r.f, .int .i64 o.r.w, .int .i64 (o.r.d - co), .slice a' rest.length cap'] 37) := by
          rw [hW3]
          exact setCell_block _ _ 2 _ _ _ (setCell_block w2 _ 3 _ _ _ hX)
        have hat : RfAt W3 V s.pick (some ⟨g, off, none⟩) cap (o :: B) := (h1.below hbw).keep hz3 (fun k hk => hoth k (fun e => by have := h1.lt k hk; omega))
        have hV1 : V < w1.heap.size := lt_block h1.o
        have hw := withC V s.pick _ cap [] B o ⟨{ o.r with d := o.r.d - co, its := rest }, a', cap'⟩ W3 (by have := hpS.l; rw [← h1.l] at this; simp at this ⊢; omega) hat ⟨View.keep hfl.view hz3 (fun h0 g' off' sp ha => hoth g' (by have := hne g' off' sp ha; omega)), hz⟩ (fun h0 g' off' sp ha => by have := hne g' off' sp ha; omega) rfl hpG.nd (by show rest.length ≤ 1000000; rw [hi] at hli; simp at hli; omega)
        refine ⟨a', cap', rfl, dr_cells hX, it_cells hZ, frozen_of _ _ _ _ _ hX, frozen_of _ _ _ _ _ hX, Lib.hid ?_⟩
        rw [← hW3]
        refine hw.mono fun e w3 hr3 => ⟨hr3.e, ?_, hr3.c.keep ((hoth _ (by omega)).trans hZ) (by show ¬ _ = V; omega), ?_, by omega, by omega, Lib.hid (fun W hW => ?_)⟩
        · have := hr3.c.keep hX3 (by show ¬ _ = V; omega)
          rw [cell_of_row _ _ _ _ _ _ this]; rfl
        · refine hr3.c.keep ((hoth _ (by omega)).trans ?_) (by show ¬ _ = V; omega)
          exact (hbw.block _ hw1).trans (hr.c.keep (heap_alloc_new _ _) (by show ¬ _ = V; omega))
        · have hR := RfAt.withR (w0 := w1) (D := D1) hD1 hr3 hc2' (fun g' off' sp ha h0 => Or.inr (by have := hne g' off' sp ha; omega)) (.bool true) hk.symm
          obtain ⟨D2, g1, g3⟩ := hR.s
          have hR0 : RetRf (.bool true) V s.take D (w.alloc zeroI) (.returned (.bool true)) w3 := ⟨rfl, ⟨D2, g1, fun k hk => by
            rcases g3 k hk with e1 | e1
            · exact h3 k e1
            · right; have := hr.c.size; omega⟩, hr.c.trans hR.c (fun k hk => Or.inl hk)⟩
          exact hR0.boxed hDl hVw hb0 (by simp) hW
  have KP := Lib.hid hKP
  rw [ht]
  clear hKP h hG hL hS ht hb0 hDl hli hwr hd hco hfit hok hpS hpr hpL hpG hk hi hl
  generalize r.f = f at *
  have hVn : w.heap.size ≠ V := by omega
  clear hVw
  go_enter Try.func27, Try.ntmps27
  go_wp2_with (first | (go_at_call 28; (with_reducible refine KP.out.mono ?_); rintro e wA ⟨g, off, N, cap, wt, d, g2, off2, M, oc, L, rfl, hN, hM, hwr, x1, ⟨d0, d1, d2, d3⟩, ⟨i0, i1⟩, hA⟩) | (go_at_call 52; (with_reducible refine hA.out.mono ?_); rintro e wB ⟨a', cap', rfl, ⟨y0, y1, y2, y3⟩, ⟨y4, y5⟩, z3, z2, hB⟩) | (go_at_call 51; (with_reducible refine hB.out.mono ?_); rintro e wC ⟨rfl, u0, hZ, hX, n1, n2, hE⟩; obtain ⟨b0, b1⟩ := it_cells hZ; obtain ⟨a0, a1⟩ := it_cells hX; have f0 := frozen_of _ w.heap.size 0 _ _ hX; have f1 := frozen_of _ w.heap.size 1 _ _ hX))
  go_region
  go_wp2
  refine bodyPost_ret (v := tkV (some (f, (id, co)))) ?_ rfl ?_
  · rw [results_tct rfl]; unfold tkV; go_simp; (try rfl)
  · exact hE.out _ (by first | exact ((Chg.refl (fun k => k = w.heap.size) _).setCell (p := ⟨w.heap.size, 0, none⟩) (Or.inl rfl) _).setCell (p := ⟨w.heap.size, 1, none⟩) (Or.inl rfl) _ | exact (((Chg.refl (fun k => k = w.heap.size) _).setCell (p := ⟨w.heap.size, 0, none⟩) (Or.inl rfl) _).setCell (p := ⟨w.heap.size, 1, none⟩) (Or.inl rfl) _).drew | exact (((Chg.refl (fun k => k = w.heap.size) _).drew.setCell (p := ⟨w.heap.size, 0, none⟩) (Or.inl rfl) _).setCell (p := ⟨w.heap.size, 1, none⟩) (Or.inl rfl) _))
theorem refTakeC (V : Nat) (s : Fl.St) (D : Nat → Prop) (w : World) (h : RfIs w V s D) (hG : Fl.Good s) (hL : Fl.Lim 64 s) (hS : Fl.Small 90000 s) :
    Calls Try.prog 27 #[.pointer (some ⟨V, 0, none⟩)] w (RetRf (tkV s.takeV) V s.take D w) := by
  cases ht : s.takeV with
  | none => rw [← ht]; exact refTakeNone V s D w h hG hL hS ht
  | some v =>
    obtain ⟨f, id, co⟩ := v
    rw [← ht]
    exact refTakeSome V s D w h hG hL hS f id co ht
end Go.Proofs.Ytgeoebodlcbebaa

namespace Go.Proofs.Ytgeoebodlcbebaa
open Go.RowKit
set_option linter.unusedVariables false
set_option linter.unusedSimpArgs false

set_option maxRecDepth 100000 in
set_option maxHeartbeats 16000000 in
theorem refSameRC (a b : Option Addr) (ca cb : Nat) (da db : List DR) (w : World) (hl : da.length ≤ 1000000) (hab : da.map DR.r = db.map DR.r) (hi : ∀ d ∈ da, d.r.its.length ≤ 1000000) (ha : eltD.View w a da) (hb : eltD.View w b db) (hda : ∀ d ∈ da, DOk w d) (hdb : ∀ d ∈ db, DOk w d) :
    Calls Try.prog 30 #[.slice a da.length ca, .slice b db.length cb] w (Ret (.bool true) w) := by
  have hlen : db.length = da.length := by simpa using (congrArg List.length hab).symm
  rw [hlen]
  have HA := Lib.hid ha
  have HB := Lib.hid hb
  have HDA := Lib.hid hda
  have HDB := Lib.hid hdb
  have HAB := Lib.hid hab
  have HI := Lib.hid hi
  have HLEN := Lib.hid hlen
  clear ha hb hda hdb hab hi hlen
  go_enter Try.func30, Try.ntmps30
  go_wp2
  go_loopw [5] (fun s wr => ∃ j : Nat, j ≤ da.length ∧ s = .int .i64 (j : Int) ∧ Hid (Below w.heap.size w wr)) (fun s _ => da.length - (intOf s).toNat)
  case atStart => exact ⟨0, by omega, rfl, Lib.hid (Below.refl _ _)⟩
  case round =>
    obtain ⟨j, hj, rfl, hn⟩ := hrel
    by_cases hlt : j < da.length
    · have hlt2 : j < db.length := by have := HLEN.out; omega
      obtain ⟨g, off, rfl, hg, hc⟩ := rows_at HA.out (by omega)
      obtain ⟨g2, off2, rfl, hg2, hc2⟩ := rows_at HB.out (by omega)
      obtain ⟨e0, e1, e2, e3⟩ := hc j hlt
      obtain ⟨f0, f1, f2, f3⟩ := hc2 j hlt2
      have hr : db[j].r = da[j].r := by
        have h1 : (da.map DR.r)[j]? = (db.map DR.r)[j]? := by rw [HAB.out]
        simp only [List.getElem?_map, List.getElem?_eq_getElem hlt, List.getElem?_eq_getElem hlt2, Option.map_some, Option.some.injEq] at h1
        exact h1.symm
      rw [hr] at f0 f1 f2 f3
      have KS := Lib.hid (fun W (hW : Below w.heap.size w W) => refSameC da[j].a db[j].a da[j].cap db[j].cap da[j].r.its W (HI.out _ (List.getElem_mem hlt)) ((HDA.out _ (List.getElem_mem hlt)).v.below hW) (by have := (HDB.out _ (List.getElem_mem hlt2)).v.below hW; rwa [hr] at this))
      have HS1 := Lib.hid (fun W (hW : Below w.heap.size w W) => (show (W.cell? ⟨g, off + j * 4, none⟩ = some (.int .i64 da[j].r.f) ∧ W.cell? ⟨g, off + j * 4 + 1, none⟩ = some (.int .i64 da[j].r.w) ∧ W.cell? ⟨g, off + j * 4 + 2, none⟩ = some (.int .i64 da[j].r.d) ∧ W.cell? ⟨g, off + j * 4 + 3, none⟩ = some (.slice da[j].a da[j].r.its.length da[j].cap)) ∧ W.cell? ⟨g2, off2 + j * 4, none⟩ = some (.int .i64 da[j].r.f) ∧ W.cell? ⟨g2, off2 + j * 4 + 1, none⟩ = some (.int .i64 da[j].r.w) ∧ W.cell? ⟨g2, off2 + j * 4 + 2, none⟩ = some (.int .i64 da[j].r.d) ∧ W.cell? ⟨g2, off2 + j * 4 + 3, none⟩ = some (.slice db[j].a da[j].r.its.length db[j].cap) from
        ⟨⟨(hW.cell (p := ⟨g, _, none⟩) hg).trans e0, (hW.cell (p := ⟨g, _, none⟩) hg).trans e1, (hW.cell (p := ⟨g, _, none⟩) hg).trans e2, (hW.cell (p := ⟨g, _, none⟩) hg).trans e3⟩, (hW.cell (p := ⟨g2, _, none⟩) hg2).trans f0, (hW.cell (p := ⟨g2, _, none⟩) hg2).trans f1, (hW.cell (p := ⟨g2, _, none⟩) hg2).trans f2, (hW.cell (p := ⟨g2, _, none⟩) hg2).trans f3⟩))
      clear hc hc2 hr e0 e1 e2 e3 f0 f1 f2 f3
      generalize da[j].r.f = vf at *
      generalize da[j].r.w = vw at *
      generalize da[j].r.d = vd at *
      generalize da[j].r.its.length = M at *
      generalize da[j].a = a1 at *
      generalize da[j].cap = c1 at *
      generalize db[j].a = a2 at *
      generalize db[j].cap = c2 at *
      have hS := hn.out.drew
      clear hn
      go_upto_region 6 with fail
      refine wp_region_any (by kernel_rfl) ?_
      change wpAny _ _ _ _ _ _ _ (World.drew _)
      refine wpAny_of_held (S := fun W => Below w.heap.size w W) _ _ _ _ ?_
      refine takeH 0 17 ?_ rfl rfl (by kernel_rfl) (by kernel_rfl) (by kernel_rfl) (fun _ _ _ h => h) (Or.inl ⟨by kernel_rfl, ?_⟩) hS ?_; rotate_left; (intro w' hw; skip; first | (go_simp; done) | (go_simp; with_reducible rfl)); rotate_left
      try simp only [List.setIfInBounds_toArray, List.set_cons_zero, List.set_cons_succ]
      refine takeH 1 18 ?_ rfl rfl (by kernel_rfl) (by kernel_rfl) (by kernel_rfl) (fun _ _ _ h => h) (Or.inl ⟨by kernel_rfl, ?_⟩) hS ?_; rotate_left; (intro w' hw; skip; first | (go_simp; done) | (go_simp; with_reducible rfl)); rotate_left
      try simp only [List.setIfInBounds_toArray, List.set_cons_zero, List.set_cons_succ]
      refine takeH 2 19 ?_ rfl rfl (by kernel_rfl) (by kernel_rfl) (by kernel_rfl) (fun _ _ _ h => h) (Or.inl ⟨by kernel_rfl, ?_⟩) hS ?_; rotate_left; (intro w' hw; skip; first | (go_simp; done) | (go_simp; with_reducible rfl)); rotate_left
      try simp only [List.setIfInBounds_toArray, List.set_cons_zero, List.set_cons_succ]
      refine takeH 3 20 ?_ rfl rfl (by kernel_rfl) (by kernel_rfl) (by kernel_rfl) (fun _ _ _ h => h) (Or.inl ⟨by kernel_rfl, ?_⟩) hS ?_; rotate_left; (intro w' hw; skip; first | (go_simp; done) | (go_simp; with_reducible rfl)); rotate_left
      try simp only [List.setIfInBounds_toArray, List.set_cons_zero, List.set_cons_succ]
      refine takeH 4 21 ?_ rfl rfl (by kernel_rfl) (by kernel_rfl) (by kernel_rfl) (fun _ _ _ h => h) (Or.inl ⟨by kernel_rfl, ?_⟩) hS ?_; rotate_left; (intro w' hw; obtain ⟨⟨z0, z1, z2, z3⟩, z4, z5, z6, z7⟩ := HS1.out _ hw; first | (go_simp; done) | (go_simp; with_reducible rfl)); rotate_left
      try simp only [List.setIfInBounds_toArray, List.set_cons_zero, List.set_cons_succ]
      refine takeH 5 22 ?_ rfl rfl (by kernel_rfl) (by kernel_rfl) (by kernel_rfl) (fun _ _ _ h => h) (Or.inl ⟨by kernel_rfl, ?_⟩) hS ?_; rotate_left; (intro w' hw; skip; first | (go_simp; done) | (go_simp; with_reducible rfl)); rotate_left
      try simp only [List.setIfInBounds_toArray, List.set_cons_zero, List.set_cons_succ]
      refine takeH 6 23 ?_ rfl rfl (by kernel_rfl) (by kernel_rfl) (by kernel_rfl) (fun _ _ _ h => h) (Or.inl ⟨by kernel_rfl, ?_⟩) hS ?_; rotate_left; (intro w' hw; skip; first | (go_simp; done) | (go_simp; with_reducible rfl)); rotate_left
      try simp only [List.setIfInBounds_toArray, List.set_cons_zero, List.set_cons_succ]
      refine takeH 7 24 ?_ rfl rfl (by kernel_rfl) (by kernel_rfl) (by kernel_rfl) (fun _ _ _ h => h) (Or.inl ⟨by kernel_rfl, ?_⟩) hS ?_; rotate_left; (intro w' hw; skip; first | (go_simp; done) | (go_simp; with_reducible rfl)); rotate_left
      try simp only [List.setIfInBounds_toArray, List.set_cons_zero, List.set_cons_succ]
      refine takeH 8 25 ?_ rfl rfl (by kernel_rfl) (by kernel_rfl) (by kernel_rfl) (fun _ _ _ h => h) (Or.inl ⟨by kernel_rfl, ?_⟩) hS ?_; rotate_left; (intro w' hw; skip; first | (go_simp; done) | (go_simp; with_reducible rfl)); rotate_left
      try simp only [List.setIfInBounds_toArray, List.set_cons_zero, List.set_cons_succ]
      refine takeH 9 26 ?_ rfl rfl (by kernel_rfl) (by kernel_rfl) (by kernel_rfl) (fun _ _ _ h => h) (Or.inl ⟨by kernel_rfl, ?_⟩) hS ?_; rotate_left; (intro w' hw; obtain ⟨⟨z0, z1, z2, z3⟩, z4, z5, z6, z7⟩ := HS1.out _ hw; first | (go_simp; done) | (go_simp; with_reducible rfl)); rotate_left
      try simp only [List.setIfInBounds_toArray, List.set_cons_zero, List.set_cons_succ]
      refine takeH 10 27 (.bool false) rfl rfl (by kernel_rfl) (by kernel_rfl) (by kernel_rfl) (fun _ _ _ h => h) (Or.inl ⟨by kernel_rfl, ?_⟩) hS ?_; focus (intro w' hw; skip; first | (go_simp; done) | (go_simp; with_reducible rfl))
      try simp only [List.setIfInBounds_toArray, List.set_cons_zero, List.set_cons_succ]
      refine takeH 11 28 ?_ rfl rfl (by kernel_rfl) (by kernel_rfl) (by kernel_rfl) (fun _ _ _ h => h) (Or.inl ⟨by kernel_rfl, ?_⟩) hS ?_; rotate_left; (intro w' hw; skip; first | (go_simp; done) | (go_simp; with_reducible rfl)); rotate_left
      try simp only [List.setIfInBounds_toArray, List.set_cons_zero, List.set_cons_succ]
      refine takeH 12 29 ?_ rfl rfl (by kernel_rfl) (by kernel_rfl) (by kernel_rfl) (fun _ _ _ h => h) (Or.inl ⟨by kernel_rfl, ?_⟩) hS ?_; rotate_left; (intro w' hw; skip; first | (go_simp; done) | (go_simp; with_reducible rfl)); rotate_left
      try simp only [List.setIfInBounds_toArray, List.set_cons_zero, List.set_cons_succ]
      refine takeH 13 30 ?_ rfl rfl (by kernel_rfl) (by kernel_rfl) (by kernel_rfl) (fun _ _ _ h => h) (Or.inl ⟨by kernel_rfl, ?_⟩) hS ?_; rotate_left; (intro w' hw; skip; first | (go_simp; done) | (go_simp; with_reducible rfl)); rotate_left
      try simp only [List.setIfInBounds_toArray, List.set_cons_zero, List.set_cons_succ]
      refine takeH 14 31 ?_ rfl rfl (by kernel_rfl) (by kernel_rfl) (by kernel_rfl) (fun _ _ _ h => h) (Or.inl ⟨by kernel_rfl, ?_⟩) hS ?_; rotate_left; (intro w' hw; skip; first | (go_simp; done) | (go_simp; with_reducible rfl)); rotate_left
      try simp only [List.setIfInBounds_toArray, List.set_cons_zero, List.set_cons_succ]
      refine takeH 15 32 ?_ rfl rfl (by kernel_rfl) (by kernel_rfl) (by kernel_rfl) (fun _ _ _ h => h) (Or.inl ⟨by kernel_rfl, ?_⟩) hS ?_; rotate_left; (intro w' hw; skip; first | (go_simp; done) | (go_simp; with_reducible rfl)); rotate_left
      try simp only [List.setIfInBounds_toArray, List.set_cons_zero, List.set_cons_succ]
      refine takeH 16 33 ?_ rfl rfl (by kernel_rfl) (by kernel_rfl) (by kernel_rfl) (fun _ _ _ h => h) (Or.inl ⟨by kernel_rfl, ?_⟩) hS ?_; rotate_left; (intro w' hw; obtain ⟨⟨z0, z1, z2, z3⟩, z4, z5, z6, z7⟩ := HS1.out _ hw; first | (go_simp; done) | (go_simp; with_reducible rfl)); rotate_left
      try simp only [List.setIfInBounds_toArray, List.set_cons_zero, List.set_cons_succ]
      refine takeH 17 34 ?_ rfl rfl (by kernel_rfl) (by kernel_rfl) (by kernel_rfl) (fun _ _ _ h => h) (Or.inl ⟨by kernel_rfl, ?_⟩) hS ?_; rotate_left; (intro w' hw; skip; first | (go_simp; done) | (go_simp; with_reducible rfl)); rotate_left
      try simp only [List.setIfInBounds_toArray, List.set_cons_zero, List.set_cons_succ]
      refine takeH 18 35 ?_ rfl rfl (by kernel_rfl) (by kernel_rfl) (by kernel_rfl) (fun _ _ _ h => h) (Or.inl ⟨by kernel_rfl, ?_⟩) hS ?_; rotate_left; (intro w' hw; skip; first | (go_simp; done) | (go_simp; with_reducible rfl)); rotate_left
      try simp only [List.setIfInBounds_toArray, List.set_cons_zero, List.set_cons_succ]
      refine takeH 19 36 ?_ rfl rfl (by kernel_rfl) (by kernel_rfl) (by kernel_rfl) (fun _ _ _ h => h) (Or.inl ⟨by kernel_rfl, ?_⟩) hS ?_; rotate_left; (intro w' hw; skip; first | (go_simp; done) | (go_simp; with_reducible rfl)); rotate_left
      try simp only [List.setIfInBounds_toArray, List.set_cons_zero, List.set_cons_succ]
      refine takeH 20 37 ?_ rfl rfl (by kernel_rfl) (by kernel_rfl) (by kernel_rfl) (fun _ _ _ h => h) (Or.inl ⟨by kernel_rfl, ?_⟩) hS ?_; rotate_left; (intro w' hw; skip; first | (go_simp; done) | (go_simp; with_reducible rfl)); rotate_left
      try simp only [List.setIfInBounds_toArray, List.set_cons_zero, List.set_cons_succ]
      refine takeH 21 38 ?_ rfl rfl (by kernel_rfl) (by kernel_rfl) (by kernel_rfl) (fun _ _ _ h => h) (Or.inl ⟨by kernel_rfl, ?_⟩) hS ?_; rotate_left; (intro w' hw; obtain ⟨⟨z0, z1, z2, z3⟩, z4, z5, z6, z7⟩ := HS1.out _ hw; first | (go_simp; done) | (go_simp; with_reducible rfl)); rotate_left
      try simp only [List.setIfInBounds_toArray, List.set_cons_zero, List.set_cons_succ]
      refine takeH 22 39 (.bool false) rfl rfl (by kernel_rfl) (by kernel_rfl) (by kernel_rfl) (fun _ _ _ h => h) (Or.inl ⟨by kernel_rfl, ?_⟩) hS ?_; focus (intro w' hw; skip; first | (go_simp; done) | (go_simp; with_reducible rfl))
      try simp only [List.setIfInBounds_toArray, List.set_cons_zero, List.set_cons_succ]
      refine takeH 23 40 (.bool false) rfl rfl (by kernel_rfl) (by kernel_rfl) (by kernel_rfl) (fun _ _ _ h => h) (Or.inl ⟨by kernel_rfl, ?_⟩) hS ?_; focus (intro w' hw; skip; first | (go_simp; done) | (go_simp; with_reducible rfl))
      try simp only [List.setIfInBounds_toArray, List.set_cons_zero, List.set_cons_succ]
      refine takeH 24 41 ?_ rfl rfl (by kernel_rfl) (by kernel_rfl) (by kernel_rfl) (fun _ _ _ h => h) (Or.inl ⟨by kernel_rfl, ?_⟩) hS ?_; rotate_left; (intro w' hw; skip; first | (go_simp; done) | (go_simp; with_reducible rfl)); rotate_left
      try simp only [List.setIfInBounds_toArray, List.set_cons_zero, List.set_cons_succ]
      refine takeH 25 42 ?_ rfl rfl (by kernel_rfl) (by kernel_rfl) (by kernel_rfl) (fun _ _ _ h => h) (Or.inl ⟨by kernel_rfl, ?_⟩) hS ?_; rotate_left; (intro w' hw; skip; first | (go_simp; done) | (go_simp; with_reducible rfl)); rotate_left
      try simp only [List.setIfInBounds_toArray, List.set_cons_zero, List.set_cons_succ]
      refine takeH 26 43 ?_ rfl rfl (by kernel_rfl) (by kernel_rfl) (by kernel_rfl) (fun _ _ _ h => h) (Or.inl ⟨by kernel_rfl, ?_⟩) hS ?_; rotate_left; (intro w' hw; skip; first | (go_simp; done) | (go_simp; with_reducible rfl)); rotate_left
      try simp only [List.setIfInBounds_toArray, List.set_cons_zero, List.set_cons_succ]
      refine takeH 27 44 ?_ rfl rfl (by kernel_rfl) (by kernel_rfl) (by kernel_rfl) (fun _ _ _ h => h) (Or.inl ⟨by kernel_rfl, ?_⟩) hS ?_; rotate_left; (intro w' hw; skip; first | (go_simp; done) | (go_simp; with_reducible rfl)); rotate_left
      try simp only [List.setIfInBounds_toArray, List.set_cons_zero, List.set_cons_succ]
      refine takeH 28 45 ?_ rfl rfl (by kernel_rfl) (by kernel_rfl) (by kernel_rfl) (fun _ _ _ h => h) (Or.inl ⟨by kernel_rfl, ?_⟩) hS ?_; rotate_left; (intro w' hw; skip; first | (go_simp; done) | (go_simp; with_reducible rfl)); rotate_left
      try simp only [List.setIfInBounds_toArray, List.set_cons_zero, List.set_cons_succ]
      refine takeH 29 46 ?_ rfl rfl (by kernel_rfl) (by kernel_rfl) (by kernel_rfl) (fun _ _ _ h => h) (Or.inl ⟨by kernel_rfl, ?_⟩) hS ?_; rotate_left; (intro w' hw; obtain ⟨⟨z0, z1, z2, z3⟩, z4, z5, z6, z7⟩ := HS1.out _ hw; first | (go_simp; done) | (go_simp; with_reducible rfl)); rotate_left
      try simp only [List.setIfInBounds_toArray, List.set_cons_zero, List.set_cons_succ]
      refine takeH 30 47 ?_ rfl rfl (by kernel_rfl) (by kernel_rfl) (by kernel_rfl) (fun _ _ _ h => h) (Or.inl ⟨by kernel_rfl, ?_⟩) hS ?_; rotate_left; (intro w' hw; skip; first | (go_simp; done) | (go_simp; with_reducible rfl)); rotate_left
      try simp only [List.setIfInBounds_toArray, List.set_cons_zero, List.set_cons_succ]
      refine takeH 31 48 ?_ rfl rfl (by kernel_rfl) (by kernel_rfl) (by kernel_rfl) (fun _ _ _ h => h) (Or.inl ⟨by kernel_rfl, ?_⟩) hS ?_; rotate_left; (intro w' hw; skip; first | (go_simp; done) | (go_simp; with_reducible rfl)); rotate_left
      try simp only [List.setIfInBounds_toArray, List.set_cons_zero, List.set_cons_succ]
      refine takeH 32 49 ?_ rfl rfl (by kernel_rfl) (by kernel_rfl) (by kernel_rfl) (fun _ _ _ h => h) (Or.inl ⟨by kernel_rfl, ?_⟩) hS ?_; rotate_left; (intro w' hw; skip; first | (go_simp; done) | (go_simp; with_reducible rfl)); rotate_left
      try simp only [List.setIfInBounds_toArray, List.set_cons_zero, List.set_cons_succ]
      refine takeH 33 50 ?_ rfl rfl (by kernel_rfl) (by kernel_rfl) (by kernel_rfl) (fun _ _ _ h => h) (Or.inl ⟨by kernel_rfl, ?_⟩) hS ?_; rotate_left; (intro w' hw; skip; first | (go_simp; done) | (go_simp; with_reducible rfl)); rotate_left
      try simp only [List.setIfInBounds_toArray, List.set_cons_zero, List.set_cons_succ]
      refine takeH 34 51 ?_ rfl rfl (by kernel_rfl) (by kernel_rfl) (by kernel_rfl) (fun _ _ _ h => h) (Or.inl ⟨by kernel_rfl, ?_⟩) hS ?_; rotate_left; (intro w' hw; obtain ⟨⟨z0, z1, z2, z3⟩, z4, z5, z6, z7⟩ := HS1.out _ hw; first | (go_simp; done) | (go_simp; with_reducible rfl)); rotate_left
      try simp only [List.setIfInBounds_toArray, List.set_cons_zero, List.set_cons_succ]
      refine takeH 35 52 (.bool false) rfl rfl (by kernel_rfl) (by kernel_rfl) (by kernel_rfl) (fun _ _ _ h => h) (Or.inl ⟨by kernel_rfl, ?_⟩) hS ?_; focus (intro w' hw; skip; first | (go_simp; done) | (go_simp; with_reducible rfl))
      try simp only [List.setIfInBounds_toArray, List.set_cons_zero, List.set_cons_succ]
      refine takeH 36 53 (.bool false) rfl rfl (by kernel_rfl) (by kernel_rfl) (by kernel_rfl) (fun _ _ _ h => h) (Or.inl ⟨by kernel_rfl, ?_⟩) hS ?_; focus (intro w' hw; skip; first | (go_simp; done) | (go_simp; with_reducible rfl))
      try simp only [List.setIfInBounds_toArray, List.set_cons_zero, List.set_cons_succ]
      refine takeH 37 54 ?_ rfl rfl (by kernel_rfl) (by kernel_rfl) (by kernel_rfl) (fun _ _ _ h => h) (Or.inl ⟨by kernel_rfl, ?_⟩) hS ?_; rotate_left; (intro w' hw; skip; first | (go_simp; done) | (go_simp; with_reducible rfl)); rotate_left
      try simp only [List.setIfInBounds_toArray, List.set_cons_zero, List.set_cons_succ]
      refine takeH 38 55 ?_ rfl rfl (by kernel_rfl) (by kernel_rfl) (by kernel_rfl) (fun _ _ _ h => h) (Or.inl ⟨by kernel_rfl, ?_⟩) hS ?_; rotate_left; (intro w' hw; skip; first | (go_simp; done) | (go_simp; with_reducible rfl)); rotate_left
      try simp only [List.setIfInBounds_toArray, List.set_cons_zero, List.set_cons_succ]
      refine takeH 39 56 ?_ rfl rfl (by kernel_rfl) (by kernel_rfl) (by kernel_rfl) (fun _ _ _ h => h) (Or.inl ⟨by kernel_rfl, ?_⟩) hS ?_; rotate_left; (intro w' hw; skip; first | (go_simp; done) | (go_simp; with_reducible rfl)); rotate_left
      try simp only [List.setIfInBounds_toArray, List.set_cons_zero, List.set_cons_succ]
      refine takeH 40 57 ?_ rfl rfl (by kernel_rfl) (by kernel_rfl) (by kernel_rfl) (fun _ _ _ h => h) (Or.inl ⟨by kernel_rfl, ?_⟩) hS ?_; rotate_left; (intro w' hw; skip; first | (go_simp; done) | (go_simp; with_reducible rfl)); rotate_left
      try simp only [List.setIfInBounds_toArray, List.set_cons_zero, List.set_cons_succ]
      refine takeH 41 58 ?_ rfl rfl (by kernel_rfl) (by kernel_rfl) (by kernel_rfl) (fun _ _ _ h => h) (Or.inl ⟨by kernel_rfl, ?_⟩) hS ?_; rotate_left; (intro w' hw; skip; first | (go_simp; done) | (go_simp; with_reducible rfl)); rotate_left
      try simp only [List.setIfInBounds_toArray, List.set_cons_zero, List.set_cons_succ]
      refine takeH 42 59 ?_ rfl rfl (by kernel_rfl) (by kernel_rfl) (by kernel_rfl) (fun _ _ _ h => h) (Or.inl ⟨by kernel_rfl, ?_⟩) hS ?_; rotate_left; (intro w' hw; obtain ⟨⟨z0, z1, z2, z3⟩, z4, z5, z6, z7⟩ := HS1.out _ hw; first | (go_simp; done) | (go_simp; with_reducible rfl)); rotate_left
      try simp only [List.setIfInBounds_toArray, List.set_cons_zero, List.set_cons_succ]
      refine takeH 43 60 ?_ rfl rfl (by kernel_rfl) (by kernel_rfl) (by kernel_rfl) (fun _ _ _ h => h) (Or.inl ⟨by kernel_rfl, ?_⟩) hS ?_; rotate_left; (intro w' hw; skip; first | (go_simp; done) | (go_simp; with_reducible rfl)); rotate_left
      try simp only [List.setIfInBounds_toArray, List.set_cons_zero, List.set_cons_succ]
      refine takeH 44 61 ?_ rfl rfl (by kernel_rfl) (by kernel_rfl) (by kernel_rfl) (fun _ _ _ h => h) (Or.inl ⟨by kernel_rfl, ?_⟩) hS ?_; rotate_left; (intro w' hw; skip; first | (go_simp; done) | (go_simp; with_reducible rfl)); rotate_left
      try simp only [List.setIfInBounds_toArray, List.set_cons_zero, List.set_cons_succ]
      refine takeH 45 62 ?_ rfl rfl (by kernel_rfl) (by kernel_rfl) (by kernel_rfl) (fun _ _ _ h => h) (Or.inl ⟨by kernel_rfl, ?_⟩) hS ?_; rotate_left; (intro w' hw; skip; first | (go_simp; done) | (go_simp; with_reducible rfl)); rotate_left
      try simp only [List.setIfInBounds_toArray, List.set_cons_zero, List.set_cons_succ]
      refine takeH 46 63 ?_ rfl rfl (by kernel_rfl) (by kernel_rfl) (by kernel_rfl) (fun _ _ _ h => h) (Or.inl ⟨by kernel_rfl, ?_⟩) hS ?_; rotate_left; (intro w' hw; skip; first | (go_simp; done) | (go_simp; with_reducible rfl)); rotate_left
      try simp only [List.setIfInBounds_toArray, List.set_cons_zero, List.set_cons_succ]
      refine takeH 47 64 ?_ rfl rfl (by kernel_rfl) (by kernel_rfl) (by kernel_rfl) (fun _ _ _ h => h) (Or.inl ⟨by kernel_rfl, ?_⟩) hS ?_; rotate_left; (intro w' hw; obtain ⟨⟨z0, z1, z2, z3⟩, z4, z5, z6, z7⟩ := HS1.out _ hw; first | (go_simp; done) | (go_simp; with_reducible rfl)); rotate_left
      try simp only [List.setIfInBounds_toArray, List.set_cons_zero, List.set_cons_succ]
      refine wpAnyH_ready (rs := [48]) (by kernel_rfl) (by simp) ?_; refine AllReadyH.cons rfl (fun K2 hK => ?_) AllReadyH.nil; go_simp; go_wp2_with (go_at_call 54; (with_reducible refine (KS.out _ hS).mono ?_); rintro e wA ⟨rfl, hA⟩); have hS1 := hS.trans (hA.mono hS.size); refine hK.out _ _ ?_ (fun _ => ?_); (exact hS1); clear hK K2 hS hA; have hS := hS1; clear hS1
      refine takeH 49 66 (.bool false) rfl rfl (by kernel_rfl) (by kernel_rfl) (by kernel_rfl) (fun _ _ _ h => h) (Or.inl ⟨by kernel_rfl, ?_⟩) hS ?_; focus (intro w' hw; skip; first | (go_simp; done) | (go_simp; with_reducible rfl))
      try simp only [List.setIfInBounds_toArray, List.set_cons_zero, List.set_cons_succ]
      refine takeH 50 67 (.bool false) rfl rfl (by kernel_rfl) (by kernel_rfl) (by kernel_rfl) (fun _ _ _ h => h) (Or.inl ⟨by kernel_rfl, ?_⟩) hS ?_; focus (intro w' hw; skip; first | (go_simp; done) | (go_simp; with_reducible rfl))
      try simp only [List.setIfInBounds_toArray, List.set_cons_zero, List.set_cons_succ]
      refine wpAnyH_done (by kernel_rfl) ?_ _
      have HB2 := Lib.hid hS
      clear hS KS HS1
      go_wp2
      go_roundw
      case rel => exact ⟨j + 1, by omega, by go_num, HB2⟩
      case measure => simp [intOf]; omega
    · obtain rfl : j = da.length := by omega
      go_wp2
      go_ret
      exact ⟨rfl, hn.out⟩
end Go.Proofs.Ytgeoebodlcbebaa
