/-
  The law FlowFair.
-/
import Derived.Test.YtgeoebodlcbebaaFcC
import Derived.Deep.CutBlock
namespace Go.Proofs.Ytgeoebodlcbebaa
open Go.RowKit
open Fl (Lk Mo St Wt Run costN)
set_option linter.unusedVariables false
set_option linter.unusedSimpArgs false

abbrev actK (kd f wt id co : Int) : Obj := .cells #[.int .i64 kd, .int .i64 f, .int .i64 wt, .int .i64 id, .int .i64 co] 32
theorem actK_cells {w : World} {Q : Nat} {kd f wt id co : Int} (h : w.heap[Q]? = some (actK kd f wt id co)) : w.cell? ⟨Q, 0, none⟩ = some (.int .i64 kd) ∧ w.cell? ⟨Q, 1, none⟩ = some (.int .i64 f) ∧ w.cell? ⟨Q, 2, none⟩ = some (.int .i64 wt) ∧ w.cell? ⟨Q, 3, none⟩ = some (.int .i64 id) ∧ w.cell? ⟨Q, 4, none⟩ = some (.int .i64 co) :=
  ⟨by rw [cell_of_row w _ _ _ _ _ h]; rfl, by rw [cell_of_row w _ _ _ _ _ h]; rfl, by rw [cell_of_row w _ _ _ _ _ h]; rfl, by rw [cell_of_row w _ _ _ _ _ h]; rfl, by rw [cell_of_row w _ _ _ _ _ h]; rfl⟩
def wtI (wt : Nat → Int) : Int → Int := fun f => wt f.toNat
theorem wtI_nat (wt : Nat → Int) (i : Nat) : wtI wt (i : Int) = wt i := by simp [wtI]
abbrev m00 (q : Int) : Mo := ⟨⟨q, [], false⟩, fun _ => 0, fun _ => 0⟩
theorem look00 (q : Int) : lkC (look (m00 q)) = zK := rfl
/-- at first -/
theorem fq2_start {w wA : World} {P X4 : Nat} {q : Int} {wt : Nat → Int} {F : Nat → Prop} (hX : X4 = w.heap.size) (h4 : wA.heap[X4]? = some (box4 wt)) (hb : Below w.heap.size w wA) (hF : FIs wA (X4 + 1) P ⟨q, [], false⟩ F) (hz : X4 + 1 ≤ wA.heap.size) (h1 : 1 ≤ q) (h2 : q ≤ 64) :
    FQ w P 0 (m00 q).s wA.heap.size (look (m00 q)) (.slice (some ⟨wA.heap.size + 1, 0, none⟩) 1 1) [look (m00 q)] [(X4, box4 wt)] (((wA.alloc (.cells zK 42)).setRow wA.heap.size (lkC (look (m00 q)))).alloc (.cells (lkC (look (m00 q))) 42)) := by
  obtain ⟨W1, hW1⟩ : ∃ W1, W1 = (wA.alloc (.cells zK 42)).setRow wA.heap.size (lkC (look (m00 q))) := ⟨_, rfl⟩
  have hb1 : Below wA.heap.size wA W1 := by rw [hW1]; exact madeK_below _ _
  have hs1 : W1.heap.size = wA.heap.size + 1 := by rw [hW1]; simp
  have hx1 : W1.heap[wA.heap.size]? = some (boxL (look (m00 q))) := by rw [hW1]; exact madeK_box _ _
  rw [← hW1, ← hs1]
  have hb2 : Below W1.heap.size W1 (W1.alloc (.cells (lkC (look (m00 q))) 42)) := (Below.refl _ _).alloc (Nat.le_refl _) _
  have hbA : Below wA.heap.size wA (W1.alloc (.cells (lkC (look (m00 q))) 42)) := hb1.trans (hb2.mono hb1.size)
  obtain ⟨g1, g2, g3⟩ := good_empty h1 h2
  have hlt4 := lt_block h4
  refine ⟨⟨F, (hF.base (by omega)).below hbA, fun hf => by have := (hF.lt _ hf).2; omega, fun g hg hf => ?_, fun p hp => ?_⟩, hb.trans (hbA.mono hb.size), g1, g2, g3, (hb2.block _ (by omega)).trans hx1, Elt.Row.made W1 w.heap.size (by omega) [look (m00 q)] (by simp) (lkC (look (m00 q))) 1 rfl (by simp [Elt.cells, eltK]), fun e => ?_, by omega⟩
  · have e : W1.heap.size = g := by simpa [Value.ownBlock] using hg
    have := (hF.lt _ hf).2; omega
  · obtain rfl : p = (X4, box4 wt) := by simpa using hp
    refine ⟨(hbA.block _ hlt4).trans h4, fun hf => by have := (hF.lt _ hf).1; omega, by omega, fun e => ?_⟩
    have e : W1.heap.size = X4 := by simpa [Value.ownBlock] using e
    omega
  · have e : W1.heap.size = wA.heap.size := by simpa [Value.ownBlock] using e
    omega
/-- behind an act, ahead of the waits -/
def half (m m' : Mo) (u : Nat) : Lk := ⟨(look m').T, (look m').D, fun z => if z < u then (look m').W z else (look m).W z⟩
theorem half_zero (m m' : Mo) : half m m' 0 = ⟨(look m').T, (look m').D, (look m).W⟩ := by unfold half; simp
theorem half_next (m m' : Mo) {u : Nat} (hu : u < 4) : lkC (setW (half m m' u) u ((look m').W u)) = lkC (half m m' (u + 1)) :=
  lkC_congr (fun _ _ => rfl) (fun _ _ => rfl) (fun i _ => by
    show (if i = u then (look m').W u else if i < u then (look m').W i else (look m).W i) = if i < u + 1 then (look m').W i else (look m).W i
    by_cases e : i = u
    · subst e; simp
    · rw [if_neg e]
      by_cases e2 : i < u
      · rw [if_pos e2, if_pos (by omega)]
      · rw [if_neg e2, if_neg (by omega)])
theorem half_four (m m' : Mo) : lkC (half m m' 4) = lkC (look m') :=
  lkC_congr (fun _ _ => rfl) (fun _ _ => rfl) (fun i hi => by
    show (if i < 4 then (look m').W i else (look m).W i) = (look m').W i
    rw [if_pos hi])
theorem half0 {m m' : Mo} (hT : ∀ i : Nat, i < 4 → m'.T i = m.T i) (hD : ∀ i : Nat, i < 4 → m'.D i = m.D i) : lkC (look m) = lkC (half m m' 0) :=
  lkC_congr (fun i hi => (hT i hi).symm) (fun i hi => (hD i hi).symm) (fun i _ => by simp [half])
theorem half0T {m m' : Mo} {g : Nat} {v : Int} (hT : ∀ i : Nat, i < 4 → m'.T i = if i = g then v else m.T i) (hD : ∀ i : Nat, i < 4 → m'.D i = m.D i) : lkC (setT (look m) g v) = lkC (half m m' 0) :=
  lkC_congr (fun i hi => (hT i hi).symm) (fun i hi => (hD i hi).symm) (fun i _ => by simp [half, setT])
theorem half0D {m m' : Mo} {g : Nat} {v : Int} (hT : ∀ i : Nat, i < 4 → m'.T i = m.T i) (hD : ∀ i : Nat, i < 4 → m'.D i = if i = g then v else m.D i) : lkC (setD (look m) g v) = lkC (half m m' 0) :=
  lkC_congr (fun i hi => (hT i hi).symm) (fun i hi => (hD i hi).symm) (fun i _ => by simp [half, setD])
set_option maxRecDepth 100000 in
set_option maxHeartbeats 32000000 in
theorem fair_at (q : Int) (wt : Nat → Int) (a : Option Addr) (len cap : Nat) (t : Nat → Fl.Ac) (w : World) (h1 : 1 ≤ q) (h2 : q ≤ 64) (hl : len ≤ 150) (h : ActAt w a len t) : Calls Try.prog 4 #[.int .i64 q, .agg (w4 wt), .slice a len cap] w (Ret (.bool true) w) := by
  have hb0 : Below w.heap.size w (w.alloc (box4 wt)) := (Below.refl _ _).alloc (Nat.le_refl _) _
  have hz0 : (w.alloc (box4 wt)).heap.size = w.heap.size + 1 := by simp
  obtain ⟨X4, hX4⟩ : ∃ X4, X4 = w.heap.size := ⟨_, rfl⟩
  have K0 := Lib.hid ((flNewC q (w.alloc (box4 wt)) h1 h2).mono (R' := fun e w' => ∃ P, e = .returned (.pointer (some ⟨P, 0, none⟩)) ∧ Hid (w'.heap[X4]? = some (box4 wt) ∧ Below w.heap.size w w' ∧ X4 + 1 ≤ w'.heap.size ∧ ∃ F, FIs w' (X4 + 1) P ⟨q, [], false⟩ F)) fun e w' hr => by
    obtain ⟨P, F, rfl, hf⟩ := hr.s
    have hbw := hr.b
    rw [hz0] at hf hbw
    refine ⟨P, rfl, Lib.hid ⟨?_, hb0.trans (hbw.mono (by omega)), ?_, F, ?_⟩⟩
    · rw [hbw.block X4 (by omega), hX4]; exact heap_alloc_new _ _
    · have := hbw.size; rw [hz0] at this; omega
    · rw [hX4]; exact hf)
  have KL := Lib.hid (fun W => liveOk W)
  have KN := Lib.hid (fun e W => numC e W)
  have HA0 := Lib.hid h
  have HQ : Hid (1 ≤ q ∧ q ≤ 64) := Lib.hid ⟨h1, h2⟩
  have HX4 := Lib.hid hX4
  clear h hb0 hz0 hX4 h1 h2
  go_enter Try.func4, Try.ntmps4
  go_upto_region 4 with (go_at_call 7; (with_reducible refine K0.out.mono ?_); rintro e wA ⟨P, rfl, hA⟩)
  rw [← HX4.out]
  clear K0
  go_wp2
  go_loop [8] (fun s => ∃ i : Nat, i ≤ 4 ∧ s = .int .i64 (i : Int) ∧ Hid (∀ u : Nat, u < i → 1 ≤ wt u ∧ wt u ≤ 16)) (fun s => 4 - (intOf s).toNat)
  case atStart => exact ⟨0, by omega, rfl, Lib.hid (fun u hu => by omega)⟩
  case round =>
    obtain ⟨i, hi, rfl, hst⟩ := hrel
    by_cases hi4 : i < 4
    · have ti : (i : Int) < 4 := by omega
      have c0 := cell4 hA.out.1 hi4
      have HN : Hid (1 ≤ wt i → wt i ≤ 16 → ∀ u : Nat, u < i + 1 → 1 ≤ wt u ∧ wt u ≤ 16) := Lib.hid (fun h1 h2 u hu => by
        by_cases e : u = i
        · subst e; exact ⟨h1, h2⟩
        · exact hst.out u (by omega))
      have HBA := Lib.hid hA.out.2.1
      generalize wt i = wi at *
      clear hst
      by_cases g1 : wi < 1
      · clear HN hA
        go_wp2_with (go_at_call 8; (with_reducible refine (KL.out _).mono ?_); rintro e wL ⟨rfl, hL⟩)
        go_ret
        exact ⟨rfl, HBA.out.trans (hL.mono HBA.out.size)⟩
      · by_cases g2 : wi > 16
        · clear HN hA
          go_wp2_with (go_at_call 8; (with_reducible refine (KL.out _).mono ?_); rintro e wL ⟨rfl, hL⟩)
          go_ret
          exact ⟨rfl, HBA.out.trans (hL.mono HBA.out.size)⟩
        · have HN2 := Lib.hid (HN.out (by omega) (by omega))
          clear HN
          go_wp2
          go_round
          case rel => exact ⟨i + 1, by omega, by go_num, HN2⟩
          case measure => simp [intOf]; omega
    · obtain rfl : i = 4 := by omega
      have HWT := hst
      clear hst hi hi4
      have HFQ := Lib.hid (fq2_start HX4.out hA.out.1 hA.out.2.1 hA.out.2.2.2.choose_spec hA.out.2.2.1 HQ.out.1 HQ.out.2)
      have HRUN0 := Lib.hid (Run.start (wtI wt) HQ.out.1 HQ.out.2)
      have HWI : Hid (∀ i : Nat, i < 4 → 1 ≤ wtI wt i ∧ wtI wt i ≤ 16) := Lib.hid (fun i hi => by rw [wtI_nat]; exact HWT.out i hi)
      clear hA
      go_wp2_with (first | (refine wpStoreK rfl _ _ rfl wA.heap.size (look (m00 q)) rfl rfl zK (heap_alloc_new _ _) rfl ?_) | (refine wpLoadK _ rfl rfl wA.heap.size rfl (look (m00 q)) (madeK_box _ _) ?_) | (refine wpOneK rfl _ rfl (look (m00 q)) rfl ?_))
      go_loopg [10, 11, 12] len (fun gk o cs i wr => ∃ (k : Nat) (C : Int) (L : List Mo) (n : Nat) (m : Mo), k ≤ len ∧ gk = len - k ∧ i = .int .i64 (k : Int) ∧ cs = .int .i64 C ∧ n ≤ k ∧ Hid (FQ w P n m.s wA.heap.size (look m) o (L.map look) [(X4, box4 wt)] wr ∧ Run (wtI wt) q C L n m))
      case atStart => exact ⟨0, 1, _, 0, _, by omega, rfl, rfl, rfl, Nat.le_refl _, Lib.hid ⟨HFQ.out, HRUN0.out⟩⟩
      case round =>
        obtain ⟨k, C, L, n, m, hk, rfl, rfl, rfl, hnk, hst⟩ := hrel
        clear HFQ HRUN0
        generalize wA.heap.size = X9 at *
        by_cases hlt : k < len
        · rcases HA0.out with h | ⟨b, off, rfl, hg, hc⟩
          · omega
          obtain ⟨e0, e1, e2, e3, e4, hwf, hwi⟩ := hc k hlt
          obtain ⟨ac, hac⟩ : ∃ ac, ac = t k := ⟨_, rfl⟩
          rw [← hac] at e0 e1 e2 e3 e4 hwf hwi
          obtain ⟨kd, f0, w0, id0, co0⟩ := ac
          dsimp only at e0 e1 e2 e3 e4 hwf hwi
          have hbw := hst.out.1.b
          have a0 := (hbw.cell (p := ⟨b, _, none⟩) hg).trans e0
          have a1 := (hbw.cell (p := ⟨b, _, none⟩) hg).trans e1
          have a2 := (hbw.cell (p := ⟨b, _, none⟩) hg).trans e2
          have a3 := (hbw.cell (p := ⟨b, _, none⟩) hg).trans e3
          have a4 := (hbw.cell (p := ⟨b, _, none⟩) hg).trans e4
          obtain ⟨W1, hW1⟩ : ∃ W1, W1 = wr.alloc (actK kd f0 w0 id0 co0) := ⟨_, rfl⟩
          have HB1 : Hid (FQ w P n m.s X9 (look m) u10 (L.map look) [(wr.heap.size, actK kd f0 w0 id0 co0), (X4, box4 wt)] W1) := Lib.hid (by rw [hW1]; exact hst.out.1.box _)
          have HRU := Lib.hid hst.out.2
          have HW1 := Lib.hid hW1
          obtain ⟨X13, hX13⟩ : ∃ X13, X13 = wr.heap.size := ⟨_, rfl⟩
          have HX13 := Lib.hid hX13
          rw [← hX13] at HB1
          obtain ⟨b0, b1, b2, b3, b4⟩ := actK_cells (HB1.out.at_ (j := X13) (List.mem_cons_self ..))
          clear e0 e1 e2 e3 e4 hc hac hbw hW1 hX13 hst
          by_cases hf : f0 < 0 ∨ f0 > 3
          · have HE := Lib.hid (HB1.out.fewer (bx' := [(X4, box4 wt)]) (fun p hp => List.mem_cons_of_mem _ hp))
            rcases hf with hf | hf
            · have t1 : decide (f0 < 0) = true := decide_eq_true hf
              clear hf HB1
              go_upto_region 16 with fail
              rw [← HX13.out]
              rw [← HW1.out]
              clear a0 a1 a2 a3 a4
              go_wp2
              go_roundg (len - (k + 1))
              case rel => exact ⟨k + 1, C, L, n, m, by omega, rfl, by go_num, rfl, by omega, Lib.hid ⟨HE.out, HRU.out⟩⟩
              case measure => omega
            · have t1 : decide (f0 < 0) = false := decide_eq_false (by omega)
              have t2 : decide (f0 > 3) = true := decide_eq_true hf
              clear hf HB1
              go_upto_region 16 with fail
              rw [← HX13.out]
              rw [← HW1.out]
              clear a0 a1 a2 a3 a4
              go_wp2
              go_roundg (len - (k + 1))
              case rel => exact ⟨k + 1, C, L, n, m, by omega, rfl, by go_num, rfl, by omega, Lib.hid ⟨HE.out, HRU.out⟩⟩
              case measure => omega
          · obtain ⟨fn, hfn⟩ : ∃ fn : Nat, f0 = (fn : Int) := ⟨f0.toNat, by omega⟩
            subst hfn
            have hf4 : fn < 4 := by omega
            have tf : (fn : Int) < 4 := by omega
            have HRN := Lib.hid (Run.next HRU.out kd (f := (fn : Int)) (id := id0) (by omega) (wf_i64 hwi).2 co0)
            have t1 : decide ((fn : Int) < 0) = false := decide_eq_false (by omega)
            have t2 : decide ((fn : Int) > 3) = false := decide_eq_false (by omega)
            clear hf
            go_upto_region 16 with fail
            rw [← HX13.out]
            rw [← HW1.out]
            clear a0 a1 a2 a3 a4
            go_upto_block 4 with fail
            go_cut [11, 14, 15, 16] from 66 to 134 (fun s11 s14 s15 s16 wx => s11 = .int .i64 (costN (wtI wt) C m kd fn id0 co0) ∧ Hid (FQ w P (n + 1) (m.next (wtI wt) kd fn id0 co0).s X9 (half m (m.next (wtI wt) kd fn id0 co0) 0) u10 (L.map look) [(X13, actK kd fn w0 id0 co0), (X4, box4 wt)] wx))
            case first =>
              clear HRN KL
              obtain ⟨W2, hW2⟩ : ∃ W2, W2 = W1.drew := ⟨_, rfl⟩
              by_cases h0 : kd = 0
              · subst h0
                have HM : Hid (m.next (wtI wt) 0 fn id0 co0 = { m with s := m.s.push fn (wt fn) id0 co0 }) := Lib.hid (by unfold Mo.next; rw [if_pos rfl, wtI_nat])
                have HC : Hid (costN (wtI wt) C m 0 fn id0 co0 = if m.s.pushE fn (wt fn) id0 co0 = 0 then max C co0 else C) := Lib.hid (by unfold costN; rw [wtI_nat]; simp)
                have hq2 := HB1.out.below (show Below W1.heap.size W1 W2 by rw [hW2]; exact (Below.refl _ _).drew)
                have KP := Lib.hid (fq2_push fn (wt fn) id0 co0 W2 hq2 hwf hwi (by omega))
                have hS : W2.heap[X13]? = some (actK 0 ((fn : Nat) : Int) w0 id0 co0) ∧ W2.heap[X4]? = some (box4 wt) := ⟨hq2.at_ (List.mem_cons_self ..), hq2.at_ (List.mem_cons_of_mem _ (List.mem_cons_self ..))⟩
                have HS1 := Lib.hid (fun (W : World) (hW : W.heap[X13]? = some (actK 0 ((fn : Nat) : Int) w0 id0 co0) ∧ W.heap[X4]? = some (box4 wt)) => by
                  obtain ⟨y0, y1, y2, y3, y4⟩ := actK_cells hW.1
                  exact (show W.cell? ⟨X13, 1, none⟩ = some (.int .i64 ((fn : Nat) : Int)) ∧ W.cell? ⟨X13, 3, none⟩ = some (.int .i64 id0) ∧ W.cell? ⟨X13, 4, none⟩ = some (.int .i64 co0) ∧ W.cell? ⟨X4, fn, none⟩ = some (.int .i64 (wt fn)) from ⟨y1, y3, y4, cell4 hW.2 hf4⟩))
                have HWD := Lib.hid hW2
                generalize m.s.pushE fn (wt fn) id0 co0 = PE at *
                generalize wt fn = wf at *
                clear hq2 hW2 HRU HB1
                by_cases hp : PE = 0
                · subst hp
                  go_upto_region 21 with fail
                  clear b0 b1 b2 b3 b4
                  refine wp_region_any (by kernel_rfl) ?_
                  change wpAny _ _ _ _ _ _ _ (World.drew _)
                  rw [← HWD.out]
                  refine wpAny_of_held (S := fun W => W.heap[X13]? = some (actK 0 ((fn : Nat) : Int) w0 id0 co0) ∧ W.heap[X4]? = some (box4 wt)) _ _ _ _ ?_
                  refine takeH 0 84 ?_ rfl rfl (by kernel_rfl) (by kernel_rfl) (by kernel_rfl) (fun _ _ _ h => h) (Or.inl ⟨by kernel_rfl, ?_⟩) hS ?_; rotate_left; (intro w' hw; skip; first | (go_simp; done) | (go_simp; with_reducible rfl)); rotate_left
                  try simp only [List.setIfInBounds_toArray, List.set_cons_zero, List.set_cons_succ]
                  refine takeH 1 85 ?_ rfl rfl (by kernel_rfl) (by kernel_rfl) (by kernel_rfl) (fun _ _ _ h => h) (Or.inl ⟨by kernel_rfl, ?_⟩) hS ?_; rotate_left; (intro w' hw; skip; first | (go_simp; done) | (go_simp; with_reducible rfl)); rotate_left
                  try simp only [List.setIfInBounds_toArray, List.set_cons_zero, List.set_cons_succ]
                  refine takeH 2 86 ?_ rfl rfl (by kernel_rfl) (by kernel_rfl) (by kernel_rfl) (fun _ _ _ h => h) (Or.inl ⟨by kernel_rfl, ?_⟩) hS ?_; rotate_left; (intro w' hw; obtain ⟨z0, z1, z2, z3⟩ := HS1.out _ hw; first | (go_simp; done) | (go_simp; with_reducible rfl)); rotate_left
                  try simp only [List.setIfInBounds_toArray, List.set_cons_zero, List.set_cons_succ]
                  refine takeH 3 87 ?_ rfl rfl (by kernel_rfl) (by kernel_rfl) (by kernel_rfl) (fun _ _ _ h => h) (Or.inl ⟨by kernel_rfl, ?_⟩) hS ?_; rotate_left; (intro w' hw; skip; first | (go_simp; done) | (go_simp; with_reducible rfl)); rotate_left
                  try simp only [List.setIfInBounds_toArray, List.set_cons_zero, List.set_cons_succ]
                  refine takeH 4 88 ?_ rfl rfl (by kernel_rfl) (by kernel_rfl) (by kernel_rfl) (fun _ _ _ h => h) (Or.inl ⟨by kernel_rfl, ?_⟩) hS ?_; rotate_left; (intro w' hw; obtain ⟨z0, z1, z2, z3⟩ := HS1.out _ hw; first | (go_simp; done) | (go_simp; with_reducible rfl)); rotate_left
                  try simp only [List.setIfInBounds_toArray, List.set_cons_zero, List.set_cons_succ]
                  refine takeH 5 89 ?_ rfl rfl (by kernel_rfl) (by kernel_rfl) (by kernel_rfl) (fun _ _ _ h => h) (Or.inl ⟨by kernel_rfl, ?_⟩) hS ?_; rotate_left; (intro w' hw; skip; first | (go_simp; done) | (go_simp; with_reducible rfl)); rotate_left
                  try simp only [List.setIfInBounds_toArray, List.set_cons_zero, List.set_cons_succ]
                  refine takeH 6 90 ?_ rfl rfl (by kernel_rfl) (by kernel_rfl) (by kernel_rfl) (fun _ _ _ h => h) (Or.inl ⟨by kernel_rfl, ?_⟩) hS ?_; rotate_left; (intro w' hw; obtain ⟨z0, z1, z2, z3⟩ := HS1.out _ hw; first | (go_simp; done) | (go_simp; with_reducible rfl)); rotate_left
                  try simp only [List.setIfInBounds_toArray, List.set_cons_zero, List.set_cons_succ]
                  refine takeH 7 91 ?_ rfl rfl (by kernel_rfl) (by kernel_rfl) (by kernel_rfl) (fun _ _ _ h => h) (Or.inl ⟨by kernel_rfl, ?_⟩) hS ?_; rotate_left; (intro w' hw; skip; first | (go_simp; done) | (go_simp; with_reducible rfl)); rotate_left
                  try simp only [List.setIfInBounds_toArray, List.set_cons_zero, List.set_cons_succ]
                  refine takeH 8 92 ?_ rfl rfl (by kernel_rfl) (by kernel_rfl) (by kernel_rfl) (fun _ _ _ h => h) (Or.inl ⟨by kernel_rfl, ?_⟩) hS ?_; rotate_left; (intro w' hw; obtain ⟨z0, z1, z2, z3⟩ := HS1.out _ hw; first | (go_simp; done) | (go_simp; with_reducible rfl)); rotate_left
                  try simp only [List.setIfInBounds_toArray, List.set_cons_zero, List.set_cons_succ]
                  refine takeH 9 93 ?_ rfl rfl (by kernel_rfl) (by kernel_rfl) (by kernel_rfl) (fun _ _ _ h => h) (Or.inl ⟨by kernel_rfl, ?_⟩) hS ?_; rotate_left; (intro w' hw; skip; first | (go_simp; done) | (go_simp; with_reducible rfl)); rotate_left
                  try simp only [List.setIfInBounds_toArray, List.set_cons_zero, List.set_cons_succ]
                  refine takeH 10 94 ?_ rfl rfl (by kernel_rfl) (by kernel_rfl) (by kernel_rfl) (fun _ _ _ h => h) (Or.inl ⟨by kernel_rfl, ?_⟩) hS ?_; rotate_left; (intro w' hw; obtain ⟨z0, z1, z2, z3⟩ := HS1.out _ hw; first | (go_simp; done) | (go_simp; with_reducible rfl)); rotate_left
                  try simp only [List.setIfInBounds_toArray, List.set_cons_zero, List.set_cons_succ]
                  refine takeH 11 95 ?_ rfl rfl (by kernel_rfl) (by kernel_rfl) (by kernel_rfl) (fun _ _ _ h => h) (Or.inl ⟨by kernel_rfl, ?_⟩) hS ?_; rotate_left; (intro w' hw; skip; first | (go_simp; done) | (go_simp; with_reducible rfl)); rotate_left
                  try simp only [List.setIfInBounds_toArray, List.set_cons_zero, List.set_cons_succ]
                  refine wpAnyH_ready (rs := [12]) (by kernel_rfl) (by simp) ?_; refine AllReadyH.cons rfl (fun K2 hK => ?_) AllReadyH.nil; go_simp; go_wp2_with (go_at_call 15; (with_reducible refine KP.out.mono ?_); rintro e wP ⟨rfl, hP⟩); have hS1 := And.intro (hP.at_ (j := X13) (List.mem_cons_self ..)) (hP.at_ (j := X4) (List.mem_cons_of_mem _ (List.mem_cons_self ..))); refine hK.out _ _ ?_ (fun _ => ?_); (exact hS1); clear hK K2 hS; have hS := hS1; clear hS1
                  refine wpAnyH_ready (rs := [13]) (by kernel_rfl) (by simp) ?_; refine AllReadyH.cons rfl (fun K2 hK => ?_) AllReadyH.nil; go_simp; go_wp2_with (go_at_call 14; (with_reducible refine (KN.out _ _).mono ?_); rintro e wN ⟨rfl, rfl⟩); have hS1 := hS; refine hK.out _ _ ?_ (fun _ => ?_); (exact hS1); clear hK K2 hS; have hS := hS1; clear hS1
                  refine takeH 14 98 (.bool true) rfl rfl (by kernel_rfl) (by kernel_rfl) (by kernel_rfl) (fun _ _ _ h => h) (Or.inl ⟨by kernel_rfl, ?_⟩) hS ?_; focus (intro w' hw; skip; first | (go_simp; done) | (go_simp; with_reducible rfl))
                  try simp only [List.setIfInBounds_toArray, List.set_cons_zero, List.set_cons_succ]
                  refine wpAnyH_done (by kernel_rfl) ?_ _
                  obtain ⟨b0, b1, b2, b3, b4⟩ := actK_cells hS.1
                  have HE := Lib.hid hP
                  clear hS HS1 KP hP
                  go_wp2
                  all_goals
                    rename_i hmx
                    go_meet
                    refine ⟨?_, Lib.hid ?_⟩
                    · rw [HC.out]
                      simp only [if_true]
                      congr 1
                      omega
                    · rw [HM.out]; exact HE.out.like (half0 (fun _ _ => rfl) (fun _ _ => rfl))
                · have HP9 := Lib.hid hp
                  go_upto_region 21 with fail
                  clear b0 b1 b2 b3 b4
                  refine wp_region_any (by kernel_rfl) ?_
                  change wpAny _ _ _ _ _ _ _ (World.drew _)
                  rw [← HWD.out]
                  refine wpAny_of_held (S := fun W => W.heap[X13]? = some (actK 0 ((fn : Nat) : Int) w0 id0 co0) ∧ W.heap[X4]? = some (box4 wt)) _ _ _ _ ?_
                  refine takeH 0 84 ?_ rfl rfl (by kernel_rfl) (by kernel_rfl) (by kernel_rfl) (fun _ _ _ h => h) (Or.inl ⟨by kernel_rfl, ?_⟩) hS ?_; rotate_left; (intro w' hw; skip; first | (go_simp; done) | (go_simp; with_reducible rfl)); rotate_left
                  try simp only [List.setIfInBounds_toArray, List.set_cons_zero, List.set_cons_succ]
                  refine takeH 1 85 ?_ rfl rfl (by kernel_rfl) (by kernel_rfl) (by kernel_rfl) (fun _ _ _ h => h) (Or.inl ⟨by kernel_rfl, ?_⟩) hS ?_; rotate_left; (intro w' hw; skip; first | (go_simp; done) | (go_simp; with_reducible rfl)); rotate_left
                  try simp only [List.setIfInBounds_toArray, List.set_cons_zero, List.set_cons_succ]
                  refine takeH 2 86 ?_ rfl rfl (by kernel_rfl) (by kernel_rfl) (by kernel_rfl) (fun _ _ _ h => h) (Or.inl ⟨by kernel_rfl, ?_⟩) hS ?_; rotate_left; (intro w' hw; obtain ⟨z0, z1, z2, z3⟩ := HS1.out _ hw; first | (go_simp; done) | (go_simp; with_reducible rfl)); rotate_left
                  try simp only [List.setIfInBounds_toArray, List.set_cons_zero, List.set_cons_succ]
                  refine takeH 3 87 ?_ rfl rfl (by kernel_rfl) (by kernel_rfl) (by kernel_rfl) (fun _ _ _ h => h) (Or.inl ⟨by kernel_rfl, ?_⟩) hS ?_; rotate_left; (intro w' hw; skip; first | (go_simp; done) | (go_simp; with_reducible rfl)); rotate_left
                  try simp only [List.setIfInBounds_toArray, List.set_cons_zero, List.set_cons_succ]
                  refine takeH 4 88 ?_ rfl rfl (by kernel_rfl) (by kernel_rfl) (by kernel_rfl) (fun _ _ _ h => h) (Or.inl ⟨by kernel_rfl, ?_⟩) hS ?_; rotate_left; (intro w' hw; obtain ⟨z0, z1, z2, z3⟩ := HS1.out _ hw; first | (go_simp; done) | (go_simp; with_reducible rfl)); rotate_left
                  try simp only [List.setIfInBounds_toArray, List.set_cons_zero, List.set_cons_succ]
                  refine takeH 5 89 ?_ rfl rfl (by kernel_rfl) (by kernel_rfl) (by kernel_rfl) (fun _ _ _ h => h) (Or.inl ⟨by kernel_rfl, ?_⟩) hS ?_; rotate_left; (intro w' hw; skip; first | (go_simp; done) | (go_simp; with_reducible rfl)); rotate_left
                  try simp only [List.setIfInBounds_toArray, List.set_cons_zero, List.set_cons_succ]
                  refine takeH 6 90 ?_ rfl rfl (by kernel_rfl) (by kernel_rfl) (by kernel_rfl) (fun _ _ _ h => h) (Or.inl ⟨by kernel_rfl, ?_⟩) hS ?_; rotate_left; (intro w' hw; obtain ⟨z0, z1, z2, z3⟩ := HS1.out _ hw; first | (go_simp; done) | (go_simp; with_reducible rfl)); rotate_left
                  try simp only [List.setIfInBounds_toArray, List.set_cons_zero, List.set_cons_succ]
                  refine takeH 7 91 ?_ rfl rfl (by kernel_rfl) (by kernel_rfl) (by kernel_rfl) (fun _ _ _ h => h) (Or.inl ⟨by kernel_rfl, ?_⟩) hS ?_; rotate_left; (intro w' hw; skip; first | (go_simp; done) | (go_simp; with_reducible rfl)); rotate_left
                  try simp only [List.setIfInBounds_toArray, List.set_cons_zero, List.set_cons_succ]
                  refine takeH 8 92 ?_ rfl rfl (by kernel_rfl) (by kernel_rfl) (by kernel_rfl) (fun _ _ _ h => h) (Or.inl ⟨by kernel_rfl, ?_⟩) hS ?_; rotate_left; (intro w' hw; obtain ⟨z0, z1, z2, z3⟩ := HS1.out _ hw; first | (go_simp; done) | (go_simp; with_reducible rfl)); rotate_left
                  try simp only [List.setIfInBounds_toArray, List.set_cons_zero, List.set_cons_succ]
                  refine takeH 9 93 ?_ rfl rfl (by kernel_rfl) (by kernel_rfl) (by kernel_rfl) (fun _ _ _ h => h) (Or.inl ⟨by kernel_rfl, ?_⟩) hS ?_; rotate_left; (intro w' hw; skip; first | (go_simp; done) | (go_simp; with_reducible rfl)); rotate_left
                  try simp only [List.setIfInBounds_toArray, List.set_cons_zero, List.set_cons_succ]
                  refine takeH 10 94 ?_ rfl rfl (by kernel_rfl) (by kernel_rfl) (by kernel_rfl) (fun _ _ _ h => h) (Or.inl ⟨by kernel_rfl, ?_⟩) hS ?_; rotate_left; (intro w' hw; obtain ⟨z0, z1, z2, z3⟩ := HS1.out _ hw; first | (go_simp; done) | (go_simp; with_reducible rfl)); rotate_left
                  try simp only [List.setIfInBounds_toArray, List.set_cons_zero, List.set_cons_succ]
                  refine takeH 11 95 ?_ rfl rfl (by kernel_rfl) (by kernel_rfl) (by kernel_rfl) (fun _ _ _ h => h) (Or.inl ⟨by kernel_rfl, ?_⟩) hS ?_; rotate_left; (intro w' hw; skip; first | (go_simp; done) | (go_simp; with_reducible rfl)); rotate_left
                  try simp only [List.setIfInBounds_toArray, List.set_cons_zero, List.set_cons_succ]
                  refine wpAnyH_ready (rs := [12]) (by kernel_rfl) (by simp) ?_; refine AllReadyH.cons rfl (fun K2 hK => ?_) AllReadyH.nil; go_simp; go_wp2_with (go_at_call 15; (with_reducible refine KP.out.mono ?_); rintro e wP ⟨rfl, hP⟩); have hS1 := And.intro (hP.at_ (j := X13) (List.mem_cons_self ..)) (hP.at_ (j := X4) (List.mem_cons_of_mem _ (List.mem_cons_self ..))); refine hK.out _ _ ?_ (fun _ => ?_); (exact hS1); clear hK K2 hS; have hS := hS1; clear hS1
                  refine wpAnyH_ready (rs := [13]) (by kernel_rfl) (by simp) ?_; refine AllReadyH.cons rfl (fun K2 hK => ?_) AllReadyH.nil; go_simp; go_wp2_with (go_at_call 14; (with_reducible refine (KN.out _ _).mono ?_); rintro e wN ⟨rfl, rfl⟩); have hS1 := hS; refine hK.out _ _ ?_ (fun _ => ?_); (exact hS1); clear hK K2 hS; have hS := hS1; clear hS1
                  refine takeH 14 98 (.bool false) rfl rfl (by kernel_rfl) (by kernel_rfl) (by kernel_rfl) (fun _ _ _ h => h) (Or.inl ⟨by kernel_rfl, ?_⟩) hS ?_; focus (intro w' hw; skip; first | (go_simp; done) | (go_simp; with_reducible rfl) | (go_simp; exact HP9.out))
                  try simp only [List.setIfInBounds_toArray, List.set_cons_zero, List.set_cons_succ]
                  refine wpAnyH_done (by kernel_rfl) ?_ _
                  have HE := Lib.hid hP
                  clear hS HS1 KP hP
                  go_wp2
                  go_meet
                  refine ⟨?_, Lib.hid ?_⟩
                  · rw [HC.out, if_neg HP9.out]
                  · rw [HM.out]; exact HE.out.like (half0 (fun _ _ => rfl) (fun _ _ => rfl))
              · have HC : Hid (costN (wtI wt) C m kd fn id0 co0 = C) := Lib.hid (by unfold costN; rw [if_neg (fun h => h0 h.1)])
                by_cases h1 : kd = 1
                · subst h1
                  have HM : Hid (m.next (wtI wt) 1 fn id0 co0 = { m with s := m.s.take, T := match m.s.takeV with | none => m.T | some (g, x) => fun k => if k = g then m.T k + x.2 else m.T k }) := Lib.hid (by unfold Mo.next; rw [if_neg (by decide), if_pos rfl]; cases m.s.takeV <;> rfl)
                  have KT := Lib.hid (fq2_take W1 HB1.out (by omega))
                  cases hv : m.s.takeV with
                  | none =>
                    rw [hv] at KT HM
                    unfold tkV at KT
                    clear hW2 HRU HB1 hv
                    go_wp2_with (go_at_call 16; (with_reducible refine KT.out.mono ?_); rintro e wB ⟨rfl, hB⟩; have HBB := Lib.hid (hB.below ((Below.refl _ _).alloc (Nat.le_refl _) (itO 0 0))); clear hB)
                    go_meet
                    refine ⟨by rw [HC.out], Lib.hid ?_⟩
                    rw [HM.out]
                    exact (HBB.out.mono (Nat.le_succ n)).like (half0 (fun _ _ => rfl) (fun _ _ => rfl))
                  | some v =>
                    obtain ⟨g, i2, c2⟩ := v
                    have hok := HRU.out.ok m HRU.out.mem
                    obtain ⟨tc1, tc2, tc3, tc4⟩ := Fl.take_cost hok.2.2.1 hok.1 (hok.2.1.mono HRU.out.c.2) hv
                    obtain ⟨gn, rfl⟩ : ∃ gn : Nat, g = (gn : Int) := ⟨g.toNat, by omega⟩
                    have hg4 : gn < 4 := by omega
                    have tg : (gn : Int) < 4 := by omega
                    have t3 : decide ((gn : Int) < 0) = false := decide_eq_false (by omega)
                    have t4 : decide ((gn : Int) > 3) = false := decide_eq_false (by omega)
                    rw [hv] at KT HM
                    unfold tkV at KT
                    have hTb : 0 ≤ m.T gn ∧ m.T gn ≤ 64 * (n : Int) := by
                      obtain ⟨hnl, hlast⟩ := HRU.out.nth
                      have x1 := HRU.out.tl n hnl gn
                      rw [hlast] at x1
                      exact ⟨x1, HRU.out.tu gn⟩
                    have HE9 : Hid (IntKind.i64.wrap (m.T gn + c2) = m.T gn + c2) := Lib.hid (by have x1 : 1 ≤ c2 := tc1; have x2 : c2 ≤ 64 := tc2; rw [IntKind.wrap_i64]; omega)
                    have HMT : Hid (∀ i : Nat, i < 4 → (if (i : Int) = (gn : Int) then m.T i + c2 else m.T i) = if i = gn then m.T gn + c2 else m.T i) := Lib.hid (fun i _ => by
                      by_cases e : i = gn
                      · subst e; simp
                      · rw [if_neg e, if_neg (by omega)])
                    have hcT : ∀ W, FQ w P n m.s.take X9 (look m) u10 (L.map look) [(X13, actK 1 ((fn : Nat) : Int) w0 id0 co0), (X4, box4 wt)] W → W.cell? ⟨X9, gn, none⟩ = some (.int .i64 (m.T gn)) ∧ W.frozen? ⟨X9, gn, none⟩ = false := fun W hW => ⟨cellT hW.x hg4, frozen_of_row W X9 _ _ _ hW.x⟩
                    have HCT := Lib.hid hcT
                    have HTG : Hid (lkC (setT (look m) gn (m.T gn + c2)) = lkC (half m { m with s := m.s.take, T := fun k => if k = (gn : Int) then m.T k + c2 else m.T k } 0)) := Lib.hid (half0T (fun i hi => HMT.out i hi) (fun _ _ => rfl))
                    generalize m.T gn = Tg at *
                    clear hW2 HRU HB1 hv hok tc1 tc2 tc3 tc4 hTb hcT HMT
                    go_upto_region 28 with (go_at_call 16; (with_reducible refine KT.out.mono ?_); rintro e wB ⟨rfl, hB⟩; have HBB := Lib.hid hB; clear hB)
                    obtain ⟨W2, hW2⟩ : ∃ W2, W2 = (wB.alloc (.cells #[.int .i64 i2, .int .i64 c2] 48)).drew := ⟨_, rfl⟩
                    have hb2 : Below wB.heap.size wB W2 := by rw [hW2]; exact ((Below.refl _ _).alloc (Nat.le_refl _) _).drew
                    have hq2 := HBB.out.below hb2
                    have h15 : W2.heap[wB.heap.size]? = some (itO i2 c2) := by rw [hW2]; exact heap_alloc_new _ _
                    obtain ⟨c9, f9⟩ := HCT.out W2 hq2
                    obtain ⟨X15, hX15⟩ : ∃ X15, X15 = wB.heap.size := ⟨_, rfl⟩
                    have HX15 := Lib.hid hX15
                    have HS1 := Lib.hid (fun W (hW : Below W2.heap.size W2 W) => (show W.cell? ⟨X9, gn, none⟩ = some (.int .i64 Tg) ∧ W.cell? ⟨wB.heap.size, 1, none⟩ = some (.int .i64 c2) from ⟨(hW.cell (p := ⟨X9, _, none⟩) (lt_block hq2.x)).trans c9, (it_cells ((hW.block _ (lt_block h15)).trans h15)).2⟩))
                    rw [← hX15] at HS1
                    have HQ2 := Lib.hid hq2
                    have hS : Below W2.heap.size W2 W2 := Below.refl _ _
                    have HWD := Lib.hid hW2
                    rw [← HX15.out]
                    clear hW2 hb2 hq2 h15 hX15 HCT HBB KT b0 b1 b2 b3 b4
                    refine wp_region_any (by kernel_rfl) ?_
                    change wpAny _ _ _ _ _ _ _ (World.drew _)
                    rw [← HWD.out]
                    refine wpAny_of_T (S := fun W => Below W2.heap.size W2 W) (T := 10) _ _ _ _ ?_
                    refine takeT 0 121 ?_ rfl rfl (by kernel_rfl) (by kernel_rfl) (by kernel_rfl) (by kernel_rfl) (fun _ _ _ h => h) (Or.inl ⟨by kernel_rfl, ?_⟩) hS ?_; rotate_left; (intro w' hw; skip; first | (go_simp; done) | (go_simp; with_reducible rfl)); rotate_left
                    try simp only [List.setIfInBounds_toArray, List.set_cons_zero, List.set_cons_succ]
                    refine takeT 1 122 ?_ rfl rfl (by kernel_rfl) (by kernel_rfl) (by kernel_rfl) (by kernel_rfl) (fun _ _ _ h => h) (Or.inl ⟨by kernel_rfl, ?_⟩) hS ?_; rotate_left; (intro w' hw; skip; first | (go_simp; done) | (go_simp; with_reducible rfl)); rotate_left
                    try simp only [List.setIfInBounds_toArray, List.set_cons_zero, List.set_cons_succ]
                    refine takeT 2 123 ?_ rfl rfl (by kernel_rfl) (by kernel_rfl) (by kernel_rfl) (by kernel_rfl) (fun _ _ _ h => h) (Or.inl ⟨by kernel_rfl, ?_⟩) hS ?_; rotate_left; (intro w' hw; skip; first | (go_simp; done) | (go_simp; with_reducible rfl)); rotate_left
                    try simp only [List.setIfInBounds_toArray, List.set_cons_zero, List.set_cons_succ]
                    refine takeT 3 124 ?_ rfl rfl (by kernel_rfl) (by kernel_rfl) (by kernel_rfl) (by kernel_rfl) (fun _ _ _ h => h) (Or.inl ⟨by kernel_rfl, ?_⟩) hS ?_; rotate_left; (intro w' hw; skip; first | (go_simp; done) | (go_simp; with_reducible rfl)); rotate_left
                    try simp only [List.setIfInBounds_toArray, List.set_cons_zero, List.set_cons_succ]
                    refine takeT 4 125 ?_ rfl rfl (by kernel_rfl) (by kernel_rfl) (by kernel_rfl) (by kernel_rfl) (fun _ _ _ h => h) (Or.inl ⟨by kernel_rfl, ?_⟩) hS ?_; rotate_left; (intro w' hw; obtain ⟨z0, z1⟩ := HS1.out _ hw; first | (go_simp; done) | (go_simp; with_reducible rfl)); rotate_left
                    try simp only [List.setIfInBounds_toArray, List.set_cons_zero, List.set_cons_succ]
                    refine takeT 5 126 ?_ rfl rfl (by kernel_rfl) (by kernel_rfl) (by kernel_rfl) (by kernel_rfl) (fun _ _ _ h => h) (Or.inl ⟨by kernel_rfl, ?_⟩) hS ?_; rotate_left; (intro w' hw; skip; first | (go_simp; done) | (go_simp; with_reducible rfl)); rotate_left
                    try simp only [List.setIfInBounds_toArray, List.set_cons_zero, List.set_cons_succ]
                    refine takeT 6 127 ?_ rfl rfl (by kernel_rfl) (by kernel_rfl) (by kernel_rfl) (by kernel_rfl) (fun _ _ _ h => h) (Or.inl ⟨by kernel_rfl, ?_⟩) hS ?_; rotate_left; (intro w' hw; obtain ⟨z0, z1⟩ := HS1.out _ hw; first | (go_simp; done) | (go_simp; with_reducible rfl)); rotate_left
                    try simp only [List.setIfInBounds_toArray, List.set_cons_zero, List.set_cons_succ]
                    refine takeT 7 128 (.int .i64 (Tg + c2)) rfl rfl (by kernel_rfl) (by kernel_rfl) (by kernel_rfl) (by kernel_rfl) (fun _ _ _ h => h) (Or.inl ⟨by kernel_rfl, ?_⟩) hS ?_; focus (intro w' hw; skip; first | (go_simp; done) | (go_simp; with_reducible rfl) | (go_simp; exact HE9.out))
                    try simp only [List.setIfInBounds_toArray, List.set_cons_zero, List.set_cons_succ]
                    refine wpAnyT_ready (rs := [8]) (by kernel_rfl) (by simp) ?_; refine AllReadyT.cons rfl (fun K2 hK => ?_) AllReadyT.nil; go_simp; have hS1 := hS; refine hK.out _ _ (fun _ => hS1) ?_; clear hK K2 hS; have hS := hS1; clear hS1
                    refine wpAnyT_ready (rs := [9]) (by kernel_rfl) (by simp) ?_; refine AllReadyT.cons rfl (fun K2 hK => ?_) AllReadyT.nil; go_simp; have hS1 := hS; refine hK.out _ _ (fun _ => hS1) ?_; clear hK K2 hS; have hS := hS1; clear hS1
                    refine wpAnyT_ready (rs := [10]) (by kernel_rfl) (by simp) ?_; refine AllReadyT.cons rfl (fun K2 hK => ?_) AllReadyT.nil; go_simp; refine hK.out _ _ (fun h => absurd rfl h) ?_; clear hK K2 hS
                    refine wpAnyT_done (by kernel_rfl) ?_ _
                    have HE := Lib.hid (HQ2.out.set (lkC_setT (look m) hg4 (Tg + c2)))
                    clear HS1 c9 f9 HQ2
                    go_wp2
                    go_meet
                    refine ⟨by rw [HC.out], Lib.hid ?_⟩
                    rw [HM.out]
                    exact (HE.out.mono (Nat.le_succ n)).like HTG.out
                · by_cases h2 : kd = 2
                  · subst h2
                    have HM : Hid (m.next (wtI wt) 2 fn id0 co0 = { m with s := m.s.pick }) := Lib.hid (by unfold Mo.next; rw [if_neg (by decide), if_neg (by decide), if_pos rfl])
                    have KK := Lib.hid ((fq2_pick W1 HB1.out (by omega)).mono (R' := fun e W' => ∃ v, e = .returned v ∧ Hid (FQ w P n m.s.pick X9 (look m) u10 (L.map look) [(X13, actK 2 ((fn : Nat) : Int) w0 id0 co0), (X4, box4 wt)] W')) fun e W' hr => ⟨_, hr.1, Lib.hid hr.2⟩)
                    clear hW2 HRU HB1
                    go_wp2_with (go_at_call 17; (with_reducible refine KK.out.mono ?_); rintro e wB ⟨v, rfl, hB⟩)
                    go_meet
                    refine ⟨by rw [HC.out], Lib.hid ?_⟩
                    rw [HM.out]
                    exact (hB.out.mono (Nat.le_succ n)).like (half0 (fun _ _ => rfl) (fun _ _ => rfl))
                  · have HM : Hid (m.next (wtI wt) kd fn id0 co0 = { m with s := m.s.drop fn id0, D := if m.s.dropB fn id0 then fun k => if k = ((fn : Nat) : Int) then m.D k + 1 else m.D k else m.D }) := Lib.hid (by unfold Mo.next; rw [if_neg h0, if_neg h1, if_neg h2])
                    have t5 : (kd == 0) = false := by simpa using h0
                    have t6 : (kd == 1) = false := by simpa using h1
                    have t7 : (kd == 2) = false := by simpa using h2
                    have KD := Lib.hid (fq2_drop fn id0 W1 HB1.out hwf hwi (by omega))
                    cases hb : m.s.dropB fn id0 with
                    | false =>
                      rw [hb] at KD HM
                      clear hW2 HRU HB1 hb h0 h1 h2
                      go_wp2_with (go_at_call 18; (with_reducible refine KD.out.mono ?_); rintro e wB ⟨rfl, hB⟩; have HBB := Lib.hid hB; clear hB)
                      go_meet
                      refine ⟨by rw [HC.out], Lib.hid ?_⟩
                      rw [HM.out]
                      exact (HBB.out.mono (Nat.le_succ n)).like (half0 (fun _ _ => rfl) (fun _ _ => rfl))
                    | true =>
                      rw [hb] at KD HM
                      have hDb := HRU.out.du fn
                      have HE9 : Hid (IntKind.i64.wrap (m.D fn + 1) = m.D fn + 1) := Lib.hid (by rw [IntKind.wrap_i64]; omega)
                      have HDG : Hid (lkC (setD (look m) fn (m.D fn + 1)) = lkC (half m { m with s := m.s.drop fn id0, D := fun k => if k = ((fn : Nat) : Int) then m.D k + 1 else m.D k } 0)) := Lib.hid (half0D (fun _ _ => rfl) (fun i hi => by
                        show (if (i : Int) = (fn : Int) then m.D i + 1 else m.D i) = if i = fn then m.D fn + 1 else m.D i
                        by_cases e : i = fn
                        · subst e; simp
                        · rw [if_neg e, if_neg (by omega)]))
                      have hcD : ∀ W, FQ w P n (m.s.drop fn id0) X9 (look m) u10 (L.map look) [(X13, actK kd ((fn : Nat) : Int) w0 id0 co0), (X4, box4 wt)] W → W.cell? ⟨X9, 4 + fn, none⟩ = some (.int .i64 (m.D fn)) ∧ W.frozen? ⟨X9, 4 + fn, none⟩ = false ∧ W.cell? ⟨X13, 1, none⟩ = some (.int .i64 ((fn : Nat) : Int)) := fun W hW => ⟨cellD hW.x hf4, frozen_of_row W X9 _ _ _ hW.x, (actK_cells (hW.at_ (j := X13) (List.mem_cons_self ..))).2.1⟩
                      have HCD := Lib.hid hcD
                      generalize m.D fn = Dg at *
                      clear hW2 HRU HB1 hb h0 h1 h2 hDb hcD
                      go_upto_region 19 with (go_at_call 18; (with_reducible refine KD.out.mono ?_); rintro e wB ⟨rfl, hB⟩; have HBB := Lib.hid hB; obtain ⟨_, _, b5⟩ := HCD.out _ hB; clear hB)
                      obtain ⟨W2, hW2⟩ : ∃ W2, W2 = wB.drew := ⟨_, rfl⟩
                      have hb2 : Below wB.heap.size wB W2 := by rw [hW2]; exact (Below.refl _ _).drew
                      have hq2 := HBB.out.below hb2
                      obtain ⟨c9, f9, c13⟩ := HCD.out W2 hq2
                      have HS1 := Lib.hid (fun W (hW : Below W2.heap.size W2 W) => (show W.cell? ⟨X13, 1, none⟩ = some (.int .i64 ((fn : Nat) : Int)) ∧ W.cell? ⟨X9, 4 + fn, none⟩ = some (.int .i64 Dg) from ⟨(hW.cell (p := ⟨X13, _, none⟩) (block_lt_of_cell c13)).trans c13, (hW.cell (p := ⟨X9, _, none⟩) (lt_block hq2.x)).trans c9⟩))
                      have HQ2 := Lib.hid hq2
                      have hS : Below W2.heap.size W2 W2 := Below.refl _ _
                      have HWD := Lib.hid hW2
                      clear hW2 hb2 hq2 HCD HBB KD b0 b1 b2 b3 b4 b5 c13
                      refine wp_region_any (by kernel_rfl) ?_
                      change wpAny _ _ _ _ _ _ _ (World.drew _)
                      rw [← HWD.out]
                      refine wpAny_of_T (S := fun W => Below W2.heap.size W2 W) (T := 10) _ _ _ _ ?_
                      refine takeT 0 72 ?_ rfl rfl (by kernel_rfl) (by kernel_rfl) (by kernel_rfl) (by kernel_rfl) (fun _ _ _ h => h) (Or.inl ⟨by kernel_rfl, ?_⟩) hS ?_; rotate_left; (intro w' hw; skip; first | (go_simp; done) | (go_simp; with_reducible rfl)); rotate_left
                      try simp only [List.setIfInBounds_toArray, List.set_cons_zero, List.set_cons_succ]
                      refine takeT 1 73 ?_ rfl rfl (by kernel_rfl) (by kernel_rfl) (by kernel_rfl) (by kernel_rfl) (fun _ _ _ h => h) (Or.inl ⟨by kernel_rfl, ?_⟩) hS ?_; rotate_left; (intro w' hw; obtain ⟨z0, z1⟩ := HS1.out _ hw; first | (go_simp; done) | (go_simp; with_reducible rfl)); rotate_left
                      try simp only [List.setIfInBounds_toArray, List.set_cons_zero, List.set_cons_succ]
                      refine takeT 2 74 ?_ rfl rfl (by kernel_rfl) (by kernel_rfl) (by kernel_rfl) (by kernel_rfl) (fun _ _ _ h => h) (Or.inl ⟨by kernel_rfl, ?_⟩) hS ?_; rotate_left; (intro w' hw; skip; first | (go_simp; done) | (go_simp; with_reducible rfl)); rotate_left
                      try simp only [List.setIfInBounds_toArray, List.set_cons_zero, List.set_cons_succ]
                      refine takeT 3 75 ?_ rfl rfl (by kernel_rfl) (by kernel_rfl) (by kernel_rfl) (by kernel_rfl) (fun _ _ _ h => h) (Or.inl ⟨by kernel_rfl, ?_⟩) hS ?_; rotate_left; (intro w' hw; obtain ⟨z0, z1⟩ := HS1.out _ hw; first | (go_simp; done) | (go_simp; with_reducible rfl)); rotate_left
                      try simp only [List.setIfInBounds_toArray, List.set_cons_zero, List.set_cons_succ]
                      refine takeT 4 76 ?_ rfl rfl (by kernel_rfl) (by kernel_rfl) (by kernel_rfl) (by kernel_rfl) (fun _ _ _ h => h) (Or.inl ⟨by kernel_rfl, ?_⟩) hS ?_; rotate_left; (intro w' hw; skip; first | (go_simp; done) | (go_simp; with_reducible rfl)); rotate_left
                      try simp only [List.setIfInBounds_toArray, List.set_cons_zero, List.set_cons_succ]
                      refine takeT 5 77 ?_ rfl rfl (by kernel_rfl) (by kernel_rfl) (by kernel_rfl) (by kernel_rfl) (fun _ _ _ h => h) (Or.inl ⟨by kernel_rfl, ?_⟩) hS ?_; rotate_left; (intro w' hw; skip; first | (go_simp; done) | (go_simp; with_reducible rfl)); rotate_left
                      try simp only [List.setIfInBounds_toArray, List.set_cons_zero, List.set_cons_succ]
                      refine takeT 6 78 ?_ rfl rfl (by kernel_rfl) (by kernel_rfl) (by kernel_rfl) (by kernel_rfl) (fun _ _ _ h => h) (Or.inl ⟨by kernel_rfl, ?_⟩) hS ?_; rotate_left; (intro w' hw; obtain ⟨z0, z1⟩ := HS1.out _ hw; first | (go_simp; done) | (go_simp; with_reducible rfl)); rotate_left
                      try simp only [List.setIfInBounds_toArray, List.set_cons_zero, List.set_cons_succ]
                      refine takeT 7 79 (.int .i64 (Dg + 1)) rfl rfl (by kernel_rfl) (by kernel_rfl) (by kernel_rfl) (by kernel_rfl) (fun _ _ _ h => h) (Or.inl ⟨by kernel_rfl, ?_⟩) hS ?_; focus (intro w' hw; skip; first | (go_simp; done) | (go_simp; with_reducible rfl) | (go_simp; exact HE9.out))
                      try simp only [List.setIfInBounds_toArray, List.set_cons_zero, List.set_cons_succ]
                      refine wpAnyT_ready (rs := [8]) (by kernel_rfl) (by simp) ?_; refine AllReadyT.cons rfl (fun K2 hK => ?_) AllReadyT.nil; go_simp; have hS1 := hS; refine hK.out _ _ (fun _ => hS1) ?_; clear hK K2 hS; have hS := hS1; clear hS1
                      refine wpAnyT_ready (rs := [9]) (by kernel_rfl) (by simp) ?_; refine AllReadyT.cons rfl (fun K2 hK => ?_) AllReadyT.nil; go_simp; have hS1 := hS; refine hK.out _ _ (fun _ => hS1) ?_; clear hK K2 hS; have hS := hS1; clear hS1
                      refine wpAnyT_ready (rs := [10]) (by kernel_rfl) (by simp) ?_; refine AllReadyT.cons rfl (fun K2 hK => ?_) AllReadyT.nil; go_simp; refine hK.out _ _ (fun h => absurd rfl h) ?_; clear hK K2 hS
                      refine wpAnyT_done (by kernel_rfl) ?_ _
                      have HE := Lib.hid (HQ2.out.set (lkC_setD (look m) hf4 (Dg + 1)))
                      clear HS1 c9 f9 HQ2
                      go_wp2
                      go_meet
                      refine ⟨by rw [HC.out], Lib.hid ?_⟩
                      rw [HM.out]
                      exact (HE.out.mono (Nat.le_succ n)).like HDG.out
            case rest =>
              obtain ⟨rfl, hQ⟩ := hcut
              have HPN : Hid (PairsOk (L.map look ++ [look (m.next (wtI wt) kd fn id0 co0)]) (n + 1) (look (m.next (wtI wt) kd fn id0 co0)) wt q (costN (wtI wt) C m kd fn id0 co0)) := Lib.hid (by
                have h1 := Run.pairs HRN.out HWI.out (by omega)
                have e1 : (fun i : Nat => wtI wt (i : Int)) = wt := by funext i; exact wtI_nat wt i
                rw [e1, List.map_append] at h1
                exact h1)
              generalize costN (wtI wt) C m kd fn id0 co0 = C' at *
              generalize m.next (wtI wt) kd fn id0 co0 = m' at *
              clear b0 b1 b2 b3 b4 HB1 HRU HW1
              go_wp2
              go_loopw [17] (fun s wq => ∃ u : Nat, u ≤ 4 ∧ s = .int .i64 (u : Int) ∧ Hid (FQ w P (n + 1) m'.s X9 (half m m' u) u10 (L.map look) [(X13, actK kd fn w0 id0 co0), (X4, box4 wt)] wq)) (fun s _ => 4 - (intOf s).toNat)
              case atStart => exact ⟨0, by omega, rfl, hQ⟩
              case round =>
                obtain ⟨u, hu, rfl, hsu⟩ := hrel
                clear hQ
                by_cases hu4 : u < 4
                · have tu : (u : Int) < 4 := by omega
                  have KLN := Lib.hid (fq2_len u hu4 wr hsu.out (by omega))
                  have HST := Lib.hid (fun W (hW : FQ w P (n + 1) m'.s X9 (half m m' u) u10 (L.map look) [(X13, actK kd fn w0 id0 co0), (X4, box4 wt)] W) => (show W.cell? ⟨X9, 8 + u, none⟩ = some (.bool ((half m m' u).W u)) ∧ W.frozen? ⟨X9, 8 + u, none⟩ = false from ⟨cellW hW.x hu4, frozen_of_row W X9 _ _ _ hW.x⟩))
                  have HNX := Lib.hid (fun W (hW : FQ w P (n + 1) m'.s X9 (half m m' u) u10 (L.map look) [(X13, actK kd fn w0 id0 co0), (X4, box4 wt)] W) => (hW.set (lkC_setW (half m m' u) hu4 ((look m').W u))).like (half_next m m' hu4))
                  have HLW : Hid ((look m').W u = (Fl.row m'.s.l u).isSome) := Lib.hid rfl
                  rw [HLW.out] at HNX
                  generalize (Fl.row m'.s.l u).isSome = bw at *
                  generalize (half m m' u).W u = bo at *
                  clear hsu HLW
                  go_wp2_with (go_at_call 12; (with_reducible refine KLN.out.mono ?_); rintro e wL ⟨N, rfl, hN, hL⟩; obtain ⟨y0, y1⟩ := HST.out _ hL.out)
                  have HE := Lib.hid (HNX.out _ hL.out)
                  go_roundw
                  case rel => exact ⟨u + 1, by omega, by go_num, HE⟩
                  case measure => simp [intOf]; omega
                · obtain rfl : u = 4 := by omega
                  have HQ3 := Lib.hid (hsu.out.like (half_four m m'))
                  have hll : (L.map look).length ≤ 1000 := by have := HPN.out.len; simp at this; simp; omega
                  have hBz := HQ3.out.b.size
                  obtain ⟨ls', hls'⟩ : ∃ ls', ls' = L.map look ++ [look m'] := ⟨_, rfl⟩
                  have HLS := Lib.hid hls'
                  rw [← hls'] at HPN
                  have HAP := Lib.hid (fun v' W' (h1 : eltK.Row W' w.heap.size v' (L.map look ++ [look m'])) h2 h3 h4 => HQ3.out.app (o' := v') (W' := W') h1 h2 h3 h4)
                  rw [← hls'] at HAP
                  have KPR := Lib.hid (fun a' c' W (hv : eltK.View W a' ls') => pairsC a' c' ls' (n + 1) (look m') wt q C' W hv HPN.out)
                  clear hsu hls'
                  generalize hlm : L.map look = lm at *
                  have HLM := Lib.hid hlm
                  clear hlm
                  go_wp2_with (first | (refine wpLoadK _ rfl rfl X9 rfl (look m') HQ3.out.x ?_) | (refine wpOneK rfl _ rfl (look m') rfl ?_) | (at_builtin; (refine eltK.wpApp wr rfl _ _ rfl w.heap.size u10 lm rfl HQ3.out.row (lkC (look m')) 1 rfl (look m') rfl (by omega) hBz ?_); intro v2 w2 hown hb2 hkeep hlies; rw [← HLS.out] at hown; have HQ4 := Lib.hid (HAP.out v2 w2 hown hb2 hkeep hlies); obtain ⟨ao, co, rfl, hfl⟩ := hown.flat; have HVW := Lib.hid hfl.view; clear hown hb2 hkeep hlies hfl) | (refine wpLoad4 _ rfl rfl X4 rfl wt (HQ4.out.at_ (j := X4) (List.mem_cons_of_mem _ (List.mem_cons_self ..))) ?_) | (go_at_call 19; (with_reducible refine (KPR.out _ _ _ HVW.out).mono ?_); rintro e wF ⟨rfl, hF⟩))
                  have HE := Lib.hid ((HQ4.out.below hF).fewer (bx' := [(X4, box4 wt)]) (fun p hp => List.mem_cons_of_mem _ hp))
                  go_roundg (len - (k + 1))
                  case rel => exact ⟨k + 1, C', L ++ [m'], n + 1, m', by omega, rfl, by go_num, rfl, by omega, Lib.hid ⟨by rw [List.map_append, HLM.out]; show FQ _ _ _ _ _ _ _ (lm ++ [look m']) _ _; rw [← HLS.out]; exact HE.out, HRN.out⟩⟩
                  case measure => omega
        · obtain rfl : k = len := by omega
          have HE := Lib.hid hst.out.1.b
          clear hst
          go_wp2_with (go_at_call 8; (with_reducible refine (KL.out _).mono ?_); rintro e wL ⟨rfl, hL⟩)
          go_ret
          exact ⟨rfl, HE.out.trans (hL.mono HE.out.size)⟩
end Go.Proofs.Ytgeoebodlcbebaa
