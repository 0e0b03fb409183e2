/-
  The law FifoActs: a round's call.
-/
import Derived.Test.YtgndjahkjchaoaaFifoU
import Derived.Deep.CutBlock
import Derived.Deep.CutRange
namespace Go.Proofs.Ytgndjahkjchaoaa
open Go.RowKit
set_option linter.unusedVariables false

/-- the two, apart -/
structure TwoV (w0 : World) (P : Nat) (lt lr : List Ff.E) (a : Option Addr) (W : World) : Prop where
  s : ∃ F, QIs W w0.heap.size P lt F ∧ (0 < lr.length → ∀ g off, a = some ⟨g, off, none⟩ → ¬ F g)
  v : eltI.View W a lr
  b : Below w0.heap.size w0 W
theorem TwoF.two {w0 : World} {P : Nat} {lt lr : List Ff.E} {a : Option Addr} {Q : Nat} {o : Obj} {W : World} (h : TwoF w0 P lt lr a Q o W) : TwoV w0 P lt lr a W := by
  obtain ⟨F, h1, h2, h3⟩ := h.s
  exact ⟨⟨F, h1, h2⟩, h.v, h.b⟩
theorem TwoV.withQ {w0 : World} {P : Nat} {lt lr : List Ff.E} {a : Option Addr} {W : World} (h : TwoV w0 P lt lr a W) (o : Obj) : TwoF w0 P lt lr a W.heap.size o (W.alloc o) := by
  obtain ⟨F, h1, h2⟩ := h.s
  have hb : Below W.heap.size W (W.alloc o) := (Below.refl _ _).alloc (Nat.le_refl _) _
  exact ⟨⟨F, h1.below hb, h2, fun hf => by have := (h1.lt _ hf).2; omega⟩, h.v.below hb, heap_alloc_new _ _, h.b.trans (hb.mono h.b.size)⟩
theorem TwoV.drew {w0 : World} {P : Nat} {lt lr : List Ff.E} {a : Option Addr} {W : World} (h : TwoV w0 P lt lr a W) (n : Nat) : TwoV w0 P lt lr a (W.drewN n) := by
  obtain ⟨F, h1, h2⟩ := h.s
  have hb : Below W.heap.size W (W.drewN n) := below_drewN (Below.refl _ _) n
  exact ⟨⟨F, h1.below hb, h2⟩, h.v.below hb, h.b.trans (hb.mono h.b.size)⟩
/-- acts as they came in -/
def ActAt (w : World) (a : Option Addr) (len : Nat) (t : Nat → Int × Int × Int) : Prop := len = 0 ∨ ∃ b off : Nat, a = some ⟨b, off, none⟩ ∧ b < w.heap.size ∧
  ∀ i, i < len → w.cell? ⟨b, off + i * 3, none⟩ = some (.int .i64 (t i).1) ∧ w.cell? ⟨b, off + i * 3 + 1, none⟩ = some (.int .i64 (t i).2.1) ∧ w.cell? ⟨b, off + i * 3 + 2, none⟩ = some (.int .i64 (t i).2.2) ∧ (Lit.int .i64 (t i).2.1).wf = true

set_option maxRecDepth 100000 in
set_option maxHeartbeats 4000000 in
theorem fifoActs_many (a : Option Addr) (len cap : Nat) (w : World) (hl : 200 < len) : Calls Try.prog 3 #[.slice a len cap] w (Ret (.bool true) w) := by
  have K1 := Lib.hid (fun W => liveOk W)
  go_enter Try.func3, Try.ntmps3
  go_wp2_with (go_at_call 5; (with_reducible refine (K1.out _).mono ?_); rintro e wB ⟨rfl, hbB⟩)
  go_ret
  exact ⟨rfl, hbB⟩
set_option maxRecDepth 100000 in
set_option maxHeartbeats 16000000 in
theorem fifoActs_at (a : Option Addr) (len cap : Nat) (t : Nat → Int × Int × Int) (w : World) (hl : len ≤ 200) (h : ActAt w a len t) : Calls Try.prog 3 #[.slice a len cap] w (Ret (.bool true) w) := by
  have K0 := Lib.hid (fun W hb => solo_new w W hb)
  have KL := Lib.hid (fun W => liveOk W)
  have KN := Lib.hid (fun e W => numC e W)
  have HA := Lib.hid h; clear h
  go_enter Try.func3, Try.ntmps3
  go_wp2_with (go_at_call 6; (with_reducible refine (K0.out _ (Below.refl _ _)).mono ?_); rintro e wA ⟨P, rfl, hV⟩)
  obtain ⟨R, hR⟩ : ∃ R, R = wA.heap.size := ⟨_, rfl⟩
  have hT0 : Hid (TwoV w P [] [] (some ⟨R, 0, none⟩) (wA.alloc (.cells #[] 32))) := Lib.hid (by
    obtain ⟨F, hF⟩ := hV.s
    have hb : Below wA.heap.size wA (wA.alloc (.cells #[] 32)) := (Below.refl _ _).alloc (Nat.le_refl _) _
    exact ⟨⟨F, hF.below hb, fun h0 => absurd h0 (by simp)⟩, ⟨fun h0 => absurd h0 (by simp)⟩, hV.b.trans (hb.mono hV.b.size)⟩)
  rw [← hR]
  clear hV hR K0
  go_loopw [4, 5] (fun s i wr => ∃ (k : Nat) (l : List Ff.E) (av : Option Addr) (cv : Nat), k ≤ len ∧ i = .int .i64 (k : Int) ∧ s = .slice av l.length cv ∧ Hid (TwoV w P l l av wr ∧ (av = none → cv = 0) ∧ l.length ≤ cv ∧ Ff.Good l ∧ l.length ≤ k)) (fun _ i _ => len - (intOf i).toNat)
  case atStart => exact ⟨0, [], _, 0, by omega, rfl, rfl, Lib.hid ⟨hT0.out, (fun h => by cases h), (by simp), Ff.good_nil, (by simp)⟩⟩
  case round =>
    obtain ⟨k, l, av, cv, hk, rfl, rfl, hst⟩ := hrel
    clear hT0
    by_cases hlt : k < len
    · rcases HA.out with h | ⟨g, off, rfl, hg, hc⟩
      · omega
      · obtain ⟨e0, e1, e2, hid⟩ := hc k hlt
        obtain ⟨hT, hav, hcv, hgd, hlk⟩ := hst.out
        have d0 := (hT.b.cell (p := ⟨g, off + k * 3, none⟩) hg).trans e0
        have d1 := (hT.b.cell (p := ⟨g, off + k * 3 + 1, none⟩) hg).trans e1
        have d2 := (hT.b.cell (p := ⟨g, off + k * 3 + 2, none⟩) hg).trans e2
        clear e0 e1 e2 hc
        generalize (t k).1 = kd at *
        generalize (t k).2.1 = id at *
        generalize (t k).2.2 = co at *
        have HID := Lib.hid hid
        have HT := Lib.hid (hT.withQ (actO kd id co))
        have HGD := Lib.hid hgd
        have HAV := Lib.hid hav
        have HCV := Lib.hid hcv
        have hl1 : l.length ≤ 1000 := by omega
        have HL := Lib.hid hlk
        clear hst hT hav hgd hid hcv hlk
        obtain ⟨Q, hQ⟩ : ∃ Q, Q = wr.heap.size := ⟨_, rfl⟩
        rw [← hQ] at HT
        obtain ⟨b0, b1, b2⟩ := act_cells HT.out.q
        have HQ := Lib.hid hQ
        clear hQ
        go_upto_block 2 with fail
        rw [← HQ.out]
        go_cut [4, 7, 8, 9, 10, 11, 12, 13] from 22 to 182 (fun s4 s7 s8 s9 s10 s11 s12 s13 wx => ∃ (a' : Option Addr) (cap' : Nat), s4 = .slice a' (Ff.step l kd id co).length cap' ∧ Hid (TwoF w P (Ff.step l kd id co) (Ff.step l kd id co) a' Q (actO kd id co) wx ∧ (a' = none → cap' = 0) ∧ (Ff.step l kd id co).length ≤ cap'))
        case first =>
          clear HA KL HQ d0 d1 d2
          by_cases h0 : kd = 0
          · subst h0
            have HS : Hid (Ff.step l 0 id co = Ff.pushL l id co) := Lib.hid (by simp [Ff.step])
            have K1 := Lib.hid (two_refpush id co _ hl1 HAV.out HCV.out HT.out)
            have K2 := Lib.hid (fun a' W (hW : TwoF w P l (Ff.pushL l id co) a' Q (actO 0 id co) W) => two_push id co W HID.out hl1 hW)
            generalize Ff.pushL l id co = m at *
            generalize Ff.pushE l id co = pe at *
            go_wp2_with (first | (go_at_call 7; (with_reducible refine K1.out.mono ?_); rintro e wB ⟨a', cap', rfl, hB⟩; obtain ⟨y0, y1, y2⟩ := act_cells hB.out.1.q) | (go_at_call 9; (with_reducible refine (K2.out _ _ hB.out.1).mono ?_); rintro e wC ⟨rfl, hC⟩; have HC := Lib.hid hC; clear hC) | (go_at_call 8; (with_reducible refine (KN.out _ _).mono ?_); rintro e wF ⟨rfl, rfl⟩))
            go_meet
            rw [HS.out]
            exact ⟨a', cap', rfl, Lib.hid ⟨HC.out, hB.out.2⟩⟩
          · by_cases h1 : kd = 1
            · subst h1
              have HS : Hid (Ff.step l 1 id co = l.tail) := Lib.hid (by simp [Ff.step])
              cases l with
              | nil =>
                have K1 := Lib.hid (two_pop _ hl1 HT.out)
                unfold itemV at K1
                go_wp2_with (go_at_call 10; (with_reducible refine K1.out.mono ?_); rintro e wB ⟨rfl, hB⟩; have HB := Lib.hid (fun q => (hB.below ((Below.refl wB.heap.size wB).alloc (Nat.le_refl _) (itO 0 0))).below (below_drewN (Below.refl _ _) q)); clear hB)
                go_quiet (fail)
                go_wp2
                go_meet
                rw [HS.out]
                exact ⟨av, cv, rfl, Lib.hid ⟨HB.out _, HAV.out, by simp⟩⟩
              | cons x l =>
                have K1 := Lib.hid (two_pop _ hl1 HT.out)
                unfold itemV at K1
                obtain ⟨x1, x2⟩ := x
                simp only [List.head?_cons, Option.getD_some, Option.isSome_some, List.tail_cons] at K1 HS
                obtain ⟨g2, off2, rfl, hg2, _⟩ := items_at HT.out.v (by simp)
                have HIT := Lib.hid (fun W (hW : eltI.View W (some ⟨g2, off2, none⟩) ((x1, x2) :: l)) => by
                  obtain ⟨g3, off3, e, _, hc3⟩ := items_at hW (by simp)
                  cases e
                  have := hc3 0 (by simp)
                  exact (show W.cell? ⟨g2, off2, none⟩ = some (.int .i64 x1) ∧ W.cell? ⟨g2, off2 + 1, none⟩ = some (.int .i64 x2) from ⟨by simpa using this.1, by simpa using this.2⟩))
                go_wp2_with (go_at_call 10; (with_reducible refine K1.out.mono ?_); rintro e wB ⟨rfl, hB⟩; obtain ⟨y0, y1⟩ := HIT.out _ (hB.below ((Below.refl wB.heap.size wB).alloc (Nat.le_refl _) (itO x1 x2))).v; have HB := Lib.hid (fun q => (hB.below ((Below.refl wB.heap.size wB).alloc (Nat.le_refl _) (itO x1 x2))).below (below_drewN (Below.refl _ _) q)); clear hB)
                go_quiet (fail)
                go_wp2
                all_goals
                  rename_i hcap
                  go_meet
                  rw [HS.out]
                  have hcl := HCV.out
                  simp only [List.length_cons] at hcl
                  first
                    | exact ⟨some ⟨g2, off2 + 2, none⟩, cv - 1, rfl, Lib.hid ⟨(HB.out _).tail (fun _ => rfl), (fun h => by cases h), by omega⟩⟩
                    | exact ⟨some ⟨g2, off2, none⟩, 0, rfl, Lib.hid ⟨(HB.out _).tail (fun h => by omega), (fun h => by cases h), by omega⟩⟩
            · have HS : Hid (Ff.step l kd id co = Ff.drop l id) := Lib.hid (by simp [Ff.step, h0, h1])
              have t0 : (kd == 0) = false := by simpa using h0
              have t1 : (kd == 1) = false := by simpa using h1
              have K1 := Lib.hid (two_drop id _ HID.out hl1 HT.out)
              have K2 := Lib.hid (fun W (hW : TwoF w P (Ff.drop l id) l av Q (actO kd id co) W) => two_reffind (cap := cv) id W hl1 hW)
              have K3 := Lib.hid (fun W (hW : TwoF w P (Ff.drop l id) l av Q (actO kd id co) W) => two_refdrop (cap := cv) id W hl1 hW)
              clear h0 h1
              cases hf : l.find? (fun e => e.1 == id) with
              | none =>
                rw [hf] at K1
                rw [Ff.place_none hf] at K2
                unfold itemV at K1
                clear hf
                generalize Ff.drop l id = m at *
                have HBX := Lib.hid (fun W (hW : TwoF w P m l av Q (actO kd id co) W) => (show TwoF w P m l av Q (actO kd id co) (W.alloc (itO 0 0)) from hW.below ((Below.refl _ _).alloc (Nat.le_refl _) _)))
                have HDN := Lib.hid (fun W q (hW : TwoF w P m l av Q (actO kd id co) W) => (show TwoF w P m l av Q (actO kd id co) (W.drewN q) from hW.below (below_drewN (Below.refl _ _) q)))
                go_upto_region 12 with (first | (go_at_call 11; (with_reducible refine K1.out.mono ?_); rintro e wB ⟨rfl, hB⟩; have HB := Lib.hid (HBX.out _ hB); clear hB; obtain ⟨y0, y1, y2⟩ := act_cells HB.out.q) | (go_at_call 12; (with_reducible refine (K2.out _ HB.out).mono ?_); rintro e wF ⟨rfl, rfl⟩))
                go_quiet (fail)
                have HB2 := Lib.hid (HDN.out _ nq HB.out)
                obtain ⟨z0, z1, z2⟩ := act_cells HB2.out.q
                go_wp2_with (go_at_call 13; (with_reducible refine (K3.out _ HB2.out).mono ?_); rintro e wG ⟨a', cap', rfl, hG⟩)
                go_meet
                rw [HS.out]
                exact ⟨a', cap', rfl, hG⟩
              | some x =>
                rw [hf] at K1
                obtain ⟨j, hj, hpl, hlj⟩ := Ff.place_find hf
                rw [hpl] at K2
                unfold itemV at K1
                obtain ⟨x1, x2⟩ := x
                simp only [Option.getD_some, Option.isSome_some] at K1
                obtain ⟨g2, off2, rfl, hg2, _⟩ := items_at HT.out.v (by omega)
                have HIT := Lib.hid (fun W (hW : eltI.View W (some ⟨g2, off2, none⟩) l) => by
                  obtain ⟨g3, off3, e, _, hc3⟩ := items_at hW (by omega)
                  cases e
                  have := hc3 j hj
                  rw [hlj] at this
                  exact (show W.cell? ⟨g2, off2 + j * 2, none⟩ = some (.int .i64 x1) ∧ W.cell? ⟨g2, off2 + j * 2 + 1, none⟩ = some (.int .i64 x2) from this))
                clear hf hpl hlj
                generalize Ff.drop l id = m at *
                have HBX := Lib.hid (fun W (hW : TwoF w P m l (some ⟨g2, off2, none⟩) Q (actO kd id co) W) => (show TwoF w P m l (some ⟨g2, off2, none⟩) Q (actO kd id co) (W.alloc (itO x1 x2)) from hW.below ((Below.refl _ _).alloc (Nat.le_refl _) _)))
                have HDN := Lib.hid (fun W q (hW : TwoF w P m l (some ⟨g2, off2, none⟩) Q (actO kd id co) W) => (show TwoF w P m l (some ⟨g2, off2, none⟩) Q (actO kd id co) (W.drewN q) from hW.below (below_drewN (Below.refl _ _) q)))
                go_upto_region 12 with (first | (go_at_call 11; (with_reducible refine K1.out.mono ?_); rintro e wB ⟨rfl, hB⟩; have HB := Lib.hid (HBX.out _ hB); clear hB; obtain ⟨y0, y1, y2⟩ := act_cells HB.out.q; obtain ⟨y3, y4⟩ := HIT.out _ HB.out.v) | (go_at_call 12; (with_reducible refine (K2.out _ HB.out).mono ?_); rintro e wF ⟨rfl, rfl⟩))
                go_quiet (fail)
                have HB2 := Lib.hid (HDN.out _ nq HB.out)
                obtain ⟨z0, z1, z2⟩ := act_cells HB2.out.q
                go_wp2_with (go_at_call 13; (with_reducible refine (K3.out _ HB2.out).mono ?_); rintro e wG ⟨a', cap', rfl, hG⟩)
                go_meet
                rw [HS.out]
                exact ⟨a', cap', rfl, hG⟩
        case rest =>
          obtain ⟨a', cap', rfl, hm⟩ := hcut
          have HGM := Lib.hid (HGD.out.step (kd := kd) (id := id) (co := co) (wf_i64 HID.out).2)
          have hlm : (Ff.step l kd id co).length ≤ k + 1 := by have := Ff.length_step l kd id co; have := HL.out; omega
          clear HT HGD HL hl1
          generalize Ff.step l kd id co = m at *
          have hl2 : m.length ≤ 1000 := by omega
          have HM := Lib.hid hm.out.1
          have HC2 := Lib.hid hm.out.2
          clear hm
          have K1 := Lib.hid (two_head _ hl2 HM.out)
          have KA := Lib.hid (fun W (hW : TwoF w P m m a' Q (actO kd id co) W) => two_all W hl2 hW)
          have KS := Lib.hid (fun b cb W (hb : eltI.View W b m) (ha : eltI.View W a' m) => refSameC b a' cb cap' m W (by omega) hb ha)
          have KE := Lib.hid (fun W (hW : TwoF w P m m a' Q (actO kd id co) W) => two_len W hl2 hW)
          have KC := Lib.hid (fun W (hW : TwoF w P m m a' Q (actO kd id co) W) => two_cost W hW)
          have KRC := Lib.hid (fun W (hW : TwoF w P m m a' Q (actO kd id co) W) => two_refcost (cap := cap') W hl2 HGM.out hW)
          have KH := Lib.hid (fun W (hW : TwoF w P m m a' Q (actO kd id co) W) => two_has id W HID.out hW)
          have KF := Lib.hid (fun W (hW : TwoF w P m m a' Q (actO kd id co) W) => two_reffind (cap := cap') id W hl2 hW)
          have hpg : decide (Ff.place m id ≥ 0) = Ff.has m id := by
            cases hh : Ff.has m id with
            | true => exact decide_eq_true ((Ff.place_ge m id).2 hh)
            | false => exact decide_eq_false (fun e => by rw [(Ff.place_ge m id).1 e] at hh; cases hh)
          have HBL := Lib.hid (fun W W' X x1 x2 (hW : TwoF w P m m a' Q (actO kd id co) W ∧ W.heap[X]? = some (itO x1 x2)) (hb : Below W.heap.size W W') => (show TwoF w P m m a' Q (actO kd id co) W' ∧ W'.heap[X]? = some (itO x1 x2) from ⟨hW.1.below hb, (hb.block X (lt_block hW.2)).trans hW.2⟩))
          have HEND := Lib.hid (fun W (hW : TwoF w P m m a' Q (actO kd id co) W) => hW.two)
          generalize hN : m.length = N at KA KS KE KC KRC KH KF hlm hl2 HC2 ⊢
          generalize Ff.cost m = cm at KC KRC
          generalize Ff.place m id = pm at KF hpg
          generalize Ff.has m id = bm at KH hpg
          have hrel2 : Hid (∀ W, TwoF w P m m a' Q (actO kd id co) W → TwoV w P m m a' W ∧ (a' = none → cap' = 0) ∧ m.length ≤ cap' ∧ Ff.Good m ∧ m.length ≤ k + 1) := Lib.hid (fun W hW => ⟨hW.two, HC2.out.1, by rw [hN]; exact HC2.out.2, HGM.out, by rw [hN]; exact hlm⟩)
          have HNN := Lib.hid hN
          have HBX := Lib.hid (fun W x1 x2 (hW : TwoF w P m m a' Q (actO kd id co) W) => (show TwoF w P m m a' Q (actO kd id co) (W.alloc (itO x1 x2)) ∧ (W.alloc (itO x1 x2)).heap[W.heap.size]? = some (itO x1 x2) from ⟨hW.below ((Below.refl _ _).alloc (Nat.le_refl _) _), heap_alloc_new _ _⟩))
          unfold itemV at K1
          cases m with
          | nil =>
            obtain rfl : N = 0 := by rw [← hN]; rfl
            simp only [List.head?_nil, Option.getD_none, Option.isSome_none] at K1
            clear hN HNN
            go_upto_region 27 with (go_at_call 14; (with_reducible refine K1.out.mono ?_); rintro e wB ⟨rfl, hB⟩; have HB := Lib.hid (HBX.out _ 0 0 hB); clear hB)
            have HS := Lib.hid (fun W (hW : TwoF w P [] [] a' Q (actO kd id co) W ∧ W.heap[wB.heap.size]? = some (itO 0 0)) => act_cells hW.1.q)
            replace HBL := Lib.hid (fun W W' => HBL.out W W' wB.heap.size 0 0)
            refine wp_region_any (by kernel_rfl) ?_
            change wpAny _ _ _ _ _ _ _ (World.drew _)
            refine wpAny_of_held (S := fun W => TwoF w P [] [] a' Q (actO kd id co) W ∧ W.heap[wB.heap.size]? = some (itO 0 0)) _ _ _ _ ?_
            have hS := HBL.out _ _ HB.out (Below.refl _ _).drew
            refine takeH 0 135 ?_ rfl rfl (by kernel_rfl) (by kernel_rfl) (by kernel_rfl) (fun _ _ _ h => h) (Or.inl ⟨by kernel_rfl, ?_⟩) hS ?_; rotate_left; (intro w' hw; skip; first | (go_simp; done) | (go_simp; with_reducible rfl)); rotate_left
            try simp only [List.setIfInBounds_toArray, List.set_cons_zero, List.set_cons_succ]
            refine takeH 1 136 ?_ rfl rfl (by kernel_rfl) (by kernel_rfl) (by kernel_rfl) (fun _ _ _ h => h) (Or.inl ⟨by kernel_rfl, ?_⟩) hS ?_; rotate_left; (intro w' hw; skip; first | (go_simp; done) | (go_simp; with_reducible rfl)); rotate_left
            try simp only [List.setIfInBounds_toArray, List.set_cons_zero, List.set_cons_succ]
            refine takeH 2 137 ?_ rfl rfl (by kernel_rfl) (by kernel_rfl) (by kernel_rfl) (fun _ _ _ h => h) (Or.inl ⟨by kernel_rfl, ?_⟩) hS ?_; rotate_left; (intro w' hw; skip; first | (go_simp; done) | (go_simp; with_reducible rfl)); rotate_left
            try simp only [List.setIfInBounds_toArray, List.set_cons_zero, List.set_cons_succ]
            refine takeH 3 138 ?_ rfl rfl (by kernel_rfl) (by kernel_rfl) (by kernel_rfl) (fun _ _ _ h => h) (Or.inl ⟨by kernel_rfl, ?_⟩) hS ?_; rotate_left; (intro w' hw; skip; first | (go_simp; done) | (go_simp; with_reducible rfl)); rotate_left
            try simp only [List.setIfInBounds_toArray, List.set_cons_zero, List.set_cons_succ]
            refine takeH 4 139 ?_ rfl rfl (by kernel_rfl) (by kernel_rfl) (by kernel_rfl) (fun _ _ _ h => h) (Or.inl ⟨by kernel_rfl, ?_⟩) hS ?_; rotate_left; (intro w' hw; skip; first | (go_simp; done) | (go_simp; with_reducible rfl)); rotate_left
            try simp only [List.setIfInBounds_toArray, List.set_cons_zero, List.set_cons_succ]
            refine takeH 5 140 ?_ rfl rfl (by kernel_rfl) (by kernel_rfl) (by kernel_rfl) (fun _ _ _ h => h) (Or.inl ⟨by kernel_rfl, ?_⟩) hS ?_; rotate_left; (intro w' hw; skip; first | (go_simp; done) | (go_simp; with_reducible rfl)); rotate_left
            try simp only [List.setIfInBounds_toArray, List.set_cons_zero, List.set_cons_succ]
            refine takeH 6 141 ?_ rfl rfl (by kernel_rfl) (by kernel_rfl) (by kernel_rfl) (fun _ _ _ h => h) (Or.inl ⟨by kernel_rfl, ?_⟩) hS ?_; rotate_left; (intro w' hw; skip; first | (go_simp; done) | (go_simp; with_reducible rfl)); rotate_left
            try simp only [List.setIfInBounds_toArray, List.set_cons_zero, List.set_cons_succ]
            refine takeH 7 142 ?_ rfl rfl (by kernel_rfl) (by kernel_rfl) (by kernel_rfl) (fun _ _ _ h => h) (Or.inl ⟨by kernel_rfl, ?_⟩) hS ?_; rotate_left; (intro w' hw; skip; first | (go_simp; done) | (go_simp; with_reducible rfl)); rotate_left
            try simp only [List.setIfInBounds_toArray, List.set_cons_zero, List.set_cons_succ]
            refine takeH 8 143 undef rfl rfl (by kernel_rfl) (by kernel_rfl) (by kernel_rfl) (fun _ _ _ h => h) (Or.inr ⟨by kernel_rfl, rfl⟩) hS ?_
            try simp only [List.setIfInBounds_toArray, List.set_cons_zero, List.set_cons_succ]
            refine takeH 9 144 undef rfl rfl (by kernel_rfl) (by kernel_rfl) (by kernel_rfl) (fun _ _ _ h => h) (Or.inr ⟨by kernel_rfl, rfl⟩) hS ?_
            try simp only [List.setIfInBounds_toArray, List.set_cons_zero, List.set_cons_succ]
            refine takeH 10 145 undef rfl rfl (by kernel_rfl) (by kernel_rfl) (by kernel_rfl) (fun _ _ _ h => h) (Or.inr ⟨by kernel_rfl, rfl⟩) hS ?_
            try simp only [List.setIfInBounds_toArray, List.set_cons_zero, List.set_cons_succ]
            refine takeH 11 146 undef rfl rfl (by kernel_rfl) (by kernel_rfl) (by kernel_rfl) (fun _ _ _ h => h) (Or.inr ⟨by kernel_rfl, rfl⟩) hS ?_
            try simp only [List.setIfInBounds_toArray, List.set_cons_zero, List.set_cons_succ]
            refine takeH 12 147 undef rfl rfl (by kernel_rfl) (by kernel_rfl) (by kernel_rfl) (fun _ _ _ h => h) (Or.inr ⟨by kernel_rfl, rfl⟩) hS ?_
            try simp only [List.setIfInBounds_toArray, List.set_cons_zero, List.set_cons_succ]
            refine takeH 13 148 ?_ rfl rfl (by kernel_rfl) (by kernel_rfl) (by kernel_rfl) (fun _ _ _ h => h) (Or.inl ⟨by kernel_rfl, ?_⟩) hS ?_; rotate_left; (intro w' hw; skip; first | (go_simp; done) | (go_simp; with_reducible rfl)); rotate_left
            try simp only [List.setIfInBounds_toArray, List.set_cons_zero, List.set_cons_succ]
            refine takeH 14 149 ?_ rfl rfl (by kernel_rfl) (by kernel_rfl) (by kernel_rfl) (fun _ _ _ h => h) (Or.inl ⟨by kernel_rfl, ?_⟩) hS ?_; rotate_left; (intro w' hw; skip; first | (go_simp; done) | (go_simp; with_reducible rfl)); rotate_left
            try simp only [List.setIfInBounds_toArray, List.set_cons_zero, List.set_cons_succ]
            refine takeH 15 150 ?_ rfl rfl (by kernel_rfl) (by kernel_rfl) (by kernel_rfl) (fun _ _ _ h => h) (Or.inl ⟨by kernel_rfl, ?_⟩) hS ?_; rotate_left; (intro w' hw; skip; first | (go_simp; done) | (go_simp; with_reducible rfl)); rotate_left
            try simp only [List.setIfInBounds_toArray, List.set_cons_zero, List.set_cons_succ]
            refine takeH 16 151 ?_ rfl rfl (by kernel_rfl) (by kernel_rfl) (by kernel_rfl) (fun _ _ _ h => h) (Or.inl ⟨by kernel_rfl, ?_⟩) hS ?_; rotate_left; (intro w' hw; skip; first | (go_simp; done) | (go_simp; with_reducible rfl)); rotate_left
            try simp only [List.setIfInBounds_toArray, List.set_cons_zero, List.set_cons_succ]
            refine takeH 18 153 ?_ rfl rfl (by kernel_rfl) (by kernel_rfl) (by kernel_rfl) (fun _ _ _ h => h) (Or.inl ⟨by kernel_rfl, ?_⟩) hS ?_; rotate_left; (intro w' hw; skip; first | (go_simp; done) | (go_simp; with_reducible rfl)); rotate_left
            try simp only [List.setIfInBounds_toArray, List.set_cons_zero, List.set_cons_succ]
            refine wpAnyH_ready (rs := [17]) (by kernel_rfl) (by simp) ?_; refine AllReadyH.cons rfl (fun K2 hK => ?_) AllReadyH.nil; go_simp; go_wp2_with (go_at_call 16; (with_reducible refine (KA.out _ hS.1).mono ?_); rintro e wN ⟨b, cb, rfl, hN2⟩; have HVB := Lib.hid hN2.out.1; replace hS := HBL.out _ _ hS hN2.out.2; clear hN2); refine hK.out _ _ ?_ (fun _ => ?_); (exact hS); clear hK K2
            refine wpAnyH_ready (rs := [19]) (by kernel_rfl) (by simp) ?_; refine AllReadyH.cons rfl (fun K2 hK => ?_) AllReadyH.nil; go_simp; go_wp2_with (go_at_call 15; (with_reducible refine (KS.out _ _ _ HVB.out hS.1.v).mono ?_); rintro e wS ⟨rfl, hbS⟩; replace hS := HBL.out _ _ hS hbS; clear hbS); refine hK.out _ _ ?_ (fun _ => ?_); (exact hS); clear hK K2
            refine takeH 20 155 ?_ rfl rfl (by kernel_rfl) (by kernel_rfl) (by kernel_rfl) (fun _ _ _ h => h) (Or.inl ⟨by kernel_rfl, ?_⟩) hS ?_; rotate_left; (intro w' hw; skip; first | (go_simp; done) | (go_simp; with_reducible rfl)); rotate_left
            try simp only [List.setIfInBounds_toArray, List.set_cons_zero, List.set_cons_succ]
            refine takeH 21 156 ?_ rfl rfl (by kernel_rfl) (by kernel_rfl) (by kernel_rfl) (fun _ _ _ h => h) (Or.inl ⟨by kernel_rfl, ?_⟩) hS ?_; rotate_left; (intro w' hw; skip; first | (go_simp; done) | (go_simp; with_reducible rfl)); rotate_left
            try simp only [List.setIfInBounds_toArray, List.set_cons_zero, List.set_cons_succ]
            refine takeH 22 157 ?_ rfl rfl (by kernel_rfl) (by kernel_rfl) (by kernel_rfl) (fun _ _ _ h => h) (Or.inl ⟨by kernel_rfl, ?_⟩) hS ?_; rotate_left; (intro w' hw; skip; first | (go_simp; done) | (go_simp; with_reducible rfl)); rotate_left
            try simp only [List.setIfInBounds_toArray, List.set_cons_zero, List.set_cons_succ]
            refine takeH 23 158 ?_ rfl rfl (by kernel_rfl) (by kernel_rfl) (by kernel_rfl) (fun _ _ _ h => h) (Or.inl ⟨by kernel_rfl, ?_⟩) hS ?_; rotate_left; (intro w' hw; skip; first | (go_simp; done) | (go_simp; with_reducible rfl)); rotate_left
            try simp only [List.setIfInBounds_toArray, List.set_cons_zero, List.set_cons_succ]
            refine takeH 25 160 ?_ rfl rfl (by kernel_rfl) (by kernel_rfl) (by kernel_rfl) (fun _ _ _ h => h) (Or.inl ⟨by kernel_rfl, ?_⟩) hS ?_; rotate_left; (intro w' hw; skip; first | (go_simp; done) | (go_simp; with_reducible rfl)); rotate_left
            try simp only [List.setIfInBounds_toArray, List.set_cons_zero, List.set_cons_succ]
            refine takeH 26 161 ?_ rfl rfl (by kernel_rfl) (by kernel_rfl) (by kernel_rfl) (fun _ _ _ h => h) (Or.inl ⟨by kernel_rfl, ?_⟩) hS ?_; rotate_left; (intro w' hw; skip; first | (go_simp; done) | (go_simp; with_reducible rfl)); rotate_left
            try simp only [List.setIfInBounds_toArray, List.set_cons_zero, List.set_cons_succ]
            refine wpAnyH_ready (rs := [24]) (by kernel_rfl) (by simp) ?_; refine AllReadyH.cons rfl (fun K2 hK => ?_) AllReadyH.nil; go_simp; go_wp2_with (go_at_call 17; (with_reducible refine (KE.out _ hS.1).mono ?_); rintro e wF ⟨rfl, rfl⟩); refine hK.out _ _ ?_ (fun _ => ?_); (exact hS); clear hK K2
            refine takeH 27 162 ?_ rfl rfl (by kernel_rfl) (by kernel_rfl) (by kernel_rfl) (fun _ _ _ h => h) (Or.inl ⟨by kernel_rfl, ?_⟩) hS ?_; rotate_left; (intro w' hw; skip; first | (go_simp; done) | (go_simp; with_reducible rfl)); rotate_left
            try simp only [List.setIfInBounds_toArray, List.set_cons_zero, List.set_cons_succ]
            refine takeH 28 163 ?_ rfl rfl (by kernel_rfl) (by kernel_rfl) (by kernel_rfl) (fun _ _ _ h => h) (Or.inl ⟨by kernel_rfl, ?_⟩) hS ?_; rotate_left; (intro w' hw; skip; first | (go_simp; done) | (go_simp; with_reducible rfl)); rotate_left
            try simp only [List.setIfInBounds_toArray, List.set_cons_zero, List.set_cons_succ]
            refine takeH 29 164 ?_ rfl rfl (by kernel_rfl) (by kernel_rfl) (by kernel_rfl) (fun _ _ _ h => h) (Or.inl ⟨by kernel_rfl, ?_⟩) hS ?_; rotate_left; (intro w' hw; skip; first | (go_simp; done) | (go_simp; with_reducible rfl)); rotate_left
            try simp only [List.setIfInBounds_toArray, List.set_cons_zero, List.set_cons_succ]
            refine takeH 30 165 ?_ rfl rfl (by kernel_rfl) (by kernel_rfl) (by kernel_rfl) (fun _ _ _ h => h) (Or.inl ⟨by kernel_rfl, ?_⟩) hS ?_; rotate_left; (intro w' hw; skip; first | (go_simp; done) | (go_simp; with_reducible rfl)); rotate_left
            try simp only [List.setIfInBounds_toArray, List.set_cons_zero, List.set_cons_succ]
            refine takeH 32 167 ?_ rfl rfl (by kernel_rfl) (by kernel_rfl) (by kernel_rfl) (fun _ _ _ h => h) (Or.inl ⟨by kernel_rfl, ?_⟩) hS ?_; rotate_left; (intro w' hw; skip; first | (go_simp; done) | (go_simp; with_reducible rfl)); rotate_left
            try simp only [List.setIfInBounds_toArray, List.set_cons_zero, List.set_cons_succ]
            refine wpAnyH_ready (rs := [31]) (by kernel_rfl) (by simp) ?_; refine AllReadyH.cons rfl (fun K2 hK => ?_) AllReadyH.nil; go_simp; go_wp2_with (go_at_call 18; (with_reducible refine (KC.out _ hS.1).mono ?_); rintro e wF ⟨rfl, rfl⟩); refine hK.out _ _ ?_ (fun _ => ?_); (exact hS); clear hK K2
            refine wpAnyH_ready (rs := [33]) (by kernel_rfl) (by simp) ?_; refine AllReadyH.cons rfl (fun K2 hK => ?_) AllReadyH.nil; go_simp; go_wp2_with (go_at_call 19; (with_reducible refine (KRC.out _ hS.1).mono ?_); rintro e wF ⟨rfl, rfl⟩); refine hK.out _ _ ?_ (fun _ => ?_); (exact hS); clear hK K2
            refine takeH 34 169 ?_ rfl rfl (by kernel_rfl) (by kernel_rfl) (by kernel_rfl) (fun _ _ _ h => h) (Or.inl ⟨by kernel_rfl, ?_⟩) hS ?_; rotate_left; (intro w' hw; skip; first | (go_simp; done) | (go_simp; with_reducible rfl)); rotate_left
            try simp only [List.setIfInBounds_toArray, List.set_cons_zero, List.set_cons_succ]
            refine takeH 35 170 ?_ rfl rfl (by kernel_rfl) (by kernel_rfl) (by kernel_rfl) (fun _ _ _ h => h) (Or.inl ⟨by kernel_rfl, ?_⟩) hS ?_; rotate_left; (intro w' hw; skip; first | (go_simp; done) | (go_simp; with_reducible rfl)); rotate_left
            try simp only [List.setIfInBounds_toArray, List.set_cons_zero, List.set_cons_succ]
            refine takeH 36 171 ?_ rfl rfl (by kernel_rfl) (by kernel_rfl) (by kernel_rfl) (fun _ _ _ h => h) (Or.inl ⟨by kernel_rfl, ?_⟩) hS ?_; rotate_left; (intro w' hw; skip; first | (go_simp; done) | (go_simp; with_reducible rfl)); rotate_left
            try simp only [List.setIfInBounds_toArray, List.set_cons_zero, List.set_cons_succ]
            refine takeH 37 172 ?_ rfl rfl (by kernel_rfl) (by kernel_rfl) (by kernel_rfl) (fun _ _ _ h => h) (Or.inl ⟨by kernel_rfl, ?_⟩) hS ?_; rotate_left; (intro w' hw; skip; first | (go_simp; done) | (go_simp; with_reducible rfl)); rotate_left
            try simp only [List.setIfInBounds_toArray, List.set_cons_zero, List.set_cons_succ]
            refine takeH 38 173 ?_ rfl rfl (by kernel_rfl) (by kernel_rfl) (by kernel_rfl) (fun _ _ _ h => h) (Or.inl ⟨by kernel_rfl, ?_⟩) hS ?_; rotate_left; (intro w' hw; skip; first | (go_simp; done) | (go_simp; with_reducible rfl)); rotate_left
            try simp only [List.setIfInBounds_toArray, List.set_cons_zero, List.set_cons_succ]
            refine takeH 39 174 ?_ rfl rfl (by kernel_rfl) (by kernel_rfl) (by kernel_rfl) (fun _ _ _ h => h) (Or.inl ⟨by kernel_rfl, ?_⟩) hS ?_; rotate_left; (intro w' hw; obtain ⟨z0, z1, z2⟩ := HS.out _ hw; first | (go_simp; done) | (go_simp; with_reducible rfl)); rotate_left
            try simp only [List.setIfInBounds_toArray, List.set_cons_zero, List.set_cons_succ]
            refine takeH 41 176 ?_ rfl rfl (by kernel_rfl) (by kernel_rfl) (by kernel_rfl) (fun _ _ _ h => h) (Or.inl ⟨by kernel_rfl, ?_⟩) hS ?_; rotate_left; (intro w' hw; skip; first | (go_simp; done) | (go_simp; with_reducible rfl)); rotate_left
            try simp only [List.setIfInBounds_toArray, List.set_cons_zero, List.set_cons_succ]
            refine takeH 42 177 ?_ rfl rfl (by kernel_rfl) (by kernel_rfl) (by kernel_rfl) (fun _ _ _ h => h) (Or.inl ⟨by kernel_rfl, ?_⟩) hS ?_; rotate_left; (intro w' hw; skip; first | (go_simp; done) | (go_simp; with_reducible rfl)); rotate_left
            try simp only [List.setIfInBounds_toArray, List.set_cons_zero, List.set_cons_succ]
            refine takeH 43 178 ?_ rfl rfl (by kernel_rfl) (by kernel_rfl) (by kernel_rfl) (fun _ _ _ h => h) (Or.inl ⟨by kernel_rfl, ?_⟩) hS ?_; rotate_left; (intro w' hw; obtain ⟨z0, z1, z2⟩ := HS.out _ hw; first | (go_simp; done) | (go_simp; with_reducible rfl)); rotate_left
            try simp only [List.setIfInBounds_toArray, List.set_cons_zero, List.set_cons_succ]
            refine wpAnyH_ready (rs := [40]) (by kernel_rfl) (by simp) ?_; refine AllReadyH.cons rfl (fun K2 hK => ?_) AllReadyH.nil; go_simp; go_wp2_with (go_at_call 20; (with_reducible refine (KH.out _ hS.1).mono ?_); rintro e wF ⟨rfl, rfl⟩); refine hK.out _ _ ?_ (fun _ => ?_); (exact hS); clear hK K2
            refine wpAnyH_ready (rs := [44]) (by kernel_rfl) (by simp) ?_; refine AllReadyH.cons rfl (fun K2 hK => ?_) AllReadyH.nil; go_simp; go_wp2_with (go_at_call 12; (with_reducible refine (KF.out _ hS.1).mono ?_); rintro e wF ⟨rfl, rfl⟩); refine hK.out _ _ ?_ (fun _ => ?_); (exact hS); clear hK K2
            refine takeH 45 180 ?_ rfl rfl (by kernel_rfl) (by kernel_rfl) (by kernel_rfl) (fun _ _ _ h => h) (Or.inl ⟨by kernel_rfl, ?_⟩) hS ?_; rotate_left; (intro w' hw; skip; first | (go_simp; done) | (go_simp; with_reducible rfl)); rotate_left
            try simp only [List.setIfInBounds_toArray, List.set_cons_zero, List.set_cons_succ]
            refine takeH 46 181 ?_ rfl rfl (by kernel_rfl) (by kernel_rfl) (by kernel_rfl) (fun _ _ _ h => h) (Or.inl ⟨by kernel_rfl, ?_⟩) hS ?_; rotate_left; (intro w' hw; skip; first | (go_simp; done) | (go_simp; with_reducible rfl)); rotate_left
            try simp only [List.setIfInBounds_toArray, List.set_cons_zero, List.set_cons_succ]
            refine takeH 47 182 ?_ rfl rfl (by kernel_rfl) (by kernel_rfl) (by kernel_rfl) (fun _ _ _ h => h) (Or.inl ⟨by kernel_rfl, ?_⟩) hS ?_; rotate_left; (intro w' hw; skip; first | (go_simp; done) | (go_simp; with_reducible rfl)); rotate_left
            try simp only [List.setIfInBounds_toArray, List.set_cons_zero, List.set_cons_succ]
            refine wpAnyH_done (by kernel_rfl) ?_ _
            go_wp2
            go_roundw
            case rel => exact ⟨k + 1, [], a', cap', by omega, by go_num, rfl, Lib.hid (hrel2.out _ hS.1)⟩
            case measure => simp [intOf]; omega
          | cons x m =>
            have hpos : 0 < N := by rw [← hN]; simp
            obtain ⟨x1, x2⟩ := x
            simp only [List.head?_cons, Option.getD_some, Option.isSome_some] at K1
            obtain ⟨g2, off2, rfl, hg2, _⟩ := items_at HM.out.v (by simp)
            have HNQ := Lib.hid hN
            clear hN HNN
            go_upto_region 27 with (go_at_call 14; (with_reducible refine K1.out.mono ?_); rintro e wB ⟨rfl, hB⟩; have HB := Lib.hid (HBX.out _ x1 x2 hB); clear hB)
            have HS := Lib.hid (fun W (hW : TwoF w P ((x1, x2) :: m) ((x1, x2) :: m) (some ⟨g2, off2, none⟩) Q (actO kd id co) W ∧ W.heap[wB.heap.size]? = some (itO x1 x2)) => (show W.cell? ⟨Q, 1, none⟩ = some (.int .i64 id) ∧ W.cell? ⟨wB.heap.size, 0, none⟩ = some (.int .i64 x1) ∧ W.cell? ⟨wB.heap.size, 1, none⟩ = some (.int .i64 x2) ∧ W.cell? ⟨g2, off2, none⟩ = some (.int .i64 x1) ∧ W.cell? ⟨g2, off2 + 1, none⟩ = some (.int .i64 x2) from by
              obtain ⟨g3, off3, e, _, hc3⟩ := items_at hW.1.v (by simp)
              cases e
              have := hc3 0 (by simp)
              exact ⟨(act_cells hW.1.q).2.1, by rw [cell_of_row _ _ _ _ _ _ hW.2]; rfl, by rw [cell_of_row _ _ _ _ _ _ hW.2]; rfl, by simpa using this.1, by simpa using this.2⟩))
            replace HBL := Lib.hid (fun W W' => HBL.out W W' wB.heap.size x1 x2)
            refine wp_region_any (by kernel_rfl) ?_
            change wpAny _ _ _ _ _ _ _ (World.drew _)
            refine wpAny_of_held (S := fun W => TwoF w P ((x1, x2) :: m) ((x1, x2) :: m) (some ⟨g2, off2, none⟩) Q (actO kd id co) W ∧ W.heap[wB.heap.size]? = some (itO x1 x2)) _ _ _ _ ?_
            have hS := HBL.out _ _ HB.out (Below.refl _ _).drew
            refine takeH 0 135 ?_ rfl rfl (by kernel_rfl) (by kernel_rfl) (by kernel_rfl) (fun _ _ _ h => h) (Or.inl ⟨by kernel_rfl, ?_⟩) hS ?_; rotate_left; (intro w' hw; skip; first | (go_simp; done) | (go_simp; with_reducible rfl)); rotate_left
            try simp only [List.setIfInBounds_toArray, List.set_cons_zero, List.set_cons_succ]
            refine takeH 1 136 ?_ rfl rfl (by kernel_rfl) (by kernel_rfl) (by kernel_rfl) (fun _ _ _ h => h) (Or.inl ⟨by kernel_rfl, ?_⟩) hS ?_; rotate_left; (intro w' hw; skip; first | (go_simp; done) | (go_simp; with_reducible rfl)); rotate_left
            try simp only [List.setIfInBounds_toArray, List.set_cons_zero, List.set_cons_succ]
            refine takeH 2 137 ?_ rfl rfl (by kernel_rfl) (by kernel_rfl) (by kernel_rfl) (fun _ _ _ h => h) (Or.inl ⟨by kernel_rfl, ?_⟩) hS ?_; rotate_left; (intro w' hw; skip; first | (go_simp; done) | (go_simp; with_reducible rfl)); rotate_left
            try simp only [List.setIfInBounds_toArray, List.set_cons_zero, List.set_cons_succ]
            refine takeH 3 138 ?_ rfl rfl (by kernel_rfl) (by kernel_rfl) (by kernel_rfl) (fun _ _ _ h => h) (Or.inl ⟨by kernel_rfl, ?_⟩) hS ?_; rotate_left; (intro w' hw; skip; first | (go_simp; done) | (go_simp; with_reducible rfl)); rotate_left
            try simp only [List.setIfInBounds_toArray, List.set_cons_zero, List.set_cons_succ]
            refine takeH 4 139 ?_ rfl rfl (by kernel_rfl) (by kernel_rfl) (by kernel_rfl) (fun _ _ _ h => h) (Or.inl ⟨by kernel_rfl, ?_⟩) hS ?_; rotate_left; (intro w' hw; skip; first | (go_simp; done) | (go_simp; with_reducible rfl)); rotate_left
            try simp only [List.setIfInBounds_toArray, List.set_cons_zero, List.set_cons_succ]
            refine takeH 5 140 ?_ rfl rfl (by kernel_rfl) (by kernel_rfl) (by kernel_rfl) (fun _ _ _ h => h) (Or.inl ⟨by kernel_rfl, ?_⟩) hS ?_; rotate_left; (intro w' hw; skip; first | (go_simp; done) | (go_simp; with_reducible rfl)); rotate_left
            try simp only [List.setIfInBounds_toArray, List.set_cons_zero, List.set_cons_succ]
            refine takeH 6 141 ?_ rfl rfl (by kernel_rfl) (by kernel_rfl) (by kernel_rfl) (fun _ _ _ h => h) (Or.inl ⟨by kernel_rfl, ?_⟩) hS ?_; rotate_left; (intro w' hw; skip; first | (go_simp; done) | (go_simp; with_reducible rfl)); rotate_left
            try simp only [List.setIfInBounds_toArray, List.set_cons_zero, List.set_cons_succ]
            refine takeH 7 142 ?_ rfl rfl (by kernel_rfl) (by kernel_rfl) (by kernel_rfl) (fun _ _ _ h => h) (Or.inl ⟨by kernel_rfl, ?_⟩) hS ?_; rotate_left; (intro w' hw; skip; first | (go_simp; done) | (go_simp; with_reducible rfl)); rotate_left
            try simp only [List.setIfInBounds_toArray, List.set_cons_zero, List.set_cons_succ]
            refine takeH 8 143 ?_ rfl rfl (by kernel_rfl) (by kernel_rfl) (by kernel_rfl) (fun _ _ _ h => h) (Or.inl ⟨by kernel_rfl, ?_⟩) hS ?_; rotate_left; (intro w' hw; obtain ⟨z0, z1, z2, z3, z4⟩ := HS.out _ hw; first | (go_simp; done) | (go_simp; with_reducible rfl)); rotate_left
            try simp only [List.setIfInBounds_toArray, List.set_cons_zero, List.set_cons_succ]
            refine takeH 9 144 ?_ rfl rfl (by kernel_rfl) (by kernel_rfl) (by kernel_rfl) (fun _ _ _ h => h) (Or.inl ⟨by kernel_rfl, ?_⟩) hS ?_; rotate_left; (intro w' hw; skip; first | (go_simp; done) | (go_simp; with_reducible rfl)); rotate_left
            try simp only [List.setIfInBounds_toArray, List.set_cons_zero, List.set_cons_succ]
            refine takeH 10 145 ?_ rfl rfl (by kernel_rfl) (by kernel_rfl) (by kernel_rfl) (fun _ _ _ h => h) (Or.inl ⟨by kernel_rfl, ?_⟩) hS ?_; rotate_left; (intro w' hw; skip; first | (go_simp; done) | (go_simp; with_reducible rfl)); rotate_left
            try simp only [List.setIfInBounds_toArray, List.set_cons_zero, List.set_cons_succ]
            refine takeH 11 146 ?_ rfl rfl (by kernel_rfl) (by kernel_rfl) (by kernel_rfl) (fun _ _ _ h => h) (Or.inl ⟨by kernel_rfl, ?_⟩) hS ?_; rotate_left; (intro w' hw; obtain ⟨z0, z1, z2, z3, z4⟩ := HS.out _ hw; first | (go_simp; done) | (go_simp; with_reducible rfl)); rotate_left
            try simp only [List.setIfInBounds_toArray, List.set_cons_zero, List.set_cons_succ]
            refine takeH 12 147 ?_ rfl rfl (by kernel_rfl) (by kernel_rfl) (by kernel_rfl) (fun _ _ _ h => h) (Or.inl ⟨by kernel_rfl, ?_⟩) hS ?_; rotate_left; (intro w' hw; skip; first | (go_simp; done) | (go_simp; with_reducible rfl)); rotate_left
            try simp only [List.setIfInBounds_toArray, List.set_cons_zero, List.set_cons_succ]
            refine takeH 13 148 ?_ rfl rfl (by kernel_rfl) (by kernel_rfl) (by kernel_rfl) (fun _ _ _ h => h) (Or.inl ⟨by kernel_rfl, ?_⟩) hS ?_; rotate_left; (intro w' hw; skip; first | (go_simp; done) | (go_simp; with_reducible rfl)); rotate_left
            try simp only [List.setIfInBounds_toArray, List.set_cons_zero, List.set_cons_succ]
            refine takeH 14 149 ?_ rfl rfl (by kernel_rfl) (by kernel_rfl) (by kernel_rfl) (fun _ _ _ h => h) (Or.inl ⟨by kernel_rfl, ?_⟩) hS ?_; rotate_left; (intro w' hw; skip; first | (go_simp; done) | (go_simp; with_reducible rfl)); rotate_left
            try simp only [List.setIfInBounds_toArray, List.set_cons_zero, List.set_cons_succ]
            refine takeH 15 150 ?_ rfl rfl (by kernel_rfl) (by kernel_rfl) (by kernel_rfl) (fun _ _ _ h => h) (Or.inl ⟨by kernel_rfl, ?_⟩) hS ?_; rotate_left; (intro w' hw; skip; first | (go_simp; done) | (go_simp; with_reducible rfl)); rotate_left
            try simp only [List.setIfInBounds_toArray, List.set_cons_zero, List.set_cons_succ]
            refine takeH 16 151 ?_ rfl rfl (by kernel_rfl) (by kernel_rfl) (by kernel_rfl) (fun _ _ _ h => h) (Or.inl ⟨by kernel_rfl, ?_⟩) hS ?_; rotate_left; (intro w' hw; skip; first | (go_simp; done) | (go_simp; with_reducible rfl)); rotate_left
            try simp only [List.setIfInBounds_toArray, List.set_cons_zero, List.set_cons_succ]
            refine takeH 18 153 ?_ rfl rfl (by kernel_rfl) (by kernel_rfl) (by kernel_rfl) (fun _ _ _ h => h) (Or.inl ⟨by kernel_rfl, ?_⟩) hS ?_; rotate_left; (intro w' hw; skip; first | (go_simp; done) | (go_simp; with_reducible rfl)); rotate_left
            try simp only [List.setIfInBounds_toArray, List.set_cons_zero, List.set_cons_succ]
            refine wpAnyH_ready (rs := [17]) (by kernel_rfl) (by simp) ?_; refine AllReadyH.cons rfl (fun K2 hK => ?_) AllReadyH.nil; go_simp; go_wp2_with (go_at_call 16; (with_reducible refine (KA.out _ hS.1).mono ?_); rintro e wN ⟨b, cb, rfl, hN2⟩; have HVB := Lib.hid hN2.out.1; replace hS := HBL.out _ _ hS hN2.out.2; clear hN2); refine hK.out _ _ ?_ (fun _ => ?_); (exact hS); clear hK K2
            refine wpAnyH_ready (rs := [19]) (by kernel_rfl) (by simp) ?_; refine AllReadyH.cons rfl (fun K2 hK => ?_) AllReadyH.nil; go_simp; go_wp2_with (go_at_call 15; (with_reducible refine (KS.out _ _ _ HVB.out hS.1.v).mono ?_); rintro e wS ⟨rfl, hbS⟩; replace hS := HBL.out _ _ hS hbS; clear hbS); refine hK.out _ _ ?_ (fun _ => ?_); (exact hS); clear hK K2
            refine takeH 20 155 ?_ rfl rfl (by kernel_rfl) (by kernel_rfl) (by kernel_rfl) (fun _ _ _ h => h) (Or.inl ⟨by kernel_rfl, ?_⟩) hS ?_; rotate_left; (intro w' hw; skip; first | (go_simp; done) | (go_simp; with_reducible rfl)); rotate_left
            try simp only [List.setIfInBounds_toArray, List.set_cons_zero, List.set_cons_succ]
            refine takeH 21 156 ?_ rfl rfl (by kernel_rfl) (by kernel_rfl) (by kernel_rfl) (fun _ _ _ h => h) (Or.inl ⟨by kernel_rfl, ?_⟩) hS ?_; rotate_left; (intro w' hw; skip; first | (go_simp; done) | (go_simp; with_reducible rfl)); rotate_left
            try simp only [List.setIfInBounds_toArray, List.set_cons_zero, List.set_cons_succ]
            refine takeH 22 157 ?_ rfl rfl (by kernel_rfl) (by kernel_rfl) (by kernel_rfl) (fun _ _ _ h => h) (Or.inl ⟨by kernel_rfl, ?_⟩) hS ?_; rotate_left; (intro w' hw; skip; first | (go_simp; done) | (go_simp; with_reducible rfl)); rotate_left
            try simp only [List.setIfInBounds_toArray, List.set_cons_zero, List.set_cons_succ]
            refine takeH 23 158 ?_ rfl rfl (by kernel_rfl) (by kernel_rfl) (by kernel_rfl) (fun _ _ _ h => h) (Or.inl ⟨by kernel_rfl, ?_⟩) hS ?_; rotate_left; (intro w' hw; skip; first | (go_simp; done) | (go_simp; with_reducible rfl)); rotate_left
            try simp only [List.setIfInBounds_toArray, List.set_cons_zero, List.set_cons_succ]
            refine takeH 25 160 ?_ rfl rfl (by kernel_rfl) (by kernel_rfl) (by kernel_rfl) (fun _ _ _ h => h) (Or.inl ⟨by kernel_rfl, ?_⟩) hS ?_; rotate_left; (intro w' hw; skip; first | (go_simp; done) | (go_simp; with_reducible rfl)); rotate_left
            try simp only [List.setIfInBounds_toArray, List.set_cons_zero, List.set_cons_succ]
            refine takeH 26 161 ?_ rfl rfl (by kernel_rfl) (by kernel_rfl) (by kernel_rfl) (fun _ _ _ h => h) (Or.inl ⟨by kernel_rfl, ?_⟩) hS ?_; rotate_left; (intro w' hw; skip; first | (go_simp; done) | (go_simp; with_reducible rfl)); rotate_left
            try simp only [List.setIfInBounds_toArray, List.set_cons_zero, List.set_cons_succ]
            refine wpAnyH_ready (rs := [24]) (by kernel_rfl) (by simp) ?_; refine AllReadyH.cons rfl (fun K2 hK => ?_) AllReadyH.nil; go_simp; go_wp2_with (go_at_call 17; (with_reducible refine (KE.out _ hS.1).mono ?_); rintro e wF ⟨rfl, rfl⟩); refine hK.out _ _ ?_ (fun _ => ?_); (exact hS); clear hK K2
            refine takeH 27 162 ?_ rfl rfl (by kernel_rfl) (by kernel_rfl) (by kernel_rfl) (fun _ _ _ h => h) (Or.inl ⟨by kernel_rfl, ?_⟩) hS ?_; rotate_left; (intro w' hw; skip; first | (go_simp; done) | (go_simp; with_reducible rfl)); rotate_left
            try simp only [List.setIfInBounds_toArray, List.set_cons_zero, List.set_cons_succ]
            refine takeH 28 163 ?_ rfl rfl (by kernel_rfl) (by kernel_rfl) (by kernel_rfl) (fun _ _ _ h => h) (Or.inl ⟨by kernel_rfl, ?_⟩) hS ?_; rotate_left; (intro w' hw; skip; first | (go_simp; done) | (go_simp; with_reducible rfl)); rotate_left
            try simp only [List.setIfInBounds_toArray, List.set_cons_zero, List.set_cons_succ]
            refine takeH 29 164 ?_ rfl rfl (by kernel_rfl) (by kernel_rfl) (by kernel_rfl) (fun _ _ _ h => h) (Or.inl ⟨by kernel_rfl, ?_⟩) hS ?_; rotate_left; (intro w' hw; skip; first | (go_simp; done) | (go_simp; with_reducible rfl)); rotate_left
            try simp only [List.setIfInBounds_toArray, List.set_cons_zero, List.set_cons_succ]
            refine takeH 30 165 ?_ rfl rfl (by kernel_rfl) (by kernel_rfl) (by kernel_rfl) (fun _ _ _ h => h) (Or.inl ⟨by kernel_rfl, ?_⟩) hS ?_; rotate_left; (intro w' hw; skip; first | (go_simp; done) | (go_simp; with_reducible rfl)); rotate_left
            try simp only [List.setIfInBounds_toArray, List.set_cons_zero, List.set_cons_succ]
            refine takeH 32 167 ?_ rfl rfl (by kernel_rfl) (by kernel_rfl) (by kernel_rfl) (fun _ _ _ h => h) (Or.inl ⟨by kernel_rfl, ?_⟩) hS ?_; rotate_left; (intro w' hw; skip; first | (go_simp; done) | (go_simp; with_reducible rfl)); rotate_left
            try simp only [List.setIfInBounds_toArray, List.set_cons_zero, List.set_cons_succ]
            refine wpAnyH_ready (rs := [31]) (by kernel_rfl) (by simp) ?_; refine AllReadyH.cons rfl (fun K2 hK => ?_) AllReadyH.nil; go_simp; go_wp2_with (go_at_call 18; (with_reducible refine (KC.out _ hS.1).mono ?_); rintro e wF ⟨rfl, rfl⟩); refine hK.out _ _ ?_ (fun _ => ?_); (exact hS); clear hK K2
            refine wpAnyH_ready (rs := [33]) (by kernel_rfl) (by simp) ?_; refine AllReadyH.cons rfl (fun K2 hK => ?_) AllReadyH.nil; go_simp; go_wp2_with (go_at_call 19; (with_reducible refine (KRC.out _ hS.1).mono ?_); rintro e wF ⟨rfl, rfl⟩); refine hK.out _ _ ?_ (fun _ => ?_); (exact hS); clear hK K2
            refine takeH 34 169 ?_ rfl rfl (by kernel_rfl) (by kernel_rfl) (by kernel_rfl) (fun _ _ _ h => h) (Or.inl ⟨by kernel_rfl, ?_⟩) hS ?_; rotate_left; (intro w' hw; skip; first | (go_simp; done) | (go_simp; with_reducible rfl)); rotate_left
            try simp only [List.setIfInBounds_toArray, List.set_cons_zero, List.set_cons_succ]
            refine takeH 35 170 ?_ rfl rfl (by kernel_rfl) (by kernel_rfl) (by kernel_rfl) (fun _ _ _ h => h) (Or.inl ⟨by kernel_rfl, ?_⟩) hS ?_; rotate_left; (intro w' hw; skip; first | (go_simp; done) | (go_simp; with_reducible rfl)); rotate_left
            try simp only [List.setIfInBounds_toArray, List.set_cons_zero, List.set_cons_succ]
            refine takeH 36 171 ?_ rfl rfl (by kernel_rfl) (by kernel_rfl) (by kernel_rfl) (fun _ _ _ h => h) (Or.inl ⟨by kernel_rfl, ?_⟩) hS ?_; rotate_left; (intro w' hw; skip; first | (go_simp; done) | (go_simp; with_reducible rfl)); rotate_left
            try simp only [List.setIfInBounds_toArray, List.set_cons_zero, List.set_cons_succ]
            refine takeH 37 172 ?_ rfl rfl (by kernel_rfl) (by kernel_rfl) (by kernel_rfl) (fun _ _ _ h => h) (Or.inl ⟨by kernel_rfl, ?_⟩) hS ?_; rotate_left; (intro w' hw; skip; first | (go_simp; done) | (go_simp; with_reducible rfl)); rotate_left
            try simp only [List.setIfInBounds_toArray, List.set_cons_zero, List.set_cons_succ]
            refine takeH 38 173 ?_ rfl rfl (by kernel_rfl) (by kernel_rfl) (by kernel_rfl) (fun _ _ _ h => h) (Or.inl ⟨by kernel_rfl, ?_⟩) hS ?_; rotate_left; (intro w' hw; skip; first | (go_simp; done) | (go_simp; with_reducible rfl)); rotate_left
            try simp only [List.setIfInBounds_toArray, List.set_cons_zero, List.set_cons_succ]
            refine takeH 39 174 ?_ rfl rfl (by kernel_rfl) (by kernel_rfl) (by kernel_rfl) (fun _ _ _ h => h) (Or.inl ⟨by kernel_rfl, ?_⟩) hS ?_; rotate_left; (intro w' hw; obtain ⟨z0, z1, z2, z3, z4⟩ := HS.out _ hw; first | (go_simp; done) | (go_simp; with_reducible rfl)); rotate_left
            try simp only [List.setIfInBounds_toArray, List.set_cons_zero, List.set_cons_succ]
            refine takeH 41 176 ?_ rfl rfl (by kernel_rfl) (by kernel_rfl) (by kernel_rfl) (fun _ _ _ h => h) (Or.inl ⟨by kernel_rfl, ?_⟩) hS ?_; rotate_left; (intro w' hw; skip; first | (go_simp; done) | (go_simp; with_reducible rfl)); rotate_left
            try simp only [List.setIfInBounds_toArray, List.set_cons_zero, List.set_cons_succ]
            refine takeH 42 177 ?_ rfl rfl (by kernel_rfl) (by kernel_rfl) (by kernel_rfl) (fun _ _ _ h => h) (Or.inl ⟨by kernel_rfl, ?_⟩) hS ?_; rotate_left; (intro w' hw; skip; first | (go_simp; done) | (go_simp; with_reducible rfl)); rotate_left
            try simp only [List.setIfInBounds_toArray, List.set_cons_zero, List.set_cons_succ]
            refine takeH 43 178 ?_ rfl rfl (by kernel_rfl) (by kernel_rfl) (by kernel_rfl) (fun _ _ _ h => h) (Or.inl ⟨by kernel_rfl, ?_⟩) hS ?_; rotate_left; (intro w' hw; obtain ⟨z0, z1, z2, z3, z4⟩ := HS.out _ hw; first | (go_simp; done) | (go_simp; with_reducible rfl)); rotate_left
            try simp only [List.setIfInBounds_toArray, List.set_cons_zero, List.set_cons_succ]
            refine wpAnyH_ready (rs := [40]) (by kernel_rfl) (by simp) ?_; refine AllReadyH.cons rfl (fun K2 hK => ?_) AllReadyH.nil; go_simp; go_wp2_with (go_at_call 20; (with_reducible refine (KH.out _ hS.1).mono ?_); rintro e wF ⟨rfl, rfl⟩); refine hK.out _ _ ?_ (fun _ => ?_); (exact hS); clear hK K2
            refine wpAnyH_ready (rs := [44]) (by kernel_rfl) (by simp) ?_; refine AllReadyH.cons rfl (fun K2 hK => ?_) AllReadyH.nil; go_simp; go_wp2_with (go_at_call 12; (with_reducible refine (KF.out _ hS.1).mono ?_); rintro e wF ⟨rfl, rfl⟩); refine hK.out _ _ ?_ (fun _ => ?_); (exact hS); clear hK K2
            refine takeH 45 180 ?_ rfl rfl (by kernel_rfl) (by kernel_rfl) (by kernel_rfl) (fun _ _ _ h => h) (Or.inl ⟨by kernel_rfl, ?_⟩) hS ?_; rotate_left; (intro w' hw; skip; first | (go_simp; done) | (go_simp; with_reducible rfl)); rotate_left
            try simp only [List.setIfInBounds_toArray, List.set_cons_zero, List.set_cons_succ]
            refine takeH 46 181 ?_ rfl rfl (by kernel_rfl) (by kernel_rfl) (by kernel_rfl) (fun _ _ _ h => h) (Or.inl ⟨by kernel_rfl, ?_⟩) hS ?_; rotate_left; (intro w' hw; skip; first | (go_simp; done) | (go_simp; with_reducible rfl)); rotate_left
            try simp only [List.setIfInBounds_toArray, List.set_cons_zero, List.set_cons_succ]
            refine takeH 47 182 ?_ rfl rfl (by kernel_rfl) (by kernel_rfl) (by kernel_rfl) (fun _ _ _ h => h) (Or.inl ⟨by kernel_rfl, ?_⟩) hS ?_; rotate_left; (intro w' hw; skip; first | (go_simp; done) | (go_simp; with_reducible rfl)); rotate_left
            try simp only [List.setIfInBounds_toArray, List.set_cons_zero, List.set_cons_succ]
            refine wpAnyH_done (by kernel_rfl) ?_ _
            go_wp2
            go_roundw
            case rel => exact ⟨k + 1, (x1, x2) :: m, some ⟨g2, off2, none⟩, cap', by omega, by go_num, by rw [HNQ.out], Lib.hid (hrel2.out _ hS.1)⟩
            case measure => simp [intOf]; omega
    · obtain rfl : k = len := by omega
      have HB := Lib.hid hst.out.1.b
      clear hst
      go_wp2_with (go_at_call 5; (with_reducible refine (KL.out _).mono ?_); rintro e wB ⟨rfl, hbB⟩)
      go_ret
      exact ⟨rfl, HB.out.trans (hbB.mono HB.out.size)⟩
end Go.Proofs.Ytgndjahkjchaoaa
