/-
  The program's Turn.
-/
import Derived.Test.YtmmfmpnkjienfaaWhU3
import Derived.StillTailTactics
namespace Go.Proofs.Ytmmfmpnkjienfaa
open Go.RowKit
set_option linter.unusedVariables false

/-- what is returned, put together -/
theorem turn_ret {w wr w' : World} {B P T : Nat} {now tm : Int} {l D : List Wh.E} {sl s : Nat → Option Nat} {a : Option Addr} {cap : Nat} (hA : WAt w' B P (later now tm) (Wh.rest l tm) (Wh.rest l tm) T s) (hnew : ∀ i, WF P T s i → WF P T sl i ∨ w.heap.size ≤ i) (hc : Chg (WF P T sl) w w')
    (hrow : RowE wr w.heap.size (.slice a D.length cap) D) (hv : ViewE w' a (Wh.sortT D)) (hp : D.Perm (Wh.due l tm)) (hn : l.Nodup) (hx : RowE w' w.heap.size (.slice a (Wh.sortT D).length cap) (Wh.sortT D)) : RetWT WIs (Wh.turned l tm) B P (later now tm) (Wh.rest l tm) (WF P T sl) w (.returned (.slice a D.length cap)) w' := by
  have e : Wh.turned l tm = Wh.sortT D := (sortT_perm_eq hp (hn.filter _)).symm
  have e2 : (Wh.sortT D).length = D.length := (Wh.sortT_perm D).length_eq
  refine ⟨⟨a, cap, by rw [e, e2], by rw [e]; exact hv.o, fun g off ha => ?_, fun ha => ?_⟩, ⟨_, ⟨T, s, hA, rfl⟩, hnew⟩, hc, ⟨_, a, cap, ⟨T, s, hA, rfl⟩, hnew, by rw [e, e2], by rw [e]; exact hx, fun x ha hf => hA.notOwn hx x.block hf (by subst ha; rfl)⟩⟩
  · subst ha
    obtain ⟨_, ⟨h1, _⟩ | ⟨g', cap', cur, h1, hg, _⟩⟩ := hrow
    · injection h1 with h2 _ _
      cases h2
    · injection h1 with h2 _ _
      cases h2
      exact Or.inr hg
  · subst ha
    obtain ⟨_, ⟨h1, _⟩ | ⟨g', cap', cur, h1, hg, _⟩⟩ := hrow
    · injection h1
    · cases h1

set_option maxRecDepth 100000 in
set_option maxHeartbeats 4000000 in
theorem turnC (tm : Int) (w : World) (B P : Nat) (now : Int) (l : List Wh.E) (F : Nat → Prop) (ht : (Lit.int .u64 tm).wf = true) (hn : (l.map (·.1)).Nodup) (hl : l.length ≤ 1000) (h : WIs w B P now l F) :
    Calls Try.prog 37 #[.pointer (some ⟨P, 0, none⟩), .int .u64 tm] w (RetWT WIs (Wh.turned l tm) B P (later now tm) (Wh.rest l tm) F w) := by
  obtain ⟨T, sl, h, rfl⟩ := h
  have c0 := h.now0
  have k1 := takeC (later now tm) w B P now l T sl h (later_wf h.now ht) hn hl
  have hmax := fun ts t P w => run_max64 ts t P w now tm
  have K1 := Lib.hid k1
  have HT := Lib.hid ht
  have HN := Lib.hid hn
  have HL := Lib.hid hl
  have H := Lib.hid h
  clear h ht hn hl k1
  go_enter Try.func37, Try.ntmps37
  go_wp2_with (go_at_call 52; (with_reducible refine K1.out.mono ?_); rintro e w1 ⟨⟨v, acc, rfl, hT1⟩⟩; obtain ⟨a, cap, rfl⟩ := own_some hT1.row; have c1 := hT1.at_.now0; have f1 := hT1.at_.frozen 0; have hal : acc.length ≤ 1000 := Nat.le_trans hT1.len HL.out; have HS := Lib.hid (TurnS.start hT1 HT.out H.out.wf rfl); clear hT1)
  go_loopw [7, 27] (fun u i wr => ∃ (k : Nat) (lt : List Wh.E) (s : Nat → Option Nat), k ≤ acc.length ∧ i = .int .i64 (k : Int) ∧ TurnS w B P now tm l T sl acc (.slice a acc.length cap) k u wr lt s) (fun _ i _ => acc.length - (intOf i).toNat)
  case atStart => exact ⟨0, _, _, by omega, rfl, HS.out⟩
  case round =>
    obtain ⟨k, lt, s, hk, rfl, hS⟩ := hrel
    clear HS c1 f1 c0
    by_cases hlt : k < acc.length
    · have hv : ViewE wr a acc := by
        obtain ⟨a', c', e, hv⟩ := hS.vrow.view
        cases e
        exact hv
      obtain ⟨g, rfl, hg, hc⟩ := hv.is (by omega)
      obtain ⟨d0, d1, d2⟩ := hc k hlt
      have hmem := hS.mem hlt
      obtain ⟨hid, hat⟩ := H.out.wf _ hmem
      have hun := hS.unseen HN.out hlt
      obtain ⟨a', c', rfl⟩ := own_some hS.urow
      have HS := Lib.hid hS
      have HI := Lib.hid hid
      have HA := Lib.hid hat
      have HU := Lib.hid hun
      have hbx : Below wr.heap.size wr (wr.alloc (.cells #[.int .i64 0, .int .i64 acc[k].1, .int .u64 acc[k].2] 39)) := (Below.refl _ _).alloc (Nat.le_refl _) _
      have HBX := Lib.hid hbx
      clear hc hv hmem hid hat hun hbx
      by_cases hx : tm < acc[k].2
      · have HX := Lib.hid hx
        have HLATE := Lib.hid (fun e w2 (hp : Placed _ _ _ _ _ _ _ _ (acc[k].1, acc[k].2) e w2) => TurnS.late (e := e) (w2 := w2) (HS.out.below HBX.out) hlt HX.out hp)
        have KP := Lib.hid (placeC acc[k].1 acc[k].2 _ B P (later now tm) lt _ T s (HS.out.below HBX.out).at_ HI.out HA.out HU.out (Nat.le_trans HS.out.slen HL.out))
        clear HX HU HI HA
        generalize acc[k].1 = id at *
        generalize acc[k].2 = y at *
        go_wp2_with (go_at_call 50; (with_reducible refine KP.out.mono ?_); intro e w2 hp2; obtain rfl := hp2.e; have HP2 := Lib.hid hp2; clear hp2)
        obtain ⟨s', hS2⟩ := HLATE.out _ _ HP2.out
        go_roundw
        case rel => exact ⟨k + 1, lt, s', by omega, by go_num, hS2⟩
        case measure => simp [intOf]; omega
      · have hx : acc[k].2 ≤ tm := by omega
        have hTw := (HS.out.at_.bounds T (Or.inr (Or.inl rfl))).2
        have hM := HS.out.at_.tm
        have hPT := HS.out.at_.neP
        have hPw := (HS.out.at_.bounds P (Or.inl rfl)).2
        have c1 := HS.out.at_.map1
        have hq : (wr.alloc (.cells #[.int .i64 0, .int .i64 acc[k].1, .int .u64 acc[k].2] 39)).heap[wr.heap.size]? = some (.cells #[.int .i64 0, .int .i64 acc[k].1, .int .u64 acc[k].2] 39) := heap_alloc_new _ _
        have c1' := (HBX.out.cell (p := ⟨P, 1, none⟩) hPw).trans c1
        have HDUE := Lib.hid (fun (w2 w3 : World) (u' : Value) hM hc hrow hb hk hl => TurnS.due (w2 := w2) (w3 := w3) (u' := u') (HS.out.below HBX.out) HN.out hlt hx hM hc hrow hb hk hl)
        have HGONE := Lib.hid (fun (w2 : World) hM hc => TurnS.gone (w2 := w2) (HS.out.below HBX.out) hlt hM hc)
        have HDL := Lib.hid (Nat.le_trans HS.out.dlen HL.out)
        have HLN := Lib.hid (HS.out.ltn HN.out)
        have HQ := Lib.hid hq
        have HMT := Lib.hid (hM.keep (HBX.out.block T hTw))
        have hTne : T ≠ wr.heap.size := by omega
        clear hx hTw hM hPT hPw HU HA hq
        generalize acc[k].1 = id at *
        generalize acc[k].2 = y at *
        go_upto_region 12 with (fail)
        refine wp_region_still_tail 6 (by kernel_rfl) (by kernel_rfl) ?_
        simp only [List.take_succ_cons, List.take_zero, List.drop_succ_cons, List.drop_zero]
        change wpStill _ _ (World.drew _) (fun a' => wpList _ _ _ _ a' (World.drew _)) _ _
        have e1' : (wr.alloc (.cells #[.int .i64 0, .int .i64 id, .int .u64 y] 39)).cell? ⟨wr.heap.size, 1, none⟩ = some (.int .i64 id) := by rw [cell_of_row _ _ _ _ _ _ HQ.out]; rfl
        repeat still_step
        refine wpStill_nil ?_
        refine wpDelE _ rfl _ _ 68 rfl Try.underlying68 T lt rfl (HMT.out.keep rfl) id rfl HI.out HLN.out ?_
        intro w2 hM2 hc2 hs2
        have hc2' : Chg (fun i => i = T) (wr.alloc (.cells #[.int .i64 0, .int .i64 id, .int .u64 y] 39)) w2 := ⟨hc2.os, hc2.tape, hc2.output, hc2.size, hc2.block⟩
        have hG := HGONE.out w2 hM2 hc2'
        have q2 := hc2'.keep HQ.out (fun e => hTne e.symm)
        have e0 : w2.cell? ⟨wr.heap.size, 0, none⟩ = some (.int .i64 0) := by rw [cell_of_row w2 _ _ _ _ _ q2]; rfl
        have e1 : w2.cell? ⟨wr.heap.size, 1, none⟩ = some (.int .i64 id) := by rw [cell_of_row w2 _ _ _ _ _ q2]; rfl
        have e2 : w2.cell? ⟨wr.heap.size, 2, none⟩ = some (.int .u64 y) := by rw [cell_of_row w2 _ _ _ _ _ q2]; rfl
        have hown : w2.ownsRow w.heap.size 39 3 (.slice a' (Wh.due (acc.take k) tm).length c') (Wh.due (acc.take k) tm).length (cellsE (Wh.due (acc.take k) tm)) := hG.2.2.1
        have hwsz : w.heap.size ≤ w2.heap.size := hG.2.2.2.size
        have hdl : (Wh.due (acc.take k) tm).length ≤ 9223372036 := Nat.le_trans HDL.out (by decide)
        have HOWN := Lib.hid hown
        have HM2 := Lib.hid hM2
        have HC2 := Lib.hid hc2'
        clear hown hM2 hc2' hc2 hs2 hG q2 HBX HQ HGONE HMT
        go_wp2_with (at_builtin; (refine wpApp2 w2 rfl _ _ 28 rfl w.heap.size 39 _ 3 24 Try.underlying28 infoTimer rfl (by decide) (by decide) (.slice a' (Wh.due (acc.take k) tm).length c') (Wh.due (acc.take k) tm).length (cellsE (Wh.due (acc.take k) tm)) rfl HOWN.out #[.int .i64 0, .int .i64 id, .int .u64 y] _ rfl rfl (fun u hu => by simp at hu; rcases hu with rfl | rfl | rfl <;> rfl) hdl hwsz ?_); intro v' w3 hown3 hb3 hk3 hl3)
        have hS2 := HDUE.out w2 w3 v' HM2.out HC2.out hown3 hb3 hk3 hl3
        go_wp2
        go_roundw
        case rel => exact ⟨k + 1, _, s, by omega, by go_num, hS2⟩
        case measure => simp [intOf]; omega
    · obtain rfl : k = acc.length := by omega
      obtain ⟨h1, h2, h3⟩ := hS.stop HN.out H.out.now HT.out H.out.wf
      obtain ⟨a', c', rfl⟩ := own_some h2
      have hnd : (Wh.due acc tm).Nodup := h3.nodup_iff.2 ((Wh.nodup_of HN.out).filter _)
      have hDl : (Wh.due acc tm).length ≤ 1000000 := Nat.le_trans (List.length_filter_le _ _) (Nat.le_trans hal (by decide))
      have HS := Lib.hid hS
      have H1 := Lib.hid h1
      have H2 := Lib.hid h2
      have H3 := Lib.hid h3
      clear hS h1 h2 h3 hlt hk
      generalize Wh.due acc tm = D at *
      by_cases h0 : D = []
      · subst h0
        clear hnd hDl
        have KS := Lib.hid (fun W fv => sortNone a' c' fv W)
        go_wp2_with (go_at_call 53; (with_reducible refine (KS.out _ _).mono ?_); rintro e w4 ⟨rfl, rfl⟩)
        go_ret
        exact turn_ret H1.out HS.out.new HS.out.chg H2.out ⟨fun h => absurd h (by simp [Wh.sortT])⟩ H3.out (Wh.nodup_of HN.out) H2.out
      · have hpos : 0 < D.length := List.length_pos_iff.2 h0
        have hv : ViewE wr a' D := by
          obtain ⟨a2, c2, e, hv⟩ := RowE.view H2.out
          cases e
          exact hv
        obtain ⟨g, rfl, hg, _⟩ := hv.is hpos
        have KS := Lib.hid (sortEC g c' w.heap.size D wr H2.out hpos hnd hDl)
        have HV := Lib.hid hv
        have HP := Lib.hid hpos
        clear hnd hDl hv hpos h0
        go_wp2_with (go_at_call 53; (with_reducible refine KS.out.mono ?_); intro e w4 hs4; obtain rfl := hs4.e; have HS4 := Lib.hid hs4; clear hs4)
        go_ret
        have hne : ∀ i, WF P T s i → i ≠ g := fun i hi e => H1.out.notOwn H2.out i hi (by rw [e]; rfl)
        have hgb : w.heap.size ≤ g := (World.ownsRow.lt H2.out g rfl).1
        exact turn_ret (H1.out.keep (fun i hi => HS4.out.c.block i (H1.out.bounds i hi).2 (hne i hi))) HS.out.new (HS.out.chg.trans HS4.out.c (fun i hi => Or.inr (by omega))) H2.out HS4.out.v H3.out (Wh.nodup_of HN.out) (by
          obtain ⟨cur', o1, o2⟩ := HS4.out.o
          obtain ⟨_, ⟨e, _⟩ | ⟨g', c'', cur, e, q1, q2, q3, q4, q5, _⟩⟩ := H2.out
          · cases e
          · cases e
            exact rowE_of o1 q1 (by rw [(Wh.sortT_perm D).length_eq]; exact q3) q4 (by rw [o2 cur q2]; exact q5) HS4.out.v)
end Go.Proofs.Ytmmfmpnkjienfaa
