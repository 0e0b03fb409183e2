/-
  The law WheelPieces, by the wheel's contracts.
-/
import Derived.Test.YtmglpjbikknjgaaWhT
namespace Go.Proofs.Ytmglpjbikknjgaa
open Go.RowKit
set_option linter.unusedVariables false

theorem duo_new {Is : WS} (K : WheelC Is) (w0 : World) (P1 : Nat) (now : Int) (hw : (Lit.int .u64 now).wf = true) (w : World) (h : Solo Is w0 w0.heap.size P1 now [] w) :
    Calls Try.prog 7 #[.int .u64 now] w fun e w' => ∃ P2, e = .returned (.pointer (some ⟨P2, 0, none⟩)) ∧ Duo Is w0 P1 P2 now [] now [] (.slice none 0 0) [] w' := by
  refine (K.new now w w0.heap.size hw h.z).mono fun e w' hr => ?_
  obtain ⟨P2, F2, e1, e2, e3, e4⟩ := hr
  obtain ⟨F1, i1⟩ := h.s
  exact ⟨P2, e1, ⟨F1, F2, K.keep i1 e3.size (fun k hk => e3.block k (K.lt i1 k hk).2), e2, fun k h1 h2 => by have := (K.lt i1 k h1).2; have := e4 k h2; omega, fun k hk => by simp [Value.ownBlock] at hk⟩, RowE.nil _ _, h.b.trans (e3.mono h.z)⟩

set_option maxRecDepth 100000 in
set_option maxHeartbeats 8000000 in
theorem wheelPieces_out {Is : WS} (K : WheelC Is) (now : Int) (a ac : Option Addr) (len cap lenc capc : Nat) (w : World) (h : 100 < len ∨ lenc < 1 ∨ 60 < lenc) :
    Calls Try.prog 4 #[.int .u64 now, .slice a len cap, .slice ac lenc capc] w (Ret (.bool true) w) := by
  have KL := Lib.hid (liveOk K)
  by_cases h1 : 100 < len
  · clear h
    go_enter Try.func4, Try.ntmps4
    go_wp2_with (go_at_call 6; (with_reducible refine (KL.out _).mono ?_); rintro e wA ⟨rfl, hbA⟩)
    go_ret
    exact ⟨rfl, hbA⟩
  · have h1' : len ≤ 100 := by omega
    by_cases h2 : lenc < 1
    · clear h
      obtain rfl : lenc = 0 := by omega
      go_enter Try.func4, Try.ntmps4
      go_wp2_with (go_at_call 6; (with_reducible refine (KL.out _).mono ?_); rintro e wA ⟨rfl, hbA⟩)
      go_ret
      exact ⟨rfl, hbA⟩
    · have h3 : 60 < lenc := by omega
      clear h
      go_enter Try.func4, Try.ntmps4
      go_wp2_with (go_at_call 6; (with_reducible refine (KL.out _).mono ?_); rintro e wA ⟨rfl, hbA⟩)
      go_ret
      exact ⟨rfl, hbA⟩

set_option maxRecDepth 100000 in
set_option maxHeartbeats 8000000 in
theorem wheelPieces_at {Is : WS} (K : WheelC Is) (now : Int) (a ac : Option Addr) (len cap lenc capc : Nat) (t : Nat → Int × Int × Int) (cuts : Nat → Int) (w : World) (hw : (Lit.int .u64 now).wf = true) (hl : len ≤ 100) (h1 : 1 ≤ lenc) (h2 : lenc ≤ 60) (h : ActAt w a len t) (hc : CutAt w ac lenc cuts) :
    Calls Try.prog 4 #[.int .u64 now, .slice a len cap, .slice ac lenc capc] w (Ret (.bool true) w) := by
  have KL := Lib.hid (liveOk K)
  have K0 := Lib.hid (fun W hb => solo_new K w now hw W hb)
  have KD := Lib.hid (fun P1 W h => duo_new K w P1 now hw W h)
  have KA := Lib.hid (fun P1 P2 W hV => duo1 K (w0 := w) (P1 := P1) (P2 := P2) (n2 := now) (l2 := []) (u := .slice none 0 0) (o := []) (fun W F hb hI => putAllC K w P1 now a len cap t (by omega) h W hb F hI) W hV)
  have KB := Lib.hid (fun P1 P2 W hV => duo2 K (w0 := w) (P1 := P1) (P2 := P2) (n1 := now) (l1 := Wh.actsL t len) (u := .slice none 0 0) (o := []) (fun W F hb hI => putAllC K w P2 now a len cap t (by omega) h W hb F hI) W hV)
  have hnd := acts_nodup t len
  have hln := acts_len t len
  generalize Wh.actsL t len = L at *
  have HND := Lib.hid hnd; clear hnd
  have HC := Lib.hid hc; clear hc h
  have HW := Lib.hid hw; clear hw
  go_enter Try.func4, Try.ntmps4
  go_upto_region 7 with (first | (go_at_call 7; (first | (with_reducible refine (KD.out _ _ hV).mono ?_); rintro e wB ⟨P2, rfl, hD⟩ | (with_reducible refine (K0.out _ (Below.refl _ _)).mono ?_); rintro e wA ⟨P1, rfl, hV⟩)) | (go_at_call 17; (first | (with_reducible refine (KA.out _ _ _ hD).mono ?_) | (with_reducible refine (KB.out _ _ _ hD).mono ?_)); rintro e wC ⟨rfl, hT⟩; replace hD := hT; clear hT))
  have hD0 : Hid (Duo Is w P1 P2 now L now L (.slice (some ⟨wC.heap.size, 0, none⟩) 0 0) [] (wC.alloc (.cells #[] 51))) := Lib.hid (hD.grow K (RowE.lit wC w.heap.size hD.b.size) ((Below.refl _ _).alloc hD.b.size _) (fun k hk _ => Below.heap_alloc _ _ _ hk) (fun k e => by simp [Value.ownBlock] at e; exact Or.inr (by omega)))
  clear hD hV KA KB KD K0
  have hmax := run_max64
  go_wp2
  go_loopw [9, 10, 11] (fun lastv u i wr => ∃ (k : Nat) (last nv : Int) (lv o : List Wh.E), k ≤ lenc ∧ i = .int .i64 (k : Int) ∧ lastv = .int .u64 last ∧ u ≠ .slice none 0 0 ∧ Hid (Duo Is w P1 P2 now L nv lv u o wr) ∧ now ≤ last ∧ Hid ((Lit.int .u64 last).wf = true) ∧ Hid ((k = 0 ∧ last = now ∧ nv = now ∧ lv = L ∧ o = []) ∨ (0 < k ∧ nv = last ∧ lv = Wh.rest L last ∧ o = Wh.turned L last))) (fun _ _ i _ => lenc - (intOf i).toNat)
  case atStart => exact ⟨0, now, now, L, [], by omega, rfl, rfl, (fun h => by cases h), hD0, Int.le_refl _, HW, Lib.hid (Or.inl ⟨rfl, rfl, rfl, rfl, rfl⟩)⟩
  case round =>
    obtain ⟨k, last, nv, lv, o, hk, rfl, rfl, hu, hD, hge, hwf, hst⟩ := hrel
    clear hD0
    have HU := Lib.hid hu; clear hu
    by_cases hlt : k < lenc
    · rcases HC.out with h | ⟨g, off, rfl, hg, hcc⟩
      · omega
      · obtain ⟨d0, wc⟩ := hcc k hlt
        have c0 := (hD.out.b.cell (p := ⟨g, off + k, none⟩) hg).trans d0
        clear d0 hcc
        generalize cuts k = ct at *
        have hg1 := (later_ge last ct).1
        have HWL := Lib.hid (later_wf hwf.out wc)
        have hfacts : o ++ Wh.turned lv (later last ct) = Wh.turned L (later last ct) ∧ Wh.rest lv (later last ct) = Wh.rest L (later last ct) ∧ later nv (later last ct) = later last ct ∧ (lv.map (·.1)).Nodup ∧ lv.length ≤ 100 ∧ o.length ≤ 100 := by
          rcases hst.out with ⟨_, e1, e2, e3, e4⟩ | ⟨_, e1, e2, e3⟩
          · subst e1 e2 e3 e4
            exact ⟨rfl, rfl, later_of hg1, HND.out, by omega, by simp⟩
          · subst e1 e2 e3
            have q1 := len_rest L nv
            have q2 := turned_len L nv
            exact ⟨Wh.turned_split HND.out hg1, Wh.rest_rest hg1, later_of hg1, nodup_rest HND.out, by omega, by omega⟩
        obtain ⟨f1, f2, f3, f4, f5, f6⟩ := hfacts
        have hTL := turned_len lv (later last ct)
        have hmx := fun ts t P w => run_max64 ts t P w last ct
        clear hmax
        generalize later last ct = ls at *
        have kt := (fun u W (h : Duo Is w P1 P2 now L nv lv u o W) => (duoTurn K (tm := ls) HWL.out f4 (by omega) W h.swap).mono fun _ _ hr => And.intro hr.1 hr.2.swap)
        rw [f2, f3] at kt
        have KT := Lib.hid kt; clear kt
        have F1 := Lib.hid f1; clear f1 f2 f3 f4 wc
        have hnow : now ≤ ls := by omega
        have hor : o.length + (Wh.turned lv ls).length ≤ 1000000 := by omega
        clear hst hTL
        generalize Wh.turned lv ls = T at *
        have HD := Lib.hid hD.out; clear hD
        go_wp2_with (first | (go_at_call 14; (with_reducible refine (KT.out _ _ HD.out).mono ?_); rintro e wT ⟨⟨a1, cap1, rfl, hvw, hc0⟩, hT⟩; have HD2 := Lib.hid hT; clear hT) | (at_builtin; (refine wpAppT wT rfl _ _ rfl w.heap.size _ o rfl HD2.out.r HU.out a1 T cap1 rfl hc0 hvw hor HD2.out.b.size ?_); intro v' w2 hv' hr2 hb2 hk2 hl2))
        have hD3 := HD2.out.grow K hr2 hb2 hk2 hl2
        rw [F1.out] at hD3
        clear hr2 hb2 hk2 hl2 hvw hc0
        go_wp2
        go_roundw
        case rel => exact ⟨k + 1, ls, ls, Wh.rest L ls, Wh.turned L ls, by omega, by go_num, rfl, hv', Lib.hid hD3, hnow, HWL, Lib.hid (Or.inr ⟨by omega, rfl, rfl, rfl⟩)⟩
        case measure => simp [intOf]; omega
    · obtain rfl : k = lenc := by omega
      rcases hst.out with ⟨e0, _⟩ | ⟨_, e1, e2, e3⟩
      · omega
      · subst e1 e2 e3
        have hl8 : L.length ≤ 1000 := by omega
        have hln2 := len_rest L nv
        have htl := turned_len L nv
        have kt := (fun u W (h : Duo Is w P1 P2 now L nv (Wh.rest L nv) u (Wh.turned L nv) W) => duoTurn K (tm := nv) hwf.out HND.out hl8 W h)
        rw [later_of hge] at kt
        have KT := Lib.hid kt; clear kt
        have km := fun a1 a2 c1 c2 W h1 h2 => sameListC a1 a2 c1 c2 (Wh.turned L nv) (Wh.turned L nv) W (by omega) (by omega) h1 h2
        rw [decide_eq_true rfl] at km
        have KM := Lib.hid km; clear km
        have hnr := nodup_rest (tk := nv) HND.out
        have hlr : (Wh.rest L nv).length ≤ 1000 := by omega
        obtain ⟨a2, cap2, rfl, _⟩ := hD.out.r.view
        have KL1 := Lib.hid (fun W h => duo1 K (w0 := w) (P1 := P1) (P2 := P2) (n2 := nv) (l2 := Wh.rest L nv) (u := .slice a2 (Wh.turned L nv).length cap2) (o := Wh.turned L nv) (fun W F _ hI => K.len W w.heap.size P1 nv (Wh.rest L nv) F hnr hlr hI) W h)
        have KL2 := Lib.hid (fun W h => duo2 K (w0 := w) (P1 := P1) (P2 := P2) (n1 := nv) (l1 := Wh.rest L nv) (u := .slice a2 (Wh.turned L nv).length cap2) (o := Wh.turned L nv) (fun W F _ hI => K.len W w.heap.size P2 nv (Wh.rest L nv) F hnr hlr hI) W h)
        have KN1 := Lib.hid (fun W h => duo1 K (w0 := w) (P1 := P1) (P2 := P2) (n2 := nv) (l2 := Wh.rest L nv) (u := .slice a2 (Wh.turned L nv).length cap2) (o := Wh.turned L nv) (fun W F _ hI => K.tick W w.heap.size P1 nv (Wh.rest L nv) F hnr hlr hI) W h)
        have KN2 := Lib.hid (fun W h => duo2 K (w0 := w) (P1 := P1) (P2 := P2) (n1 := nv) (l1 := Wh.rest L nv) (u := .slice a2 (Wh.turned L nv).length cap2) (o := Wh.turned L nv) (fun W F _ hI => K.tick W w.heap.size P2 nv (Wh.rest L nv) F hnr hlr hI) W h)
        have hview : ∀ W, Duo Is w P1 P2 nv (Wh.rest L nv) nv (Wh.rest L nv) (.slice a2 (Wh.turned L nv).length cap2) (Wh.turned L nv) W → ViewO W a2 (Wh.turned L nv) := fun W h => by
          obtain ⟨a', cap', e, hv⟩ := h.r.view
          cases e
          exact hv.o
        have HVW := Lib.hid hview; clear hview
        have HBL := Lib.hid (fun W W' (h : Duo Is w P1 P2 nv (Wh.rest L nv) nv (Wh.rest L nv) (.slice a2 (Wh.turned L nv).length cap2) (Wh.turned L nv) W) (hb : Below W.heap.size W W') => h.below K hb)
        have HD := Lib.hid hD.out
        clear hD hst hln2 htl hnr hlr HU HC hmax
        generalize Wh.turned L nv = T at *
        generalize Wh.rest L nv = Z at *
        go_wp2_with (first | (go_at_call 14; (with_reducible refine (KT.out _ _ HD.out).mono ?_); rintro e wT ⟨⟨a1, cap1, rfl, hvw, _⟩, hT⟩; have HE := Lib.hid hT; clear hT) | (go_at_call 13; (with_reducible refine (KM.out _ _ _ _ _ hvw (HVW.out _ HE.out)).mono ?_); rintro e wS ⟨rfl, hbS⟩; replace HE := Lib.hid (HBL.out _ _ HE.out hbS); clear hbS) | (go_at_call 18; (first | (with_reducible refine (KL1.out _ HE.out).mono ?_) | (with_reducible refine (KL2.out _ HE.out).mono ?_)); rintro e wS ⟨rfl, hT⟩; replace HE := Lib.hid hT; clear hT) | (go_at_call 19; (first | (with_reducible refine (KN1.out _ HE.out).mono ?_) | (with_reducible refine (KN2.out _ HE.out).mono ?_)); rintro e wS ⟨rfl, hT⟩; replace HE := Lib.hid hT; clear hT) | (go_at_call 6; (with_reducible refine (KL.out _).mono ?_); rintro e wS ⟨rfl, hbS⟩; replace HE := Lib.hid (HBL.out _ _ HE.out hbS); clear hbS))
        go_ret
        exact ⟨rfl, HE.out.b⟩
end Go.Proofs.Ytmglpjbikknjgaa
