/-
  The statement PropParses.
-/
import Derived.Test.YtmfnfjcoaijjdaaDoorPropT
namespace Go.Proofs.YtmfnfjcoaijjdaaDoor
open Go.RowKit
set_option linter.unusedVariables false

set_option maxHeartbeats 2000000 in
set_option maxRecDepth 100000 in
theorem propParses_walk (s : ByteArray) (w : World) (hs : s.size ≤ 140737488351232) :
    Calls Tryd.prog 3 #[.string s] w (Ret (.bool true) w) := by
  have CL := Lib.hid (fun W => liveOk W)
  by_cases h1 : 1000 < s.size
  · go_enter Tryd.func3, Tryd.ntmps3
    go_wp2_with (go_at_call 6; (with_reducible refine (CL.out _).mono ?_); rintro e w1 ⟨rfl, hbx⟩)
    go_ret
    exact ⟨rfl, hbx⟩
  · have h1' : s.size ≤ 1000 := by omega
    have C1 := Lib.hid (fun W => parseC s W (by omega))
    have C2 := Lib.hid (fun W => refParseC s W (by omega))
    have C3 := Lib.hid (fun W => canonC s W (by omega))
    have C4 := Lib.hid (fun W => refCanonC s W (by omega))
    have hgd := fun (h : (Pr.parse (bl s)).1 = 0) => Pr.parse_good (x := bl s) (l := (Pr.parse (bl s)).2) (Prod.ext h rfl)
    have hbad := fun (h : (Pr.parse (bl s)).1 ≠ 0) => Pr.parse_err h
    have hsb := mk_bl' s
    generalize hcv : Pr.canonV (bl s) = cv at *
    clear hcv
    generalize Pr.parse (bl s) = R at *
    obtain ⟨en, L⟩ := R
    simp only at hgd hbad
    have hcc : ((mk cv).toList == (mk cv).toList) = true := beq_self_eq_true _
    have hss : (s.toList == s.toList) = true := beq_self_eq_true _
    clear h1 hs
    by_cases h0 : en = 0
    · subst h0
      obtain ⟨hG, hSh⟩ := hgd rfl
      have hL6 : L.length ≤ 1000000 := by have := hG.len; omega
      have HG := Lib.hid hG
      have hmk : mk (Pr.showL L) = s := by rw [hSh]; exact hsb
      have HSH := Lib.hid hmk
      clear hgd hbad hG hSh hmk hsb
      go_enter Tryd.func3, Tryd.ntmps3
      go_wp2_with (first | (go_at_call 7; (with_reducible refine (C1.out _).mono ?_); rintro e w1 ⟨⟨v1, rfl, hr1⟩, hb⟩; obtain ⟨a1, cap1, rfl, hVa⟩ := Row.view hr1; clear hr1) | (go_at_call 8; (with_reducible refine (C2.out _).mono ?_); rintro e w1 ⟨⟨v2, rfl, hr2⟩, hbx⟩; obtain ⟨a2, cap2, rfl, hVb⟩ := Row.view hr2; clear hr2; replace hVa := hVa.below hbx; replace hb := hb.trans (hbx.mono hb.size); clear hbx) | (go_at_call 9; (with_reducible refine (C3.out _).mono ?_); rintro e w1 ⟨rfl, hbx⟩; replace hVa := hVa.below hbx; replace hVb := hVb.below hbx; replace hb := hb.trans (hbx.mono hb.size); clear hbx) | (go_at_call 10; (with_reducible refine (C4.out _).mono ?_); rintro e w1 ⟨rfl, hbx⟩; replace hVa := hVa.below hbx; replace hVb := hVb.below hbx; replace hb := hb.trans (hbx.mono hb.size); clear hbx) | (go_at_call 11; (with_reducible refine (numC _ _).mono ?_); rintro e w1 ⟨rfl, rfl⟩) | (go_at_call 12; (with_reducible refine (sameC a1 a2 cap1 cap2 L _ hVa hVb hL6).mono ?_); rintro e w1 ⟨rfl, hbx⟩; replace hVa := hVa.below hbx; replace hVb := hVb.below hbx; replace hb := hb.trans (hbx.mono hb.size); clear hbx) | (go_at_call 13; have CS := showC a1 cap1 L _ hVa HG.out.len HG.out.ok; rw [HSH.out] at CS; (with_reducible refine CS.mono ?_); rintro e w1 ⟨rfl, hbx⟩; clear CS; replace hVa := hVa.below hbx; replace hVb := hVb.below hbx; replace hb := hb.trans (hbx.mono hb.size); clear hbx) | (go_at_call 6; (with_reducible refine (CL.out _).mono ?_); rintro e w1 ⟨rfl, hbx⟩; replace hVa := hVa.below hbx; replace hVb := hVb.below hbx; replace hb := hb.trans (hbx.mono hb.size); clear hbx))
      go_ret
      exact ⟨rfl, hb⟩
    · have hL : L = [] := hbad h0
      subst hL
      have hL6 : ([] : List Pr.Pair).length ≤ 1000000 := by simp
      have h0b : (en == 0) = false := by simpa using h0
      have h0c : (en != 0) = true := by simpa using h0
      clear hgd hbad hsb h0
      generalize hLL : ([] : List Pr.Pair) = L at *
      clear hLL
      go_enter Tryd.func3, Tryd.ntmps3
      go_wp2_with (first | (go_at_call 7; (with_reducible refine (C1.out _).mono ?_); rintro e w1 ⟨⟨v1, rfl, hr1⟩, hb⟩; obtain ⟨a1, cap1, rfl, hVa⟩ := Row.view hr1; clear hr1) | (go_at_call 8; (with_reducible refine (C2.out _).mono ?_); rintro e w1 ⟨⟨v2, rfl, hr2⟩, hbx⟩; obtain ⟨a2, cap2, rfl, hVb⟩ := Row.view hr2; clear hr2; replace hVa := hVa.below hbx; replace hb := hb.trans (hbx.mono hb.size); clear hbx) | (go_at_call 9; (with_reducible refine (C3.out _).mono ?_); rintro e w1 ⟨rfl, hbx⟩; replace hVa := hVa.below hbx; replace hVb := hVb.below hbx; replace hb := hb.trans (hbx.mono hb.size); clear hbx) | (go_at_call 10; (with_reducible refine (C4.out _).mono ?_); rintro e w1 ⟨rfl, hbx⟩; replace hVa := hVa.below hbx; replace hVb := hVb.below hbx; replace hb := hb.trans (hbx.mono hb.size); clear hbx) | (go_at_call 11; (with_reducible refine (numC _ _).mono ?_); rintro e w1 ⟨rfl, rfl⟩) | (go_at_call 12; (with_reducible refine (sameC a1 a2 cap1 cap2 L _ hVa hVb hL6).mono ?_); rintro e w1 ⟨rfl, hbx⟩; replace hVa := hVa.below hbx; replace hVb := hVb.below hbx; replace hb := hb.trans (hbx.mono hb.size); clear hbx) | (go_at_call 6; (with_reducible refine (CL.out _).mono ?_); rintro e w1 ⟨rfl, hbx⟩; replace hVa := hVa.below hbx; replace hVb := hVb.below hbx; replace hb := hb.trans (hbx.mono hb.size); clear hbx))
      go_ret
      exact ⟨rfl, hb⟩
end Go.Proofs.YtmfnfjcoaijjdaaDoor
