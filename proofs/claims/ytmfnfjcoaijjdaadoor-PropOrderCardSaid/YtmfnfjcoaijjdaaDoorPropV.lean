/-
  The statement PropOrder.
-/
import Derived.Test.YtmfnfjcoaijjdaaDoorPropT
namespace Go.Proofs.YtmfnfjcoaijjdaaDoor
open Go.RowKit
set_option linter.unusedVariables false

theorem match_rev {S T U : Pr.B} {L L' : List Pr.Pair} (hs : Pr.parse S = (0, L)) (hu : Pr.parse U = (0, L')) (hp : L'.Perm L) (hn : (L.map (·.1)).Nodup) : Pr.matchV U T = Pr.matchV S T := by
  unfold Pr.matchV
  rw [hs, hu]
  simp only
  rw [Pr.matchL_perm1 hn hp]
theorem match_rev2 {S T U : Pr.B} {L L' : List Pr.Pair} (hs : Pr.parse S = (0, L)) (hu : Pr.parse U = (0, L')) (hp : L'.Perm L) : Pr.matchV T U = Pr.matchV T S := by
  unfold Pr.matchV
  rw [hs, hu]
  simp only
  rw [Pr.matchL_perm2 hp]
theorem match_self {S : Pr.B} {L : List Pr.Pair} (hs : Pr.parse S = (0, L)) (hn : (L.map (·.1)).Nodup) : Pr.matchV S S = true := by
  rw [Pr.matchV_yes (by rw [hs]) (by rw [hs]), hs]
  exact Pr.matchL_self hn
theorem canon_is {S : Pr.B} {L : List Pr.Pair} (hs : Pr.parse S = (0, L)) : Pr.canonV S = Pr.showL (Pr.sortL L) := by
  unfold Pr.canonV
  rw [hs, if_pos rfl]
theorem canonR {s : ByteArray} {S X : Pr.B} (hS : bl s = S) (h0 : (Pr.parse S).1 = 0) (hX : Pr.canonV S = X) (hz : s.size ≤ 9223372036854775806) : Hid (∀ W, Calls Tryd.prog 9 #[.string s] W (Ret (.tuple #[.string (mk X), .int .i64 0]) W)) := fun W => by
  have c := canonC s W hz
  rw [hS, h0, hX] at c
  exact c.mono fun _ _ h => ⟨h.e, h.b⟩
theorem matchR {s t : ByteArray} {S T : Pr.B} {r : Bool} (hS : bl s = S) (hT : bl t = T) (hr : Pr.matchV S T = r) (hz : s.size ≤ 9223372036854775806) (hz2 : t.size ≤ 9223372036854775806) : Hid (∀ W, Calls Tryd.prog 14 #[.string s, .string t] W (Ret (.bool r) W)) := fun W => by
  have c := matchC s t W hz hz2
  rwa [hS, hT, hr] at c

theorem rev_step (L : List Pr.Pair) (n : Nat) (h : n + 1 ≤ L.length) : (L.drop (n + 1)).reverse ++ [L[n]'(by omega)] = (L.drop n).reverse := by
  rw [List.drop_eq_getElem_cons (by omega : n < L.length), List.reverse_cons]

set_option maxHeartbeats 4000000 in
set_option maxRecDepth 1000000 in
theorem propOrder_walk (s t : ByteArray) (w : World) (hs : s.size ≤ 140737488351232) (ht : t.size ≤ 140737488351232) :
    Calls Tryd.prog 5 #[.string s, .string t] w (Ret (.bool true) w) := by
  have CL := Lib.hid (fun W => liveOk W)
  have C1 := Lib.hid (fun W => parseC s W (by omega))
  by_cases h1 : 1000 < s.size
  · generalize Pr.parse (bl s) = R at *
    obtain ⟨en, L⟩ := R
    go_enter Tryd.func5, Tryd.ntmps5
    go_wp2_with (first | (go_at_call 7; (with_reducible refine (C1.out _).mono ?_); rintro e w1 ⟨⟨v1, rfl, hr1⟩, hb⟩; obtain ⟨a1, cap1, rfl, hVa⟩ := Row.view hr1; clear hr1) | (go_at_call 6; (with_reducible refine (CL.out _).mono ?_); rintro e w2 ⟨rfl, hbx⟩))
    go_ret
    exact ⟨rfl, hb.trans (hbx.mono hb.size)⟩
  · by_cases h2 : 1000 < t.size
    · generalize Pr.parse (bl s) = R at *
      obtain ⟨en, L⟩ := R
      go_enter Tryd.func5, Tryd.ntmps5
      go_wp2_with (first | (go_at_call 7; (with_reducible refine (C1.out _).mono ?_); rintro e w1 ⟨⟨v1, rfl, hr1⟩, hb⟩; obtain ⟨a1, cap1, rfl, hVa⟩ := Row.view hr1; clear hr1) | (go_at_call 6; (with_reducible refine (CL.out _).mono ?_); rintro e w2 ⟨rfl, hbx⟩))
      go_ret
      exact ⟨rfl, hb.trans (hbx.mono hb.size)⟩
    · have h1' : s.size ≤ 1000 := by omega
      have h2' : t.size ≤ 1000 := by omega
      by_cases h0 : (Pr.parse (bl s)).1 = 0
      · have hp : Pr.parse (bl s) = (0, (Pr.parse (bl s)).2) := Prod.ext h0 rfl
        have hG := (Pr.parse_good hp).1
        rw [hp] at C1
        generalize (Pr.parse (bl s)).2 = L at *
        have hperm : L.reverse.Perm L := List.reverse_perm L
        have hGr : Pr.Good L.reverse := hG.perm hperm
        have hGs : Pr.Good (Pr.sortL L) := hG.sort
        have hpu := Pr.good_parse hGr
        have hpx := Pr.good_parse hGs
        have hzu : (Pr.showL L.reverse).length ≤ 1000 := by
          have h3 := Pr.showGo_len L.reverse true hGr.ok
          have h4 := hGr.len
          rw [Pr.showGo_true] at h3
          omega
        have hzx : (Pr.showL (Pr.sortL L)).length ≤ 1000 := by
          have h3 := Pr.showGo_len (Pr.sortL L) true hGs.ok
          have h4 := hGs.len
          rw [Pr.showGo_true] at h3
          omega
        have CS := canonR (s := s) rfl h0 (canon_is hp) (by omega)
        have CU := canonR (s := mk (Pr.showL L.reverse)) (bl_mk' _) (by rw [hpu]) ((canon_is hpu).trans (by rw [Pr.sortL_perm_eq hG.nd hperm])) (by rw [size_mk']; omega)
        have CX := canonR (s := mk (Pr.showL (Pr.sortL L))) (bl_mk' _) (by rw [hpx]) ((canon_is hpx).trans (by rw [Pr.sortL_perm_eq hG.nd (Pr.sortL_perm L)])) (by rw [size_mk']; omega)
        have M1 := matchR (s := s) (t := t) rfl rfl rfl (by omega) (by omega)
        have M2 := matchR (s := mk (Pr.showL L.reverse)) (t := t) (bl_mk' _) rfl (match_rev (T := bl t) hp hpu hperm hG.nd) (by rw [size_mk']; omega) (by omega)
        have M3 := matchR (s := t) (t := s) rfl rfl rfl (by omega) (by omega)
        have M4 := matchR (s := t) (t := mk (Pr.showL (Pr.sortL L))) rfl (bl_mk' _) (match_rev2 (T := bl t) hp hpx (Pr.sortL_perm L)) (by omega) (by rw [size_mk']; omega)
        have M5 := matchR (s := s) (t := s) rfl rfl (match_self hp hG.nd) (by omega) (by omega)
        generalize Pr.matchV (bl s) (bl t) = r1 at *
        generalize Pr.matchV (bl t) (bl s) = r2 at *
        have hSH := fun (a : Option Addr) (cap : Nat) W (hV : View W a L.reverse) => showC a cap L.reverse W hV hGr.len hGr.ok
        rw [List.length_reverse] at hSH
        generalize mk (Pr.showL L.reverse) = u at *
        generalize mk (Pr.showL (Pr.sortL L)) = x at *
        have hxx : (x.toList == x.toList) = true := beq_self_eq_true _
        have hL6 := hG.len
        have HSHW := Lib.hid hSH
        clear hSH hzu hzx hpu hpx hGs hGr hperm hG hp h0 h1 h2 hs ht
        go_enter Tryd.func5, Tryd.ntmps5
        go_wp2_with (first | (go_at_call 7; (with_reducible refine (C1.out _).mono ?_); rintro e w1 ⟨⟨v1, rfl, hr1⟩, hb⟩; obtain ⟨a1, cap1, rfl, hVa⟩ := Row.view hr1; clear hr1) | (go_at_call 11; (with_reducible refine (numC _ _).mono ?_); rintro e w3 ⟨rfl, rfl⟩))
        have hrow0 : Row (w1.alloc (.cells #[] 39)) w1.heap.size (.slice (some ⟨w1.heap.size, 0, none⟩) 0 0) [] := Row.lit w1 w1.heap.size (Nat.le_refl _)
        have hbl0 : Below w1.heap.size w1 (w1.alloc (.cells #[] 39)) := (Below.refl _ _).alloc (Nat.le_refl _) _
        have HVA := Lib.hid hVa; clear hVa
        go_loopw [7, 8] (fun v i wr => ∃ n : Nat, n ≤ L.length ∧ i = .int .i64 ((n : Int) - 1) ∧ Row wr w1.heap.size v (L.drop n).reverse ∧ Below w1.heap.size w1 wr) (fun _ i _ => (intOf i + 1).toNat)
        case atStart => exact ⟨L.length, by omega, by go_num, by rw [List.drop_length]; exact hrow0, hbl0⟩
        case round =>
          obtain ⟨n, hn, rfl, hrow, hbw⟩ := hrel
          clear hrow0 hbl0
          by_cases h0 : 0 < n
          · obtain ⟨m, rfl⟩ : ∃ m, n = m + 1 := ⟨n - 1, by omega⟩
            obtain ⟨g, rfl, hg, hc⟩ := HVA.out.is (by omega)
            have c0 := (hbw.cell (p := ⟨g, m * 2, none⟩) hg).trans (hc m (by omega)).1
            have c1 := (hbw.cell (p := ⟨g, m * 2 + 1, none⟩) hg).trans (hc m (by omega)).2
            have hst := Lib.hid (rev_step L m hn)
            have hll : ((L.drop (m + 1)).reverse).length ≤ 1000000 := by rw [List.length_reverse, List.length_drop]; omega
            have hi : (((m + 1 : Nat)) : Int) - 1 = (m : Int) := by omega
            rw [hi]
            generalize (L.drop (m + 1)).reverse = X at *
            generalize L[m] = p at *
            have hown : wr.ownsRow w1.heap.size 39 2 _ X.length (cellsP X) := hrow
            clear hc hrow hi h0
            go_wp2_with (at_builtin; refine wpApp _ rfl _ _ 23 rfl w1.heap.size 39 _ 2 32 Tryd.underlying23 infoPair rfl (by decide) (by decide) _ X.length (cellsP X) rfl hown #[.string (mk p.1), .string (mk p.2)] _ rfl rfl (fun u hu => by simp at hu; rcases hu with rfl | rfl <;> rfl) (by omega) hbw.size ?_)
            intro v' w3 hown' hb3 hkeep
            have hrow3 := Row.snoc (n := 0) (p := p) hown'
            rw [hst.out] at hrow3
            have hb4 := hbw.trans hb3
            clear hown' hb3 hkeep hown hbw
            go_wp2
            go_roundw
            case rel => exact ⟨m, by omega, by go_num, hrow3, hb4⟩
            case measure => simp [intOf] <;> omega
          · obtain rfl : n = 0 := by omega
            rw [List.drop_zero] at hrow
            obtain ⟨a2, cap2, rfl, hV2⟩ := Row.view hrow
            have CSH : Hid (Calls Tryd.prog 13 #[.slice a2 L.reverse.length cap2] wr (Ret (.string u) wr)) := by rw [List.length_reverse]; exact HSHW.out a2 cap2 wr hV2
            rw [List.length_reverse] at CSH ⊢
            have hb' : Below w.heap.size w wr := hb.trans (hbw.mono hb.size)
            clear hrow hV2 HSHW hb hbw h0
            have hb := hb'
            clear hb'
            go_wp2_with (first | (go_at_call 13; (with_reducible refine (CSH.out).mono ?_); rintro e w4 ⟨rfl, hbx⟩; replace hb := hb.trans (hbx.mono hb.size); clear hbx) | (go_at_call 9; (with_reducible refine (CS.out _).mono ?_); rintro e w4 ⟨rfl, hbx⟩; replace hb := hb.trans (hbx.mono hb.size); clear hbx) | (go_at_call 9; (with_reducible refine (CU.out _).mono ?_); rintro e w4 ⟨rfl, hbx⟩; replace hb := hb.trans (hbx.mono hb.size); clear hbx) | (go_at_call 9; (with_reducible refine (CX.out _).mono ?_); rintro e w4 ⟨rfl, hbx⟩; replace hb := hb.trans (hbx.mono hb.size); clear hbx) | (go_at_call 11; (with_reducible refine (numC _ _).mono ?_); rintro e w3 ⟨rfl, rfl⟩) | (go_at_call 14; (with_reducible refine (M1.out _).mono ?_); rintro e w4 ⟨rfl, hbx⟩; replace hb := hb.trans (hbx.mono hb.size); clear hbx) | (go_at_call 14; (with_reducible refine (M2.out _).mono ?_); rintro e w4 ⟨rfl, hbx⟩; replace hb := hb.trans (hbx.mono hb.size); clear hbx) | (go_at_call 14; (with_reducible refine (M3.out _).mono ?_); rintro e w4 ⟨rfl, hbx⟩; replace hb := hb.trans (hbx.mono hb.size); clear hbx) | (go_at_call 14; (with_reducible refine (M4.out _).mono ?_); rintro e w4 ⟨rfl, hbx⟩; replace hb := hb.trans (hbx.mono hb.size); clear hbx) | (go_at_call 14; (with_reducible refine (M5.out _).mono ?_); rintro e w4 ⟨rfl, hbx⟩; replace hb := hb.trans (hbx.mono hb.size); clear hbx) | (go_at_call 6; (with_reducible refine (CL.out _).mono ?_); rintro e w4 ⟨rfl, hbx⟩; replace hb := hb.trans (hbx.mono hb.size); clear hbx))
            go_ret
            exact ⟨rfl, hb⟩
      · generalize Pr.parse (bl s) = R at *
        obtain ⟨en, L⟩ := R
        have h0b : (en == 0) = false := by simpa using h0
        have h0c : (en != 0) = true := by simpa using h0
        clear h1 h2 hs ht h0
        go_enter Tryd.func5, Tryd.ntmps5
        go_wp2_with (first | (go_at_call 7; (with_reducible refine (C1.out _).mono ?_); rintro e w1 ⟨⟨v1, rfl, hr1⟩, hb⟩; obtain ⟨a1, cap1, rfl, hVa⟩ := Row.view hr1; clear hr1) | (go_at_call 6; (with_reducible refine (CL.out _).mono ?_); rintro e w2 ⟨rfl, hbx⟩) | (go_at_call 11; (with_reducible refine (numC _ _).mono ?_); rintro e w3 ⟨rfl, rfl⟩))
        go_ret
        exact ⟨rfl, hb.trans (hbx.mono hb.size)⟩
end Go.Proofs.YtmfnfjcoaijjdaaDoor
