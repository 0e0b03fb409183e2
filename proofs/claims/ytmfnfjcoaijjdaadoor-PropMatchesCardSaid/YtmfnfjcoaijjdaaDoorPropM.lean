/-
  The program's byKey and Match.
-/
import Derived.Test.YtmfnfjcoaijjdaaDoorPropH
import Derived.Test.YtmfnfjcoaijjdaaDoorPropK
namespace Go.Proofs.YtmfnfjcoaijjdaaDoor
open Go.RowKit
set_option linter.unusedVariables false

structure RetMap (l : List Pr.Pair) (w : World) (e : Ending) (w' : World) : Prop where
  r : ∃ b, e = .returned (.map (some b)) ∧ MapP w' b l
  b : Below w.heap.size w w'

set_option maxHeartbeats 4000000 in
set_option maxRecDepth 1000000 in
theorem byKeyC (a : Option Addr) (cap : Nat) (l : List Pr.Pair) (w : World) (hV : View w a l) (hl : l.length ≤ 6) (hok : ∀ p ∈ l, Pr.okP p = true) :
    Calls Tryd.prog 29 #[.slice a l.length cap] w (RetMap l w) := by
  have HV := Lib.hid hV; clear hV
  have HOK := Lib.hid hok; clear hok
  have hmm := fun W => run_makeMap (P := Tryd.prog) 41 W
  have hb0 : Below w.heap.size w (w.alloc (.map #[] 0)) := (Below.refl _ _).alloc (Nat.le_refl _) _
  have hM0 := MapP.made w
  go_enter Tryd.func29, Tryd.ntmps29
  go_wp2
  clear hmm
  go_loopw [9] (fun i wr => ∃ k : Nat, k ≤ l.length ∧ i = .int .i64 (k : Int) ∧ MapP wr w.heap.size (l.take k) ∧ Below w.heap.size w wr) (fun i _ => l.length - (intOf i).toNat)
  case atStart => exact ⟨0, by omega, rfl, hM0, hb0⟩
  case round =>
    obtain ⟨k, hk, rfl, hM, hb⟩ := hrel
    clear hb0 hM0
    by_cases hlt : k < l.length
    · obtain ⟨g, rfl, hg, hc⟩ := HV.out.is (by omega)
      have c0 := (hb.cell (p := ⟨g, k * 2, none⟩) hg).trans (hc k hlt).1
      have c1 := (hb.cell (p := ⟨g, k * 2 + 1, none⟩) hg).trans (hc k hlt).2
      have hkl := (Pr.okP_short (HOK.out l[k] (List.getElem_mem hlt))).1
      have htk := Lib.hid (List.take_succ_eq_append_getElem hlt)
      have hln : (l.take k).length ≤ 1000000 := by rw [List.length_take]; omega
      generalize l[k] = p at *
      generalize l.take k = X at *
      have HM := Lib.hid hM
      clear hc hM
      go_wp2_with (at_mapUpdate; refine wpPut _ rfl _ _ _ rfl w.heap.size w.heap.size X rfl (HM.out.below ((Below.refl _ _).alloc (Nat.le_refl _) _)) hln (Nat.le_refl _) p rfl hkl rfl ?_)
      intro w2 hM2 hb2 hk2
      rw [← htk.out] at hM2
      have hb3 : Below w.heap.size w w2 := (hb.alloc hb.size _).trans hb2
      clear hb2 hk2
      go_wp2
      go_roundw
      case rel => exact ⟨k + 1, by omega, by go_num, hM2, hb3⟩
      case measure => simp [intOf]; omega
    · obtain rfl : k = l.length := by omega
      rw [List.take_length] at hM
      have HM := Lib.hid hM
      clear hM
      go_wp2
      go_ret
      exact ⟨⟨_, rfl, HM.out⟩, hb⟩

set_option maxHeartbeats 4000000 in
set_option maxRecDepth 1000000 in
theorem matchC (s t : ByteArray) (w : World) (hs : s.size ≤ 9223372036854775806) (ht : t.size ≤ 9223372036854775806) :
    Calls Tryd.prog 14 #[.string s, .string t] w (Ret (.bool (Pr.matchV (bl s) (bl t))) w) := by
  have C1 := Lib.hid (fun W => parseC s W hs)
  have C2 := Lib.hid (fun W => parseC t W ht)
  have hno1 := fun h => Pr.matchV_no1 (s := bl s) (t := bl t) h
  have hno2 := fun h => Pr.matchV_no2 (s := bl s) (t := bl t) h
  have hyes := fun h h2 => Pr.matchV_yes (s := bl s) (t := bl t) h h2
  have hg1 := fun (h : (Pr.parse (bl s)).1 = 0) => (Pr.parse_good (x := bl s) (l := (Pr.parse (bl s)).2) (Prod.ext h rfl)).1
  have hg2 := fun (h : (Pr.parse (bl t)).1 = 0) => (Pr.parse_good (x := bl t) (l := (Pr.parse (bl t)).2) (Prod.ext h rfl)).1
  generalize Pr.matchV (bl s) (bl t) = R at *
  generalize Pr.parse (bl s) = x at *
  generalize Pr.parse (bl t) = y at *
  obtain ⟨e1, L⟩ := x
  obtain ⟨e2, M⟩ := y
  simp only at hno1 hno2 hyes hg1 hg2
  by_cases h1 : e1 = 0
  · by_cases h2 : e2 = 0
    · have hR := hyes h1 h2
      have hL := hg1 h1
      have hM := hg2 h2
      subst h1 h2
      have HR := Lib.hid hR
      have hL6 := hL.len
      have hM6 := hM.len
      have HL := Lib.hid hL
      have HMg := Lib.hid hM
      clear hno1 hno2 hyes hg1 hg2 hR hL hM
      go_enter Tryd.func14, Tryd.ntmps14
      go_wp2_with (first | (go_at_call 7; (with_reducible refine (C1.out _).mono ?_); rintro e w1 ⟨⟨v1, rfl, hr1⟩, hb1⟩; obtain ⟨a1, cap1, rfl, hV1⟩ := Row.view hr1) | (go_at_call 7; (with_reducible refine (C2.out _).mono ?_); rintro e w2 ⟨⟨v2, rfl, hr2⟩, hb2⟩; obtain ⟨a2, cap2, rfl, hV2⟩ := Row.view hr2) | (go_at_call 29; (with_reducible refine (byKeyC a1 cap1 L _ (hV1.below hb2) hL6 HL.out.ok).mono ?_); rintro e w3 ⟨⟨bm, rfl, hmap⟩, hb3⟩))
      have HV2 : Hid (View w3 a2 M) := hV2.below hb3
      have HMAP := Lib.hid hmap
      have hb0 : Below w.heap.size w w3 := hb1.trans ((hb2.mono hb1.size).trans (hb3.mono (Nat.le_trans hb1.size hb2.size)))
      clear hr1 hr2 hV1 hV2 hb1 hb2 hb3 C1 C2 hmap
      go_wp2
      go_loopw [31] (fun i wr => ∃ k : Nat, k ≤ M.length ∧ i = .int .i64 (k : Int) ∧ Below w3.heap.size w3 wr ∧ Hid (R = (M.drop k).all (Pr.need1 L))) (fun i _ => M.length - (intOf i).toNat)
      case atStart => exact ⟨0, by omega, rfl, Below.refl _ _, HR⟩
      case round =>
        obtain ⟨k, hk, rfl, hbw, hx⟩ := hrel
        by_cases hlt : k < M.length
        · obtain ⟨g, rfl, hg, hc⟩ := HV2.out.is (by omega)
          have c0 := (hbw.cell (p := ⟨g, k * 2, none⟩) hg).trans (hc k hlt).1
          have c1 := (hbw.cell (p := ⟨g, k * 2 + 1, none⟩) hg).trans (hc k hlt).2
          have hx2 := hx.out
          rw [all_at L M k hlt] at hx2
          have hkl := (Pr.okP_short (HMg.out.ok M[k] (List.getElem_mem hlt))).1
          generalize M[k] = p at *
          have hhas := Pr.findK_has L p.1
          clear hc hx HR
          cases hf : Pr.findK L p.1 with
          | none =>
            rw [hf] at hhas
            have hth : Pr.hasKey L p.1 = false := hhas.symm
            rw [Pr.need1_none hf, Bool.false_and] at hx2
            subst hx2
            clear hf hhas
            go_wp2_with (at_lookup; refine wpLook _ rfl _ _ rfl bm L rfl (HMAP.out.below (hbw.alloc hbw.size _)) p.1 rfl hkl ?_; intro p' hp')
            go_ret
            exact ⟨rfl, hb0.trans (((hbw.alloc hbw.size _).alloc (by have := hbw.size; simp; omega) _).mono hb0.size)⟩
          | some v =>
            rw [hf] at hhas
            have hth : Pr.hasKey L p.1 = true := hhas.symm
            rw [Pr.need1_some hf] at hx2
            clear hhas
            cases hag : Pr.agree v p.2 with
            | false =>
              rw [hag, Bool.false_and] at hx2
              subst hx2
              have HF := Lib.hid hf
              have HAG := Lib.hid hag
              clear hf hag
              go_wp2_with (first | (at_lookup; refine wpLook _ rfl _ _ rfl bm L rfl (HMAP.out.below (hbw.alloc hbw.size _)) p.1 rfl hkl ?_; intro p' hp'; have hpv := Lib.hid (hp' HL.out.nd v HF.out); clear hp') | (go_at_call 30; (with_reducible refine (agreeC p'.2 p.2 _).mono ?_); rw [hpv.out, HAG.out]; rintro e wB ⟨rfl, rfl⟩))
              go_ret
              exact ⟨rfl, hb0.trans (((hbw.alloc hbw.size _).alloc (by have := hbw.size; simp; omega) _).mono hb0.size)⟩
            | true =>
              rw [hag, Bool.true_and] at hx2
              have HX := Lib.hid hx2
              have HF := Lib.hid hf
              have HAG := Lib.hid hag
              clear hf hag hx2
              go_wp2_with (first | (at_lookup; refine wpLook _ rfl _ _ rfl bm L rfl (HMAP.out.below (hbw.alloc hbw.size _)) p.1 rfl hkl ?_; intro p' hp'; have hpv := Lib.hid (hp' HL.out.nd v HF.out); clear hp') | (go_at_call 30; (with_reducible refine (agreeC p'.2 p.2 _).mono ?_); rw [hpv.out, HAG.out]; rintro e wB ⟨rfl, rfl⟩))
              go_roundw
              case rel => exact ⟨k + 1, by omega, by go_num, ((hbw.alloc hbw.size _).alloc (by have := hbw.size; simp; omega) _), HX⟩
              case measure => simp [intOf]; omega
        · have hR : R = true := by rw [hx.out, List.drop_eq_nil_of_le (by omega)]; rfl
          subst hR
          clear hx HR
          go_wp2
          go_ret
          exact ⟨rfl, hb0.trans (hbw.mono hb0.size)⟩
    · have hR := hno2 h2
      subst hR h1
      have h2b : (e2 == 0) = false := by simpa using h2
      clear hno1 hno2 hyes hg1 hg2 h2
      go_enter Tryd.func14, Tryd.ntmps14
      go_wp2_with (first | (go_at_call 7; (with_reducible refine (C1.out _).mono ?_); rintro e w1 ⟨⟨v1, rfl, hr1⟩, hb1⟩) | (go_at_call 7; (with_reducible refine (C2.out _).mono ?_); rintro e w2 ⟨⟨v2, rfl, hr2⟩, hb2⟩))
      go_ret
      exact ⟨rfl, hb1.trans (hb2.mono hb1.size)⟩
  · have hR := hno1 h1
    subst hR
    have h1b : (e1 == 0) = false := by simpa using h1
    clear hno1 hno2 hyes hg1 hg2 h1
    go_enter Tryd.func14, Tryd.ntmps14
    go_wp2_with (first | (go_at_call 7; (with_reducible refine (C1.out _).mono ?_); rintro e w1 ⟨⟨v1, rfl, hr1⟩, hb1⟩))
    go_ret
    exact ⟨rfl, hb1⟩
end Go.Proofs.YtmfnfjcoaijjdaaDoor
