/-
  The document's Match; the program's agree.
-/
import Derived.Test.YtmfnfjcoaijjdaaDoorPropJ
namespace Go.Proofs.YtmfnfjcoaijjdaaDoor
open Go.RowKit
set_option linter.unusedVariables false

set_option maxRecDepth 100000 in
theorem agreeC (a b : Pr.B) (w : World) : Calls Tryd.prog 30 #[.string (mk a), .string (mk b)] w (Same (.bool (Pr.agree a b)) w) := by
  have e1 := eqB a b
  have e2 := eqOne a 42
  have e3 := eqOne b 42
  have hA : Pr.agree a b = (decide (a = b) || decide (a = [42]) || decide (b = [42])) := by unfold Pr.agree; rw [Bool.eq_iff_iff]; simp
  rw [hA]
  clear hA
  generalize decide (a = b) = x at *
  generalize decide (a = [42]) = y at *
  generalize decide (b = [42]) = z at *
  cases x <;> cases y <;> cases z
  all_goals
    go_enter Tryd.func30, Tryd.ntmps30
    go_wp2
    go_ret
    exact ⟨rfl, rfl⟩

theorem all_at (L M : List Pr.Pair) (k : Nat) (h : k < M.length) : (M.drop k).all (Pr.need1 L) = (Pr.need1 L M[k] && (M.drop (k + 1)).all (Pr.need1 L)) := by
  rw [List.drop_eq_getElem_cons h, List.all_cons]

set_option maxHeartbeats 4000000 in
set_option maxRecDepth 1000000 in
theorem refMatchC (s t : ByteArray) (w : World) (hs : s.size ≤ 1000000) (ht : t.size ≤ 1000000) :
    Calls Tryd.prog 15 #[.string s, .string t] w (Ret (.bool (Pr.matchV (bl s) (bl t))) w) := by
  have C1 := Lib.hid (fun W => refParseC s W hs)
  have C2 := Lib.hid (fun W => refParseC t W ht)
  have hno1 := fun h => Pr.matchV_no1 (s := bl s) (t := bl t) h
  have hno2 := fun h => Pr.matchV_no2 (s := bl s) (t := bl t) h
  have hyes := fun h h2 => Pr.matchV_yes (s := bl s) (t := bl t) h h2
  have hg1 := fun (h : (Pr.parse (bl s)).1 = 0) => (Pr.parse_good (x := bl s) (l := (Pr.parse (bl s)).2) (Prod.ext h rfl)).1.len
  have hg2 := fun (h : (Pr.parse (bl t)).1 = 0) => (Pr.parse_good (x := bl t) (l := (Pr.parse (bl t)).2) (Prod.ext h rfl)).1.len
  generalize Pr.matchV (bl s) (bl t) = R at *
  generalize Pr.parse (bl s) = x at *
  generalize Pr.parse (bl t) = y at *
  obtain ⟨e1, L⟩ := x
  obtain ⟨e2, M⟩ := y
  simp only at hno1 hno2 hyes hg1 hg2
  by_cases h1 : e1 = 0
  · by_cases h2 : e2 = 0
    · have hR := hyes h1 h2
      have hL := hg1 h1
      have hM := hg2 h2
      subst h1 h2
      have HR := Lib.hid hR
      clear hno1 hno2 hyes hg1 hg2 hR
      go_enter Tryd.func15, Tryd.ntmps15
      go_wp2_with (first | (go_at_call 8; (with_reducible refine (C1.out _).mono ?_); rintro e w1 ⟨⟨v1, rfl, hr1⟩, hb1⟩; obtain ⟨a1, cap1, rfl, hV1⟩ := Row.view hr1) | (go_at_call 8; (with_reducible refine (C2.out _).mono ?_); rintro e w2 ⟨⟨v2, rfl, hr2⟩, hb2⟩; obtain ⟨a2, cap2, rfl, hV2⟩ := Row.view hr2))
      have HV1 : Hid (View w2 a1 L) := hV1.below hb2
      have HV2 := Lib.hid hV2
      have hb0 : Below w.heap.size w w2 := hb1.trans (hb2.mono hb1.size)
      clear hr1 hr2 hV1 hV2 hb1 hb2 C1 C2
      go_wp2
      go_loopw [9] (fun i wr => ∃ k : Nat, k ≤ M.length ∧ i = .int .i64 (k : Int) ∧ Below w2.heap.size w2 wr ∧ Hid (R = (M.drop k).all (Pr.need1 L))) (fun i _ => M.length - (intOf i).toNat)
      case atStart => exact ⟨0, by omega, rfl, Below.refl _ _, HR⟩
      case round =>
        obtain ⟨k, hk, rfl, hbw, hx⟩ := hrel
        by_cases hlt : k < M.length
        · obtain ⟨g, rfl, hg, hc⟩ := HV2.out.is (by omega)
          have c0 := (hbw.cell (p := ⟨g, k * 2, none⟩) hg).trans (hc k hlt).1
          have c1 := (hbw.cell (p := ⟨g, k * 2 + 1, none⟩) hg).trans (hc k hlt).2
          have hgr : g < wr.heap.size := Nat.lt_of_lt_of_le hg hbw.size
          have hx2 := hx.out
          rw [all_at L M k hlt] at hx2
          generalize M[k] = p at *
          have hCF := fun W (h : View W a1 L) => refFindC a1 cap1 L p.1 W h (by omega)
          clear hc hx HR hg
          cases hf : Pr.findK L p.1 with
          | none =>
            rw [hf] at hCF
            have CF : Hid (∀ W, View W a1 L → Calls Tryd.prog 21 #[.slice a1 L.length cap1, .string (mk p.1)] W (Ret (.tuple #[.string (mk []), .bool false]) W)) := hCF
            rw [Pr.need1_none hf, Bool.false_and] at hx2
            subst hx2
            clear hCF hf HV2
            go_wp2_with (go_at_call 21; (with_reducible refine (CF.out _ (HV1.out.below hbw)).mono ?_); rintro e wB ⟨rfl, hbB⟩; have d1 := (hbB.cell (p := ⟨g, k * 2 + 1, none⟩) hgr).trans c1)
            go_ret
            exact ⟨rfl, hb0.trans ((hbw.trans (hbB.mono hbw.size)).mono hb0.size)⟩
          | some v =>
            rw [hf] at hCF
            have CF : Hid (∀ W, View W a1 L → Calls Tryd.prog 21 #[.slice a1 L.length cap1, .string (mk p.1)] W (Ret (.tuple #[.string (mk v), .bool true]) W)) := hCF
            rw [Pr.need1_some hf] at hx2
            have q1 := eqB v p.2
            have q2 := eqOne v 42
            have q3 := eqOne p.2 42
            have hA : Pr.agree v p.2 = (decide (v = p.2) || decide (v = [42]) || decide (p.2 = [42])) := by unfold Pr.agree; rw [Bool.eq_iff_iff]; simp
            rw [hA] at hx2
            clear hCF hf HV2 hA
            generalize decide (v = p.2) = x1 at *
            generalize decide (v = [42]) = x2 at *
            generalize decide (p.2 = [42]) = x3 at *
            cases x1
            · cases x2
              · cases x3
                · have hR : R = false := by rw [hx2]; rfl
                  subst hR
                  clear hx2
                  go_wp2_with (go_at_call 21; (with_reducible refine (CF.out _ (HV1.out.below hbw)).mono ?_); rintro e wB ⟨rfl, hbB⟩; have d1 := (hbB.cell (p := ⟨g, k * 2 + 1, none⟩) hgr).trans c1)
                  go_ret
                  exact ⟨rfl, hb0.trans ((hbw.trans (hbB.mono hbw.size)).mono hb0.size)⟩
                · have HX : Hid (R = (M.drop (k + 1)).all (Pr.need1 L)) := by rw [hx2]; exact Bool.true_and _
                  clear hx2
                  go_wp2_with (go_at_call 21; (with_reducible refine (CF.out _ (HV1.out.below hbw)).mono ?_); rintro e wB ⟨rfl, hbB⟩; have d1 := (hbB.cell (p := ⟨g, k * 2 + 1, none⟩) hgr).trans c1)
                  go_roundw
                  case rel => exact ⟨k + 1, by omega, by go_num, hbw.trans (hbB.mono hbw.size), HX⟩
                  case measure => simp [intOf]; omega
              · have HX : Hid (R = (M.drop (k + 1)).all (Pr.need1 L)) := by rw [hx2]; exact Bool.true_and _
                clear hx2
                go_wp2_with (go_at_call 21; (with_reducible refine (CF.out _ (HV1.out.below hbw)).mono ?_); rintro e wB ⟨rfl, hbB⟩; have d1 := (hbB.cell (p := ⟨g, k * 2 + 1, none⟩) hgr).trans c1)
                go_roundw
                case rel => exact ⟨k + 1, by omega, by go_num, hbw.trans (hbB.mono hbw.size), HX⟩
                case measure => simp [intOf]; omega
            · have HX : Hid (R = (M.drop (k + 1)).all (Pr.need1 L)) := by rw [hx2]; exact Bool.true_and _
              clear hx2
              go_wp2_with (go_at_call 21; (with_reducible refine (CF.out _ (HV1.out.below hbw)).mono ?_); rintro e wB ⟨rfl, hbB⟩; have d1 := (hbB.cell (p := ⟨g, k * 2 + 1, none⟩) hgr).trans c1)
              go_roundw
              case rel => exact ⟨k + 1, by omega, by go_num, hbw.trans (hbB.mono hbw.size), HX⟩
              case measure => simp [intOf]; omega
        · have hR : R = true := by rw [hx.out, List.drop_eq_nil_of_le (by omega)]; rfl
          subst hR
          clear hx HR
          go_wp2
          go_ret
          exact ⟨rfl, hb0.trans (hbw.mono hb0.size)⟩
    · have hR := hno2 h2
      subst hR h1
      have h2b : (e2 == 0) = false := by simpa using h2
      clear hno1 hno2 hyes hg1 hg2 h2
      go_enter Tryd.func15, Tryd.ntmps15
      go_wp2_with (first | (go_at_call 8; (with_reducible refine (C1.out _).mono ?_); rintro e w1 ⟨⟨v1, rfl, hr1⟩, hb1⟩) | (go_at_call 8; (with_reducible refine (C2.out _).mono ?_); rintro e w2 ⟨⟨v2, rfl, hr2⟩, hb2⟩))
      go_ret
      exact ⟨rfl, hb1.trans (hb2.mono hb1.size)⟩
  · have hR := hno1 h1
    subst hR
    have h1b : (e1 == 0) = false := by simpa using h1
    clear hno1 hno2 hyes hg1 hg2 h1
    go_enter Tryd.func15, Tryd.ntmps15
    go_wp2_with (first | (go_at_call 8; (with_reducible refine (C1.out _).mono ?_); rintro e w1 ⟨⟨v1, rfl, hr1⟩, hb1⟩) | (go_at_call 8; (with_reducible refine (C2.out _).mono ?_); rintro e w2 ⟨⟨v2, rfl, hr2⟩, hb2⟩))
    go_ret
    exact ⟨rfl, hb1.trans (hb2.mono hb1.size)⟩
end Go.Proofs.YtmfnfjcoaijjdaaDoor
