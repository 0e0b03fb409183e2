/-
  The document's Right.
-/
import Derived.Test.YtmdpfinadffcaaaHyJ
import Derived.BigQuiet
namespace Go.Proofs.Ytmdpfinadffcaaa
open Go.RowKit
set_option linter.unusedVariables false

set_option maxRecDepth 100000 in
set_option maxHeartbeats 8000000 in
theorem refRightsC (room : Int) (a : Option Addr) (ca : Nat) (R : List Lr.E) (b : Bool) (w : World) (hl : R.length ≤ 1000000) (ha : RowsAt w a R) (hb : b = true ↔ (1 ≤ room ∧ (R.length : Int) ≤ room ∧ Hy.Fine R R.length)) :
    Calls Try.prog 12 #[.int .i64 room, .slice a R.length ca] w (Ret (.bool b) w) := by
  have HNO : Hid (¬ (1 ≤ room ∧ (R.length : Int) ≤ room ∧ Hy.Fine R R.length) → b = false) := Lib.hid (fun h => by cases b; rfl; exact absurd (hb.1 rfl) h)
  have HYES := Lib.hid hb.2
  have HA := Lib.hid ha
  clear ha hb
  by_cases h1 : room < 1
  · have HN := Lib.hid (HNO.out (by omega))
    clear HNO HYES
    generalize R.length = n at *
    go_enter Try.func12, Try.ntmps12
    go_wp2
    go_ret
    exact ⟨by rw [HN.out]; rfl, Below.refl _ _⟩
  by_cases h2 : (R.length : Int) ≤ room
  · have t1 : decide ((R.length : Int) > room) = false := decide_eq_false (by omega)
    have HRM := Lib.hid (show 1 ≤ room ∧ (R.length : Int) ≤ room from ⟨by omega, h2⟩)
    clear h2
    go_enter Try.func12, Try.ntmps12
    go_wp2
    go_loopw [5] (fun s wr => ∃ j : Nat, j ≤ R.length ∧ s = .int .i64 (j : Int) ∧ Hid (Hy.Fine R j) ∧ Hid (Below w.heap.size w wr)) (fun s _ => R.length - (intOf s).toNat)
    case atStart => exact ⟨0, Nat.zero_le _, rfl, Lib.hid (Hy.fine_zero R), Lib.hid (Below.refl _ _)⟩
    case round =>
      obtain ⟨j, hj, rfl, HF, HBL⟩ := hrel
      by_cases hlt : j < R.length
      · have hRA := HA.out.below HBL.out
        obtain ⟨g, off, rfl, hg, hc⟩ := hRA.cell hlt
        have HRNG := Lib.hid (fun W (hb : Below wr.heap.size wr W) => row_hist (w := W) (k := R[j].1) (v := R[j].2) (g := g) (off := off + j * 17) (fun i u hu => (hb.cell (p := ⟨g, off + j * 17 + i, none⟩) hg).trans (hc i u hu)))
        have CR := Lib.hid (fun W => refRightC R[j].2.1 R[j].2.2 W)
        have HR0 := Lib.hid (HRNG.out wr (Below.refl _ _))
        by_cases ho : Hi.ok R[j].2.1 = true
        · have CT := Lib.hid (fun W => refTotalC R[j].2.1 R[j].2.2 (Hi.small.wide (Hi.ok_iff.1 ho).1) W)
          rw [ho] at CR
          by_cases h0 : Hi.tot R[j].2.1 = 0
          · have HN := Lib.hid (HNO.out (fun h => (Hy.okE_iff.1 (h.2.2.ok j hlt hlt)).2 h0))
            rw [h0] at CT
            clear hc HF HNO HYES ho h0 hRA
            generalize R[j].2 = v at *
            go_wp2_with (first
              | (refine loadM HR1.out _ rfl rfl rfl ?_)
              | (refine loadM HR0.out _ rfl rfl rfl ?_)
              | (go_at_call 26; (with_reducible refine (CR.out _).mono ?_); rintro e wA ⟨rfl, hb⟩; have HR1 := Lib.hid (HRNG.out wA hb); have HB1 := Lib.hid (HBL.out.trans (hb.mono HBL.out.size)); clear hb)
              | (go_at_call 27; (with_reducible refine (CT.out _).mono ?_); rintro e wB ⟨rfl, hb⟩; have HB2 := Lib.hid (HB1.out.trans (hb.mono HB1.out.size)); clear hb))
            go_ret
            exact ⟨by rw [HN.out]; rfl, HB2.out⟩
          · have hok : Hy.okE R[j] = true := Hy.okE_iff.2 ⟨ho, h0⟩
            have hstep : (∀ i (hi : i < R.length), i < j → R[i].1 ≠ R[j].1) → Hy.Fine R (j + 1) := fun h => HF.out.step hlt hok h
            have hdup : ∀ i (hi : i < R.length), i < j → R[i].1 = R[j].1 → b = false := fun i hi hij he => HNO.out (fun h => h.2.2.ne j i hlt hi hlt hij he)
            have HST := Lib.hid hstep
            have HDP := Lib.hid hdup
            have t0 : (Hi.tot R[j].2.1 == 0) = false := by simpa using h0
            have HJ := Lib.hid hlt
            clear HF ho h0 hok hstep hdup
            generalize hk : R[j].1 = key at *
            have HK := Lib.hid hk
            clear hk
            generalize R[j].2 = v at *
            generalize Hi.tot v.1 = T at *
            have HKEY := Lib.hid (fun W (hb : Below wr.heap.size wr W) => (hb.cell (p := ⟨g, off + j * 17, none⟩) hg).trans (row_key hc))
            clear hc
            have HRA := Lib.hid hRA
            clear hRA
            go_wp2_with (first
              | (refine loadM HR1.out _ rfl rfl rfl ?_)
              | (refine loadM HR0.out _ rfl rfl rfl ?_)
              | (go_at_call 26; (with_reducible refine (CR.out _).mono ?_); rintro e wA ⟨rfl, hb⟩; have HR1 := Lib.hid (HRNG.out wA hb); have HB1 := Lib.hid hb; clear hb)
              | (go_at_call 27; (with_reducible refine (CT.out _).mono ?_); rintro e wB ⟨rfl, hb⟩; have HB2 := Lib.hid (HB1.out.trans (hb.mono HB1.out.size)); clear hb))
            obtain ⟨w1, hw1⟩ : ∃ w1, w1 = wr := ⟨_, rfl⟩
            rw [← hw1] at HBL HRNG HKEY HRA HB2 HB1 hg
            clear hw1 HR0 HR1 CR CT HB1 HRNG
            go_loopw [6] (fun s wr => ∃ k : Nat, k ≤ j ∧ s = .int .i64 (k : Int) ∧ Hid (∀ i (hi : i < R.length), i < k → R[i].1 ≠ key) ∧ Hid (Below w1.heap.size w1 wr)) (fun s _ => j - (intOf s).toNat)
            case atStart => exact ⟨0, Nat.zero_le _, rfl, Lib.hid (fun i hi h => by omega), HB2⟩
            case round =>
              obtain ⟨k, hkj, rfl, HN, HBK⟩ := hrel
              clear HB2
              by_cases hlk : k < j
              · have hkn : k < R.length := by omega
                obtain ⟨g', off', e, hg', hc⟩ := (HRA.out.below HBK.out).cell hkn
                cases e
                have d0 := row_key hc
                have d1 := HKEY.out wr HBK.out
                have hnx : R[k].1 ≠ key → ∀ i (hi : i < R.length), i < k + 1 → R[i].1 ≠ key := fun hne i hi h2 => by
                  by_cases e : i = k
                  · subst e; exact hne
                  · exact HN.out i hi (by omega)
                have HNX := Lib.hid hnx
                have HD2 := Lib.hid (HDP.out k hkn hlk)
                have HDR := Lib.hid (fun q => below_drewN HBK.out q)
                clear hc hnx HN hg'
                generalize R[k].1 = x at *
                by_cases e1 : x = key
                · have t1 := eq_yesS key
                  have HFL := Lib.hid (HD2.out e1)
                  subst e1
                  clear HNX HD2
                  go_wp2
                  go_quiet (fail)
                  go_wp2
                  go_ret
                  exact ⟨by rw [HFL.out]; rfl, HBL.out.trans ((HDR.out _).mono HBL.out.size)⟩
                · have t1 := eq_noS e1
                  have HNX2 := Lib.hid (HNX.out e1)
                  clear e1 HNX HD2
                  go_wp2
                  go_quiet (fail)
                  go_wp2
                  go_roundw
                  case rel => exact ⟨k + 1, by omega, by go_num, HNX2, Lib.hid (HDR.out _)⟩
                  case measure => simp [intOf]; omega
              · obtain rfl : k = j := by omega
                have HF2 := Lib.hid (HST.out HN.out)
                go_wp2
                go_roundw
                case rel => exact ⟨k + 1, by omega, by go_num, HF2, Lib.hid (HBL.out.trans (HBK.out.mono HBL.out.size))⟩
                case measure => simp [intOf]; omega
        · have HN := Lib.hid (HNO.out (fun h => ho (Hy.okE_iff.1 (h.2.2.ok j hlt hlt)).1))
          have ho' : Hi.ok R[j].2.1 = false := by simpa using ho
          rw [ho'] at CR
          clear hc HF HNO HYES ho ho' hRA
          generalize R[j].2 = v at *
          go_wp2_with (first
            | (refine loadM HR0.out _ rfl rfl rfl ?_)
            | (go_at_call 26; (with_reducible refine (CR.out _).mono ?_); rintro e wA ⟨rfl, hb⟩; have HB1 := Lib.hid (HBL.out.trans (hb.mono HBL.out.size)); clear hb))
          go_ret
          exact ⟨by rw [HN.out]; rfl, HB1.out⟩
      · obtain rfl : j = R.length := by omega
        have HY := Lib.hid (HYES.out ⟨HRM.out.1, HRM.out.2, HF.out⟩)
        clear HF HYES HNO
        go_wp2
        go_ret
        exact ⟨by rw [HY.out]; rfl, HBL.out⟩
  · have HN := Lib.hid (HNO.out (fun h => h2 h.2.1))
    have t1 : decide ((R.length : Int) > room) = true := decide_eq_true (by omega)
    clear HNO HYES h2
    generalize R.length = n at *
    go_enter Try.func12, Try.ntmps12
    go_wp2
    go_ret
    exact ⟨by rw [HN.out]; rfl, Below.refl _ _⟩
end Go.Proofs.Ytmdpfinadffcaaa
