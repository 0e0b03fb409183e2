/-
  The program's take.
-/
import Derived.Test.YtmmfmpnkjienfaaWhT3
namespace Go.Proofs.Ytmmfmpnkjienfaa
open Go.RowKit
set_option linter.unusedVariables false

/-- what is due by tm at the latest, and perhaps more, has been taken out of the slots -/
structure RetTake (B P : Nat) (now tm : Int) (l : List Wh.E) (T : Nat) (sl : Nat → Option Nat) (w : World) (e : Ending) (w' : World) : Prop where
  r : ∃ v acc, e = .returned v ∧ TakeS w B P now l T sl (pl now tm + 1) v acc w'

set_option maxRecDepth 100000 in
set_option maxHeartbeats 4000000 in
theorem takeC (tm : Int) (w : World) (B P : Nat) (now : Int) (l : List Wh.E) (T : Nat) (sl : Nat → Option Nat) (h : WAt w B P now l l T sl) (ht : (Lit.int .u64 tm).wf = true) (hn : (l.map (·.1)).Nodup) (hl : l.length ≤ 1000) :
    Calls Try.prog 52 #[.pointer (some ⟨P, 0, none⟩), .int .u64 tm] w (RetTake B P now tm l T sl w) := by
  have k2 := findC now tm P w h.now ht h.now0
  obtain ⟨L0, hL⟩ : ∃ L, L = Wh.lev now.toNat (max tm.toNat now.toNat) := ⟨_, rfl⟩
  obtain ⟨D0, hD⟩ : ∃ D, D = Wh.dig now.toNat (max tm.toNat now.toNat) := ⟨_, rfl⟩
  have hj : pl now tm = 16 * L0 + D0 := by unfold pl Wh.plc; rw [hL, hD]
  have hL16 : L0 < 16 := by rw [hL]; exact Wh.lev_lt (by have := toNat_lt ht; have := toNat_lt h.now; omega) (toNat_lt h.now)
  have hD16 : D0 < 16 := by rw [hD]; exact Wh.dig_lt _ _
  rw [← hL, ← hD] at k2
  clear hL hD
  have K2 := Lib.hid k2
  have HJ := Lib.hid hj
  have HN := Lib.hid hn
  have HL := Lib.hid hl
  have HS := Lib.hid (fun q => TakeS.start h q)
  clear h ht hn hl k2 hj
  go_enter Try.func52, Try.ntmps52
  go_wp2_with (go_at_call 51; (with_reducible refine K2.out.mono ?_); rintro e w1 ⟨rfl, q, rfl⟩)
  go_loopw [5, 21] (fun v i wr => ∃ (L : Nat) (acc : List Wh.E), L ≤ L0 + 1 ∧ i = .int .i64 (L : Int) ∧ TakeS w B P now l T sl (min (16 * L) (16 * L0 + D0 + 1)) v acc wr) (fun _ i _ => L0 + 1 - (intOf i).toNat)
  case atStart => exact ⟨0, [], by omega, rfl, by simpa using HS.out q⟩
  case round =>
    obtain ⟨L, acc, hL, rfl, hT⟩ := hrel
    by_cases hlt : L < L0 + 1
    · have e1 : min (16 * L) (16 * L0 + D0 + 1) = 16 * L := by omega
      rw [e1] at hT
      clear e1
      by_cases heq : L = L0
      · subst heq
        clear hlt
        have E : ((L : Int) == (L : Int)) = true := by simp
        have E2 : decide ((L : Int) < (L : Int) + 1) = true := decide_eq_true (by omega)
        go_wp2
        go_loopw [5, 39] (fun v i wr => ∃ (D : Nat) (acc : List Wh.E), D ≤ (D0 + 1) ∧ i = .int .i64 (D : Int) ∧ TakeS w B P now l T sl (16 * L + D) v acc wr) (fun _ i _ => (D0 + 1) - (intOf i).toNat)
        case atStart => exact ⟨0, _, by omega, rfl, by simpa using hT⟩
        case round =>
          obtain ⟨D, acc2, hD, rfl, hT2⟩ := hrel
          clear hT
          by_cases hlt2 : D < (D0 + 1)
          · have hm : 16 * L + D < 256 := by omega
            have c := hT2.slot hm
            have f := hT2.at_.frozen (16 * L + D + 2)
            rw [show 16 * L + D + 2 = 2 + L * 16 + D by omega] at c f
            have HM0 := Lib.hid hm
            cases hx : sl (16 * L + D) with
            | none =>
              rw [hx] at c
              have HX := Lib.hid hx
              have HT2 := Lib.hid hT2
              have hP := (hT2.at_.bounds P (Or.inl rfl)).2
              have hba : Below wr.heap.size wr (wr.alloc (.mapIter none 0 #[] 0)) := (Below.refl _ _).alloc (Nat.le_refl _) _
              have c' := ((below_cells hba P hP).1 (2 + L * 16 + D)).trans c
              have f' := ((below_cells hba P hP).2 (2 + L * 16 + D)).trans f
              have HBA := Lib.hid hba
              clear hx hT2 hP hba hm
              have hrg := run_range_nilMap (P := Try.prog) wr 69 3 22 Try.underlying69
              have hnx : ∀ ty, (Instr.next (.pointer (some ⟨wr.heap.size, 0, none⟩)) false ty).run Try.prog (wr.alloc (.mapIter none 0 #[] 0)) = _ := fun ty => run_next_nilMap wr ty 0 0 #[]
              go_wp2
              refine wp_loop_rounds 1 ?_
              rw [rounds_succ]
              go_wp2
              go_roundw
              case rel => exact ⟨D + 1, acc2, by omega, by go_num, HT2.out.step HM0.out (HT2.out.at_.below HBA.out) (HT2.out.row.below HBA.out) (by rw [HT2.out.none HM0.out HX.out, List.append_nil]) (HT2.out.chg.then HBA.out) (by rw [show 16 * L + D + 2 = 2 + L * 16 + D by omega])⟩
              case measure => simp [intOf]; omega
            | some b =>
              rw [hx] at c
              have HX := Lib.hid hx
              have HT2 := Lib.hid hT2
              have HMP := Lib.hid (hT2.map hm hx)
              clear hx hT2 hm
              go_wp2_with (at_range; refine wpRangeE _ rfl _ _ rfl Try.underlying69 b _ rfl HMP.out (nodup_atP HN.out _) ?_; intro w0 cnt0 hR0 hB0 hs0)
              go_frame
              go_loopw [5] (fun v wr3 => ∃ (xs : List Wh.E) (cnt : Nat), RangeS w B P now l T sl (16 * L + D) wr.heap.size b v acc2 xs cnt wr3) (fun _ wr3 => wr3.rangeLeft b wr.heap.size)
              case atStart => exact ⟨[], _, RangeS.start HT2.out HM0.out HX.out hR0 hB0⟩
              case round =>
                obtain ⟨xs, cnt, hR⟩ := hrel
                clear hR0 hB0 hs0 c f
                have HRR := Lib.hid hR
                have hrg3 := hR.rg
                have c3 := hR.slot HM0.out
                have f3 := hR.at_.frozen (16 * L + D + 2)
                rw [show 16 * L + D + 2 = 2 + L * 16 + D by omega] at c3 f3
                rw [HX.out] at c3
                clear hR
                go_wp2_with (at_next; refine wpNextE _ rfl _ rfl b _ cnt _ xs rfl hrg3 ?_ ?_)
                · intro hp
                  have HP := Lib.hid hp
                  clear hrg3 hp
                  go_wp2
                  go_roundw
                  case rel => exact ⟨D + 1, acc2 ++ xs, by omega, by go_num, HRR.out.stop HT2.out HM0.out HP.out (by rw [show 16 * L + D + 2 = 2 + L * 16 + D by omega])⟩
                  case measure => simp [intOf]; omega
                · intro x cx w1 cnt1 hwx hwc hmem hR1 hlt1 hc1 hs1 hen
                  have HR1 := Lib.hid hR1
                  have HC1 := Lib.hid hc1
                  have HLT := Lib.hid hlt1
                  have hrow1 := (HRR.out.next hc1).2.1
                  obtain ⟨a', cap', rfl⟩ := own_some hrow1
                  have hown1 : w1.ownsRow w.heap.size 39 3 (.slice a' (acc2 ++ xs).length cap') (acc2 ++ xs).length (cellsE (acc2 ++ xs)) := hrow1
                  have hlen1 : (acc2 ++ xs).length ≤ 9223372036 := by
                    have h1 := HT2.out.len
                    have h2 := HRR.out.len
                    have h3 := HL.out
                    rw [List.length_append]
                    omega
                  have hwsz : w.heap.size ≤ w1.heap.size := (HRR.out.next hc1).2.2.size
                  have HOA := Lib.hid hown1
                  clear hrow1 hown1 hR1 hc1 hlt1 hmem c3 f3 hrg3 hs1
                  go_wp2_with (at_builtin; (refine wpApp w1 rfl _ _ 28 rfl w.heap.size 39 _ 3 24 Try.underlying28 infoTimer rfl (by decide) (by decide) (.slice a' (acc2 ++ xs).length cap') (acc2 ++ xs).length (cellsE (acc2 ++ xs)) rfl HOA.out #[.int .i64 0, .int .i64 x, .int .u64 cx] _ rfl rfl (fun u hu => by simp at hu; rcases hu with rfl | rfl | rfl <;> rfl) hlen1 hwsz ?_); intro v' w2 hown2 hb2 hk2)
                  have hR2 := HRR.out.app (e := (x, cx)) HC1.out HR1.out hown2 hb2 hk2
                  have HR2 := Lib.hid hR2
                  clear hown2 hb2 hk2 hR2
                  go_wp2
                  go_roundw
                  case rel => exact ⟨xs ++ [(x, cx)], cnt1, HR2.out⟩
                  case measure =>
                    rw [HR2.out.rg.left_eq, HRR.out.rg.left_eq]
                    exact HLT.out
          · obtain rfl : D = (D0 + 1) := by omega
            have hT3 := hT2
            rw [show 16 * L + (D0 + 1) = min (16 * (L + 1)) (16 * L + D0 + 1) by omega] at hT3
            have HT3 := Lib.hid hT3
            clear hT2 hT3
            go_wp2
            go_roundw
            case rel => exact ⟨L + 1, acc2, by omega, by go_num, HT3.out⟩
            case measure => simp [intOf]
      · have E : ((L : Int) == (L0 : Int)) = false := by simp only [beq_eq_false_iff_ne]; omega
        have E2 : decide ((L : Int) < (L0 : Int) + 1) = true := decide_eq_true (by omega)
        go_wp2
        go_loopw [5, 39] (fun v i wr => ∃ (D : Nat) (acc : List Wh.E), D ≤ 16 ∧ i = .int .i64 (D : Int) ∧ TakeS w B P now l T sl (16 * L + D) v acc wr) (fun _ i _ => 16 - (intOf i).toNat)
        case atStart => exact ⟨0, _, by omega, rfl, by simpa using hT⟩
        case round =>
          obtain ⟨D, acc2, hD, rfl, hT2⟩ := hrel
          clear hT
          by_cases hlt2 : D < 16
          · have hm : 16 * L + D < 256 := by omega
            have c := hT2.slot hm
            have f := hT2.at_.frozen (16 * L + D + 2)
            rw [show 16 * L + D + 2 = 2 + L * 16 + D by omega] at c f
            have HM0 := Lib.hid hm
            cases hx : sl (16 * L + D) with
            | none =>
              rw [hx] at c
              have HX := Lib.hid hx
              have HT2 := Lib.hid hT2
              have hP := (hT2.at_.bounds P (Or.inl rfl)).2
              have hba : Below wr.heap.size wr (wr.alloc (.mapIter none 0 #[] 0)) := (Below.refl _ _).alloc (Nat.le_refl _) _
              have c' := ((below_cells hba P hP).1 (2 + L * 16 + D)).trans c
              have f' := ((below_cells hba P hP).2 (2 + L * 16 + D)).trans f
              have HBA := Lib.hid hba
              clear hx hT2 hP hba hm
              have hrg := run_range_nilMap (P := Try.prog) wr 69 3 22 Try.underlying69
              have hnx : ∀ ty, (Instr.next (.pointer (some ⟨wr.heap.size, 0, none⟩)) false ty).run Try.prog (wr.alloc (.mapIter none 0 #[] 0)) = _ := fun ty => run_next_nilMap wr ty 0 0 #[]
              go_wp2
              refine wp_loop_rounds 1 ?_
              rw [rounds_succ]
              go_wp2
              go_roundw
              case rel => exact ⟨D + 1, acc2, by omega, by go_num, HT2.out.step HM0.out (HT2.out.at_.below HBA.out) (HT2.out.row.below HBA.out) (by rw [HT2.out.none HM0.out HX.out, List.append_nil]) (HT2.out.chg.then HBA.out) (by rw [show 16 * L + D + 2 = 2 + L * 16 + D by omega])⟩
              case measure => simp [intOf]; omega
            | some b =>
              rw [hx] at c
              have HX := Lib.hid hx
              have HT2 := Lib.hid hT2
              have HMP := Lib.hid (hT2.map hm hx)
              clear hx hT2 hm
              go_wp2_with (at_range; refine wpRangeE _ rfl _ _ rfl Try.underlying69 b _ rfl HMP.out (nodup_atP HN.out _) ?_; intro w0 cnt0 hR0 hB0 hs0)
              go_frame
              go_loopw [5] (fun v wr3 => ∃ (xs : List Wh.E) (cnt : Nat), RangeS w B P now l T sl (16 * L + D) wr.heap.size b v acc2 xs cnt wr3) (fun _ wr3 => wr3.rangeLeft b wr.heap.size)
              case atStart => exact ⟨[], _, RangeS.start HT2.out HM0.out HX.out hR0 hB0⟩
              case round =>
                obtain ⟨xs, cnt, hR⟩ := hrel
                clear hR0 hB0 hs0 c f
                have HRR := Lib.hid hR
                have hrg3 := hR.rg
                have c3 := hR.slot HM0.out
                have f3 := hR.at_.frozen (16 * L + D + 2)
                rw [show 16 * L + D + 2 = 2 + L * 16 + D by omega] at c3 f3
                rw [HX.out] at c3
                clear hR
                go_wp2_with (at_next; refine wpNextE _ rfl _ rfl b _ cnt _ xs rfl hrg3 ?_ ?_)
                · intro hp
                  have HP := Lib.hid hp
                  clear hrg3 hp
                  go_wp2
                  go_roundw
                  case rel => exact ⟨D + 1, acc2 ++ xs, by omega, by go_num, HRR.out.stop HT2.out HM0.out HP.out (by rw [show 16 * L + D + 2 = 2 + L * 16 + D by omega])⟩
                  case measure => simp [intOf]; omega
                · intro x cx w1 cnt1 hwx hwc hmem hR1 hlt1 hc1 hs1 hen
                  have HR1 := Lib.hid hR1
                  have HC1 := Lib.hid hc1
                  have HLT := Lib.hid hlt1
                  have hrow1 := (HRR.out.next hc1).2.1
                  obtain ⟨a', cap', rfl⟩ := own_some hrow1
                  have hown1 : w1.ownsRow w.heap.size 39 3 (.slice a' (acc2 ++ xs).length cap') (acc2 ++ xs).length (cellsE (acc2 ++ xs)) := hrow1
                  have hlen1 : (acc2 ++ xs).length ≤ 9223372036 := by
                    have h1 := HT2.out.len
                    have h2 := HRR.out.len
                    have h3 := HL.out
                    rw [List.length_append]
                    omega
                  have hwsz : w.heap.size ≤ w1.heap.size := (HRR.out.next hc1).2.2.size
                  have HOA := Lib.hid hown1
                  clear hrow1 hown1 hR1 hc1 hlt1 hmem c3 f3 hrg3 hs1
                  go_wp2_with (at_builtin; (refine wpApp w1 rfl _ _ 28 rfl w.heap.size 39 _ 3 24 Try.underlying28 infoTimer rfl (by decide) (by decide) (.slice a' (acc2 ++ xs).length cap') (acc2 ++ xs).length (cellsE (acc2 ++ xs)) rfl HOA.out #[.int .i64 0, .int .i64 x, .int .u64 cx] _ rfl rfl (fun u hu => by simp at hu; rcases hu with rfl | rfl | rfl <;> rfl) hlen1 hwsz ?_); intro v' w2 hown2 hb2 hk2)
                  have hR2 := HRR.out.app (e := (x, cx)) HC1.out HR1.out hown2 hb2 hk2
                  have HR2 := Lib.hid hR2
                  clear hown2 hb2 hk2 hR2
                  go_wp2
                  go_roundw
                  case rel => exact ⟨xs ++ [(x, cx)], cnt1, HR2.out⟩
                  case measure =>
                    rw [HR2.out.rg.left_eq, HRR.out.rg.left_eq]
                    exact HLT.out
          · obtain rfl : D = 16 := by omega
            have hT3 := hT2
            rw [show 16 * L + 16 = min (16 * (L + 1)) (16 * L0 + D0 + 1) by omega] at hT3
            have HT3 := Lib.hid hT3
            clear hT2 hT3
            go_wp2
            go_roundw
            case rel => exact ⟨L + 1, acc2, by omega, by go_num, HT3.out⟩
            case measure => simp [intOf]; omega
    · obtain rfl : L = L0 + 1 := by omega
      have e1 : min (16 * (L0 + 1)) (16 * L0 + D0 + 1) = pl now tm + 1 := by rw [HJ.out]; omega
      rw [e1] at hT
      have HT := Lib.hid hT
      clear hT e1
      go_wp2
      go_ret
      exact ⟨_, _, rfl, HT.out⟩
end Go.Proofs.Ytmmfmpnkjienfaa
