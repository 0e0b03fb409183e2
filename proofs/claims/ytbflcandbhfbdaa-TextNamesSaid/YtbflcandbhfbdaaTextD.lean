/-
  The document's Name and Fold; the page's examples.
-/
import Derived.Test.YtbflcandbhfbdaaTextC
import Derived.Laws.Cover4
namespace Go.Proofs.Ytbflcandbhfbdaa
open Go.RowKit
set_option linter.unusedVariables false

theorem runes_bd (l : List UInt8) (j : Nat) (h : j < (Tx.runesL l).length) : 0 ≤ (Tx.runesL l)[j] ∧ (Tx.runesL l)[j] ≤ 1114111 := by
  have := Tx.validRune_spec (Tx.runesL_valid l _ (List.getElem_mem h))
  omega

theorem name_no (l : List UInt8) (j : Nat) (h : j < (Tx.runesL l).length) (hn : Tx.nameR (Tx.runesL l)[j] = false) : Tx.nameL l = false := by
  have : (Tx.runesL l).all Tx.nameR = false := by
    rw [List.all_eq_false]
    exact ⟨_, List.getElem_mem h, by simp [hn]⟩
  simp [Tx.nameL, this]
theorem name_yes (l : List UInt8) (h : ∀ j (h : j < (Tx.runesL l).length), Tx.nameR (Tx.runesL l)[j] = true) : Tx.nameL l = (decide (1 ≤ (Tx.runesL l).length) && decide ((Tx.runesL l).length ≤ 16)) := by
  have : (Tx.runesL l).all Tx.nameR = true := by
    rw [List.all_eq_true]
    intro x hx
    obtain ⟨j, hj, rfl⟩ := List.getElem_of_mem hx
    exact h j hj
  simp only [Tx.nameL, this, Bool.true_and]
theorem name_long (l : List UInt8) (h : 100 < l.length) : Tx.nameL l = false := by
  have := (Tx.runesL_length l).2
  simp only [Tx.nameL, show decide ((Tx.runesL l).length ≤ 16) = false by simp; omega, Bool.and_false]
theorem nameR_lo {r : Int} (h : Tx.kd r < 1) : Tx.nameR r = false := by simp [Tx.nameR]; omega
theorem nameR_hi {r : Int} (h : 3 < Tx.kd r) : Tx.nameR r = false := by simp [Tx.nameR]; omega
theorem nameR_mid {r : Int} (h : 1 ≤ Tx.kd r) (h2 : Tx.kd r ≤ 3) : Tx.nameR r = true := by simp [Tx.nameR]; omega

set_option maxHeartbeats 1000000 in
set_option maxRecDepth 100000 in
theorem refNameC (s : ByteArray) (w : World) (hs : s.size ≤ 9223372036854775807) :
    Calls Try.prog 11 #[.string s] w (Ret (.bool (Tx.nameL (bl s))) w) := by
  by_cases h100 : 100 < s.size
  · rw [name_long _ (by rw [bl_length]; exact h100)]
    go_enter Try.func11, Try.ntmps11
    go_wp2
    go_ret
    exact ⟨rfl, Below.refl _ _⟩
  · have h100' : s.size ≤ 100 := by omega
    have c := fun W => runesC s W (by omega)
    have hm := (Tx.runesL_length (bl s)).1
    rw [bl_length] at hm
    have hbd := runes_bd (bl s)
    have hno := name_no (bl s)
    have hyes := name_yes (bl s)
    generalize Tx.runesL (bl s) = rs at c hm hbd hno hyes
    generalize Tx.nameL (bl s) = b at hno hyes ⊢
    have C := Lib.hid c; clear c
    have HBD := Lib.hid hbd; clear hbd
    have HNO := Lib.hid hno; clear hno
    have HYES := Lib.hid hyes; clear hyes
    have hm2 : rs.length ≤ 100 := by omega
    clear hm h100
    go_enter Try.func11, Try.ntmps11
    go_wp2_with (go_at_call 15; (with_reducible refine (C.out _).mono ?_); rintro e w1 ⟨⟨v, rfl, ⟨g, cap, cur, rfl, hg, hgc, hcur⟩⟩, hb⟩)
    have HG := Lib.hid hgc; clear hgc
    have HCUR := Lib.hid hcur; clear hcur
    go_wp2
    go_loop [4] (fun i => ∃ k : Nat, k ≤ rs.length ∧ i = .int .i64 (k : Int) ∧ Hid (∀ j (h : j < rs.length), j < k → Tx.nameR rs[j] = true)) (fun i => rs.length - (intOf i).toNat)
    case atStart => exact ⟨0, by omega, rfl, fun j _ h => by omega⟩
    case round =>
      obtain ⟨k, hk, rfl, hall⟩ := hrel
      by_cases hlt : k < rs.length
      · have hcell : w1.cell? ⟨g, k, none⟩ = some (.int .i32 rs[k]) := by rw [cell_of_row w1 g k cur _ _ HG.out]; exact HCUR.out k hlt
        have hr := HBD.out k hlt
        have hkr := Tx.kd_range rs[k]
        have hn1 := HNO.out k hlt
        have ck := fun W => refKindC rs[k] W
        have hlo := @nameR_lo rs[k]
        have hhi := @nameR_hi rs[k]
        have hmid := @nameR_mid rs[k]
        have hall2 : Tx.nameR rs[k] = true → Hid (∀ j (h : j < rs.length), j < k + 1 → Tx.nameR rs[j] = true) := fun h => fun j hj hjk => by
          rcases Nat.lt_or_ge j k with h' | h'
          · exact hall.out j hj h'
          · obtain rfl : j = k := by omega
            exact h
        generalize rs[k] = r at *
        generalize Tx.nameR r = nm at *
        generalize Tx.kd r = q at *
        have CK := Lib.hid ck; clear ck
        have HN1 := Lib.hid hn1; clear hn1
        have HALL2 := Lib.hid hall2; clear hall2
        have HLO := Lib.hid hlo; clear hlo
        have HHI := Lib.hid hhi; clear hhi
        have HMID := Lib.hid hmid; clear hmid
        by_cases hq : q < 1
        · have hb0 : b = false := HN1.out (HLO.out hq)
          subst hb0
          go_wp2_with (go_at_call 8; (with_reducible refine (CK.out _).mono ?_); rintro e w2 ⟨rfl, rfl⟩)
          go_ret
          exact ⟨rfl, hb⟩
        · have hq1 : 1 ≤ q := by omega
          by_cases hq3 : 3 < q
          · have hb0 : b = false := HN1.out (HHI.out hq3)
            subst hb0
            clear hq
            go_wp2_with (go_at_call 8; (with_reducible refine (CK.out _).mono ?_); rintro e w2 ⟨rfl, rfl⟩)
            go_ret
            exact ⟨rfl, hb⟩
          · have hq3' : q ≤ 3 := by omega
            have H2 := HALL2.out (HMID.out hq1 hq3')
            clear hq hq3
            go_wp2_with (go_at_call 8; (with_reducible refine (CK.out _).mono ?_); rintro e w2 ⟨rfl, rfl⟩)
            go_round
            case rel => exact ⟨k + 1, by omega, by go_num, H2⟩
            case measure => simp [intOf]; omega
      · obtain rfl : k = rs.length := by omega
        have hbv := HYES.out (fun j hj => hall.out j hj hj)
        have HBV := Lib.hid hbv; clear hbv
        by_cases h1 : 1 ≤ rs.length
        · go_wp2
          go_ret
          exact ⟨by rw [HBV.out]; (simp [h1]) <;> omega, hb⟩
        · go_wp2
          go_ret
          exact ⟨by rw [HBV.out]; (simp [h1]) <;> omega, hb⟩

theorem runesBytes_one (r : Int) : runesBytes [r] = Utf8.encode r := by
  simp [runesBytes]

set_option maxHeartbeats 1000000 in
set_option maxRecDepth 100000 in
theorem refFoldC (s : ByteArray) (w : World) (hs : s.size ≤ 35184372088831) :
    Calls Try.prog 13 #[.string s] w (Ret (.string (Fo s)) w) := by
  have c := fun W => runesC s W hs
  have hm := (Tx.runesL_length (bl s)).1
  rw [bl_length] at hm
  have hbd := runes_bd (bl s)
  have hF : bl (Fo s) = Tx.unrunes ((Tx.runesL (bl s)).map Tx.foldR) := fo_bl s
  generalize Tx.runesL (bl s) = rs at c hm hbd hF
  have C := Lib.hid c; clear c
  have HBD := Lib.hid hbd; clear hbd
  have HF := Lib.hid hF; clear hF
  have hm2 : rs.length ≤ 35184372088831 := by omega
  clear hm
  have hcv : ∀ (W : World) (x : Int), (convert 28 9 (.slice (some ⟨W.heap.size, 0, none⟩) 1 1)).run Try.prog (W.alloc (.cells #[.int .i32 x] 21)) = .ok (.string (Utf8.encode x)) (W.alloc (.cells #[.int .i32 x] 21)) := fun W x => by
    rw [run_convert_runes (W.alloc (.cells #[.int .i32 x] 21)) 28 9 21 ⟨W.heap.size, 0, none⟩ 1 1 [x] (by simp) Try.underlying28 Try.underlying21 Try.underlying9 (fun j hj => by
      have : j = 0 := by simpa using hj
      subst this
      show (W.alloc _).cell? ⟨W.heap.size, 0, none⟩ = _
      rw [World.cell?_alloc_at _ _ _ _ rfl]; rfl)]
    rw [show [x].take 1 = [x] from rfl, runesBytes_one]
  go_enter Try.func13, Try.ntmps13
  go_wp2_with (go_at_call 15; (with_reducible refine (C.out _).mono ?_); rintro e w1 ⟨⟨v, rfl, ⟨g, cap, cur, rfl, hg, hgc, hcur⟩⟩, hb⟩)
  have hgl : g < w1.heap.size := lt_block hgc
  have HG := Lib.hid hgc; clear hgc
  have HCUR := Lib.hid hcur; clear hcur
  go_wp2
  go_loopw [4, 5] (fun o i wr => ∃ (k : Nat) (acc : ByteArray), k ≤ rs.length ∧ i = .int .i64 (k : Int) ∧ o = .string acc ∧ acc.size ≤ 4 * k ∧ Hid (bl acc = Tx.unrunes ((rs.take k).map Tx.foldR)) ∧ Below w1.heap.size w1 wr) (fun _ i _ => rs.length - (intOf i).toNat)
  case atStart => exact ⟨0, .empty, by omega, rfl, rfl, by simp, rfl, Below.refl _ _⟩
  case round =>
    obtain ⟨k, acc, hk, rfl, rfl, hsz, hacc, hbw⟩ := hrel
    by_cases hlt : k < rs.length
    · have hcell : wr.cell? ⟨g, k, none⟩ = some (.int .i32 rs[k]) := by
        rw [cell_of_row wr g k cur _ _ ((hbw.block g hgl).trans HG.out)]; exact HCUR.out k hlt
      have hr := HBD.out k hlt
      have ck := fun W => refKindC rs[k] W
      have hstep : bl acc ++ Lib.encodeRune (Tx.foldR rs[k]) = Tx.unrunes ((rs.take (k + 1)).map Tx.foldR) := by
        rw [hacc.out, List.take_succ_eq_append_getElem hlt, List.map_append, Tx.unrunes_append]
        simp [Tx.unrunes]
      have hup : Tx.kd rs[k] = 4 → rs[k] ≤ 1071 := fun h => by
        have := (Tx.uppB_iff rs[k]).1 ((Tx.kd_four rs[k]).1 h)
        omega
      have hf1 : Tx.kd rs[k] = 4 → Tx.foldR rs[k] = rs[k] + 32 := fun h => by unfold Tx.foldR; rw [if_pos h]
      have hf2 : ¬ Tx.kd rs[k] = 4 → Tx.foldR rs[k] = rs[k] := fun h => by unfold Tx.foldR; rw [if_neg h]
      generalize rs[k] = r at *
      generalize Tx.kd r = q at *
      have HSTEP := Lib.hid hstep; clear hstep
      have HACC := Lib.hid hacc; clear hacc
      have CK := Lib.hid ck; clear ck
      by_cases h4 : q = 4
      · subst h4
        have hr2 := hup rfl
        have HFF := Lib.hid (hf1 rfl)
        clear hup hf1 hf2
        have hz := encode_size_le (r + 32)
        go_wp2_with (go_at_call 8; (with_reducible refine (CK.out _).mono ?_); rintro e w2 ⟨rfl, rfl⟩)
        go_roundw
        case rel =>
          refine ⟨k + 1, acc ++ Utf8.encode (r + 32), by omega, by go_num, rfl, by rw [ByteArray.size_append]; omega, ?_, hbw.alloc (by have := hbw.size; omega) _⟩
          show bl (acc ++ Utf8.encode (r + 32)) = _
          rw [bl_append, ← HSTEP.out, HFF.out]
          exact congrArg (bl acc ++ ·) (Tx.enc_eq (r + 32))
        case measure => simp [intOf]; omega
      · have HFF := Lib.hid (hf2 h4)
        have h4b : (q == 4) = false := by simpa using h4
        clear hup hf1 hf2 h4
        have hz := encode_size_le r
        go_wp2_with (go_at_call 8; (with_reducible refine (CK.out _).mono ?_); rintro e w2 ⟨rfl, rfl⟩)
        go_roundw
        case rel =>
          refine ⟨k + 1, acc ++ Utf8.encode (r), by omega, by go_num, rfl, by rw [ByteArray.size_append]; omega, ?_, hbw.alloc (by have := hbw.size; omega) _⟩
          show bl (acc ++ Utf8.encode (r)) = _
          rw [bl_append, ← HSTEP.out, HFF.out]
          exact congrArg (bl acc ++ ·) (Tx.enc_eq (r))
        case measure => simp [intOf]; omega
    · obtain rfl : k = rs.length := by omega
      have hF2 : Fo s = acc := bl_inj (by rw [HF.out, hacc.out, List.take_length])
      have HF2 := Lib.hid hF2; clear hF2
      go_wp2
      go_ret
      exact ⟨by rw [HF2.out]; rfl, hb.trans (hbw.mono hb.size)⟩

theorem liveOk (w : World) : Calls Try.prog 9 #[] w (Ret (.bool true) w) := by
  have c0 := fun W => foldC ⟨#[195, 132, 66, 45, 49]⟩ W (by decide)
  have c1 := fun W => nameC ⟨#[195, 164, 98, 45, 49]⟩ W (by decide)
  have c2 := fun W => nameC ⟨#[97, 32, 98]⟩ W (by decide)
  rw [show Fo ⟨#[195, 132, 66, 45, 49]⟩ = ⟨#[195, 164, 98, 45, 49]⟩ from bl_inj (by rw [fo_bl]; decide)] at c0
  rw [show Tx.nameL (bl ⟨#[195, 164, 98, 45, 49]⟩) = true by decide] at c1
  rw [show Tx.nameL (bl ⟨#[97, 32, 98]⟩) = false by decide] at c2
  have C0 := Lib.hid c0; clear c0
  have C1 := Lib.hid c1; clear c1
  have C2 := Lib.hid c2; clear c2
  have hb : Below w.heap.size w w := Below.refl _ _
  go_enter Try.func9, Try.ntmps9
  go_wp2_with (first | (go_at_call 12; (with_reducible refine (C0.out _).mono ?_); rintro e w1 ⟨rfl, hbx⟩; (first | replace hb := hb.trans (hbx.mono hb.size) | replace hb := hb.drew.trans (hbx.mono hb.size)); clear hbx) | (go_at_call 10; (with_reducible refine (C1.out _).mono ?_); rintro e w1 ⟨rfl, hbx⟩; (first | replace hb := hb.trans (hbx.mono hb.size) | replace hb := hb.drew.trans (hbx.mono hb.size)); clear hbx) | (go_at_call 10; (with_reducible refine (C2.out _).mono ?_); rintro e w1 ⟨rfl, hbx⟩; (first | replace hb := hb.trans (hbx.mono hb.size) | replace hb := hb.drew.trans (hbx.mono hb.size)); clear hbx))
  go_ret
  exact ⟨rfl, hb⟩
end Go.Proofs.Ytbflcandbhfbdaa
