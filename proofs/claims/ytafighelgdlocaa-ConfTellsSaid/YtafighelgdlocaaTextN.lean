/-
  Names of layer 3: text.Name, the document's Runes and Name (without the other functions of that layer).
-/
import Derived.Test.YtafighelgdlocaaTextA
import Derived.Lib.OthersKept
import Derived.BigCall
import Derived.Laws.Cover4
import Derived.Laws.AppendOwn
namespace Go.Proofs.Ytafighelgdlocaa
open Go.RowKit
set_option linter.unusedVariables false

/-- one step of a range over a string -/
theorem next_step (s : ByteArray) (pos : Nat) (h : pos < s.size) : ∃ r p : Nat, Utf8.decode s pos = (r, p - pos) ∧ pos < p ∧ p ≤ s.size ∧ r ≤ 2147483647 ∧ validRune (r : Int) = true ∧
    Tx.runesL ((bl s).drop pos) = (r : Int) :: Tx.runesL ((bl s).drop p) ∧ p = pos + (Tx.dec ((bl s).drop pos)).2 := by
  have e := Tx.decode_eq s pos
  have hne : (bl s).drop pos ≠ [] := by
    intro e
    have := congrArg List.length e
    rw [List.length_drop, bl_length, List.length_nil] at this
    omega
  have h1 := Tx.dec_pos ((bl s).drop pos)
  have h2 := Tx.dec_le _ hne
  rw [List.length_drop, bl_length] at h2
  have h3 := decode_le s pos
  rw [e] at h3
  have h4 := Tx.dec_valid ((bl s).drop pos)
  have h5 := Tx.runesL_step _ hne
  rw [List.drop_drop] at h5
  refine ⟨(Tx.dec ((bl s).drop pos)).1, pos + (Tx.dec ((bl s).drop pos)).2, ?_, by omega, by omega, h3, h4, h5, rfl⟩
  rw [show pos + (Tx.dec ((bl s).drop pos)).2 - pos = (Tx.dec ((bl s).drop pos)).2 by omega]
  exact e
theorem drop_end (s : ByteArray) (pos : Nat) (h : ¬ pos < s.size) : Tx.runesL ((bl s).drop pos) = [] := by
  rw [List.drop_eq_nil_of_le (by rw [bl_length]; omega)]
  rfl

/-- the world with an iterator behind it -/
theorem iter_below (w : World) (s : ByteArray) (pos : Nat) : Below w.heap.size w (w.iter s pos) := (Below.refl _ _).alloc (Nat.le_refl _) _

/-- whether the rest makes a name, behind k runes that a name may contain -/
def nameRest (k : Nat) (l : List Int) : Bool := l.all Tx.nameR && decide (1 ≤ k + l.length) && decide (k + l.length ≤ 16)
theorem nameRest_all (l : List UInt8) : nameRest 0 (Tx.runesL l) = Tx.nameL l := by simp [nameRest, Tx.nameL]
theorem nameRest_many (k : Nat) (r : Int) (l : List Int) (h : 16 ≤ k) : nameRest k (r :: l) = false := by
  simp only [nameRest, List.length_cons]
  rw [show decide (k + (l.length + 1) ≤ 16) = false by simp; omega, Bool.and_false]
theorem nameRest_bad (k : Nat) (r : Int) (l : List Int) (h : Tx.nameR r = false) : nameRest k (r :: l) = false := by
  simp [nameRest, h]
theorem nameRest_good (k : Nat) (r : Int) (l : List Int) (h : Tx.nameR r = true) : nameRest k (r :: l) = nameRest (k + 1) l := by
  simp only [nameRest, List.all_cons, h, Bool.true_and, List.length_cons]
  have e : k + (l.length + 1) = k + 1 + l.length := by omega
  simp only [e]
theorem nameRest_end (k : Nat) (h : k ≤ 16) : nameRest k [] = decide (0 < k) := by
  simp only [nameRest, List.all_nil, Bool.true_and, List.length_nil, Nat.add_zero]
  rw [decide_eq_true h, Bool.and_true]
  congr 1

set_option maxRecDepth 100000 in
theorem nameC (s : ByteArray) (w : World) (hs : s.size ≤ 9223372036854775807) :
    Calls Try.prog 28 #[.string s] w (Ret (.bool (Tx.nameL (bl s))) w) := by
  rw [← nameRest_all]
  obtain ⟨b, hB⟩ : ∃ b, b = nameRest 0 (Tx.runesL (bl s)) := ⟨_, rfl⟩
  rw [← hB]
  have HB := Lib.hid hB; clear hB
  go_enter Try.func28, Try.ntmps28
  go_wp2
  go_loopw [3] (fun n wr => ∃ pos k : Nat, pos ≤ s.size ∧ n = .int .i64 (k : Int) ∧ k ≤ 16 ∧ wr = w.iter s pos ∧ Hid (b = nameRest k (Tx.runesL ((bl s).drop pos)))) (fun _ wr => s.size - wr.iterPos w.heap.size)
  case atStart => exact ⟨0, 0, by omega, rfl, by omega, rfl, by simpa using HB⟩
  case round =>
    obtain ⟨pos, k, hpos, rfl, hk, rfl, hb⟩ := hrel
    by_cases hp : pos < s.size
    · obtain ⟨r, p, hd, hp1, hp2, hr, hv, hrun, hq⟩ := next_step s pos hp
      have hnx : ∀ ty, (Instr.next (.pointer (some ⟨w.heap.size, 0, none⟩)) true ty).run Try.prog (w.iter s pos) = .ok (.tuple #[.bool true, .int .i64 pos, .int .i32 r]) (w.iter s p) := fun ty => by
        rw [run_next_any w s pos ty hp, hd, show pos + (p - pos) = p by omega]
      have hb1 : b = nameRest k ((r : Int) :: Tx.runesL ((bl s).drop p)) := by rw [hb.out, hrun]
      clear hd hrun hq hb hv HB
      by_cases h16 : k = 16
      · subst h16
        rw [nameRest_many _ _ _ (Nat.le_refl _)] at hb1
        subst hb1
        go_wp2
        go_ret
        exact ⟨rfl, iter_below _ _ _⟩
      · have hk2 : k + 1 ≤ 16 := by omega
        have c := fun W => inNameC (r : Int) W (by omega) (by omega)
        cases hn : Tx.nameR (r : Int) with
        | true =>
          rw [hn] at c
          rw [nameRest_good _ _ _ hn] at hb1
          have HB1 := Lib.hid hb1
          have C := Lib.hid c
          clear hn c h16 hb1
          go_wp2_with (go_at_call 30; (with_reducible refine (C.out _).mono ?_); rintro e w1 ⟨rfl, rfl⟩)
          go_roundw
          case rel => exact ⟨p, k + 1, hp2, by go_num, by omega, rfl, HB1⟩
          case measure => simp; omega
        | false =>
          rw [hn] at c
          rw [nameRest_bad _ _ _ hn] at hb1
          subst hb1
          have C := Lib.hid c
          clear hn c h16
          go_wp2_with (go_at_call 30; (with_reducible refine (C.out _).mono ?_); rintro e w1 ⟨rfl, rfl⟩)
          go_ret
          exact ⟨rfl, iter_below _ _ _⟩
    · have hb1 := hb.out
      have hnx : ∀ ty, (Instr.next (.pointer (some ⟨w.heap.size, 0, none⟩)) true ty).run Try.prog (w.iter s pos) = .ok (.tuple #[.bool false]) (w.iter s pos) := fun ty => run_next_end w s pos ty hp
      rw [drop_end s pos hp, nameRest_end k hk] at hb1
      clear hb HB
      go_wp2
      go_ret
      exact ⟨ret_b (by rw [hb1]), iter_below _ _ _⟩

theorem extract_bl (s : ByteArray) (a b : Nat) : bl (s.extract a b) = ((bl s).take b).drop a := by
  simp [bl, ByteArray.data_extract, Array.toList_extract, List.drop_take]
theorem bl_inj {a b : ByteArray} (h : bl a = bl b) : a = b := by
  have := congrArg (fun l : List UInt8 => (⟨l.toArray⟩ : ByteArray)) h
  simpa [mk_bl] using this
theorem infoRune : (Try.prog.info? 21).map (fun i => (i.zero, i.size, i.bytes)) = some (some (.int .i32 0), 1, 4) := by kernel_rfl
structure RunesAt (rs : List Int) (B : Nat) (v : Value) (w : World) : Prop where
  is : ∃ g cap cur, v = .slice (some ⟨g, 0, none⟩) rs.length cap ∧ B ≤ g ∧ w.heap[g]? = some (.cells cur 21 (0, 0)) ∧ ∀ j (h : j < rs.length), cur[j]? = some (.int .i32 rs[j])
structure RunesRet (rs : List Int) (w : World) (e : Ending) (w' : World) : Prop where
  is : ∃ v, e = .returned v ∧ RunesAt rs w.heap.size v w'
  b : Below w.heap.size w w'

theorem runesAt_of {w : World} {B : Nat} {v : Value} {rs : List Int} (h : w.ownsRow B 21 1 v rs.length (rs.map (Value.int .i32))) (hv : v ≠ .slice none 0 0) : RunesAt rs B v w := by
  obtain ⟨hl, h | ⟨g, cap, cur, rfl, hg, hc, hn, hm, hs, hx⟩⟩ := h
  · exact absurd h.1 hv
  · refine ⟨g, cap, cur, rfl, hg, hc, fun j hj => ?_⟩
    have h1 : (cur.toList.take (rs.length * 1))[j]? = some (.int .i32 rs[j]) := by rw [hx]; simp [hj]
    rw [List.getElem?_take_of_lt (by omega)] at h1
    simpa using h1

theorem ownNe {w : World} {B : Nat} {e : TypeId} {v : Value} {n : Nat} {xs : List Value} {k : Nat} {s : ByteArray} {pos : Nat} (h : w.ownsRow B e 1 v n xs) (hk : w.heap[k]? = some (.stringIter s pos)) : some k ≠ v.ownBlock := by
  obtain ⟨hl, ⟨rfl, _⟩ | ⟨g, cap, cur, rfl, hg, hc, _⟩⟩ := h
  · simp [Value.ownBlock]
  · intro e
    simp [Value.ownBlock] at e
    subst e
    rw [hk] at hc
    cases hc

theorem ownIter {w : World} {B : Nat} {e : TypeId} {v : Value} {n : Nat} {xs : List Value} {k : Nat} {s : ByteArray} {pos pos' : Nat} (h : w.ownsRow B e 1 v n xs) (hk : w.heap[k]? = some (.stringIter s pos)) : (w.iterAt k s pos').ownsRow B e 1 v n xs := by
  have hne := ownNe h hk
  obtain ⟨hl, h | ⟨g, cap, cur, rfl, hg, hc, hr⟩⟩ := h
  · exact ⟨hl, Or.inl h⟩
  · refine ⟨hl, Or.inr ⟨g, cap, cur, rfl, hg, ?_, hr⟩⟩
    rw [Lib.iterAt_other _ _ _ _ _ (by intro e; subst e; simp [Value.ownBlock] at hne)]
    exact hc

set_option maxHeartbeats 4000000 in
set_option maxRecDepth 1000000 in
theorem runesC (s : ByteArray) (w : World) (hs : s.size ≤ 35184372088831) :
    Calls Try.prog 31 #[.string s] w (RunesRet (Tx.runesL (bl s)) w) := by
  obtain ⟨i0, hi, hz0, hz1, hz2⟩ := info_parts infoRune
  go_enter Try.func31, Try.ntmps31
  go_wp2
  go_loopw [3] (fun v wr => ∃ (pos : Nat) (dn : List Int), pos ≤ s.size ∧ dn.length ≤ pos ∧ wr.ownsRow w.heap.size 21 1 v dn.length (dn.map (Value.int .i32)) ∧ v ≠ .slice none 0 0 ∧ wr.heap[w.heap.size + 1]? = some (.stringIter s pos) ∧ Below w.heap.size w wr ∧ Hid (dn ++ Tx.runesL ((bl s).drop pos) = Tx.runesL (bl s))) (fun _ wr => s.size - wr.iterPos (w.heap.size + 1))
  case atStart =>
    refine ⟨0, [], by omega, by simp, ⟨rfl, Or.inr ⟨w.heap.size, 0, #[], rfl, Nat.le_refl _, ?_, by simp, by simp, rfl, rfl⟩⟩, (fun h => by cases h), ?_, ((Below.refl _ w).alloc (Nat.le_refl _) _).alloc (by simp) _, rfl⟩
    · show ((w.alloc _).alloc _).heap[w.heap.size]? = _
      rw [Lib.alloc_old _ _ _ (by simp), heap_alloc_new]
    · have := World.iter_heap (w.alloc (.cells #[] 21)) s 0
      simpa using this
  case round =>
    obtain ⟨pos, dn, hpos, hdn, hown, hv, hit, hbw, hacc⟩ := hrel
    have hsz : w.heap.size + 1 < wr.heap.size := (Array.getElem?_eq_some_iff.1 hit).1
    by_cases hp : pos < s.size
    · obtain ⟨r, p, hd, hp1, hp2, hr, hvr, hrun, hq⟩ := next_step s pos hp
      have hnx : ∀ ty, (Instr.next (.pointer (some ⟨w.heap.size + 1, 0, none⟩)) true ty).run Try.prog wr = .ok (.tuple #[.bool true, .int .i64 pos, .int .i32 r]) (wr.iterAt (w.heap.size + 1) s p) := fun ty => by
        rw [Lib.run_next_any_at wr (w.heap.size + 1) s pos ty hit hp, hd, show pos + (p - pos) = p by omega]
      have hown2 := ownIter (pos' := p) hown hit
      have hit2 := Lib.iterAt_heap wr (w.heap.size + 1) s pos p hit
      have hbw2 := Lib.below_iterAt hbw (k := w.heap.size + 1) (by omega) s p
      have hsz2 : w.heap.size + 1 < (wr.iterAt (w.heap.size + 1) s p).heap.size := by rw [Lib.iterAt_size]; omega
      have hne := ownNe hown2 hit2
      have hacc2 := hacc.out
      rw [hrun] at hacc2
      clear hd hrun hq hacc hvr
      have HACC := Lib.hid hacc2; clear hacc2
      have HIT := Lib.hid hit; clear hit
      have HIT2 := Lib.hid hit2; clear hit2
      have HV := Lib.hid hv; clear hv
      have HNE := Lib.hid hne; clear hne
      obtain ⟨W, hW⟩ : ∃ W, W = wr.iterAt (w.heap.size + 1) s p := ⟨_, rfl⟩
      rw [← hW] at hnx hown2 HIT2 hbw2 hsz2
      have HW := Lib.hid hW; clear hW
      go_wp2_with (at_builtin; refine wpList_append_own _ rfl _ _ 54 rfl w.heap.size 21 i0 (.int .i32 0) 1 4 Try.underlying54 hi hz0 hz1 hz2 rfl (by decide) _ _ _ rfl (hown2.alloc _) ⟨W.heap.size, 0, none⟩ 1 1 [.int .i32 (r : Int)] rfl rfl ?c1 ?c2 ?c3 ?c4 ?c5 ?_)
      case c1 =>
        intro j u hu
        have hj : j = 0 := by
          rcases Nat.lt_or_ge j 1 with h | h
          · omega
          · rw [List.getElem?_eq_none (by simpa using h)] at hu; cases hu
        subst hj
        simp at hu
        subst hu
        show (W.alloc _).cell? ⟨W.heap.size, 0, none⟩ = _
        rw [World.cell?_alloc_at _ _ _ _ rfl]; rfl
      case c2 => intro u hu; simp at hu; subst hu; rfl
      case c3 => unfold maxLen; omega
      case c4 => omega
      case c5 => simp; omega
      intro v' w1 hown' hgrow hnil
      have hit3 : w1.heap[w.heap.size + 1]? = some (.stringIter s p) := by
        rw [hgrow.block _ (by simp; omega) HNE.out, Lib.alloc_old _ _ _ (by omega)]; exact HIT2.out
      have hb3 : Below w.heap.size w w1 := (hbw2.alloc (by omega) _).grown hgrow (by simp; omega) (fun k hk => (hown2.lt k hk).1)
      have hv' : v' ≠ .slice none 0 0 := by first | exact hnil | exact fun h => HV.out (hnil.1 h).1
      clear hgrow hnil
      have HIT3 := Lib.hid hit3; clear hit3
      have HV' := Lib.hid hv'; clear hv'
      go_wp2
      go_roundw
      case rel =>
        refine ⟨p, dn ++ [(r : Int)], hp2, by simp; omega, by simpa using hown', HV'.out, HIT3.out, hb3, ?_⟩
        rw [List.append_assoc]; exact HACC
      case measure =>
        simp only [World.iterPos, HIT3.out, HIT.out]
        omega
    · have hnx : ∀ ty, (Instr.next (.pointer (some ⟨w.heap.size + 1, 0, none⟩)) true ty).run Try.prog wr = _ := fun ty => Lib.run_next_end_at wr (w.heap.size + 1) s pos ty hit hp
      have ha := hacc.out
      rw [drop_end s pos hp, List.append_nil] at ha
      have HA := Lib.hid ha
      have HV := Lib.hid hv
      have HIT := Lib.hid hit
      clear ha hacc hv
      go_wp2
      go_ret
      exact ⟨⟨_, rfl, by rw [← HA.out]; exact runesAt_of hown HV.out⟩, hbw⟩
theorem runes_bd (l : List UInt8) (j : Nat) (h : j < (Tx.runesL l).length) : 0 ≤ (Tx.runesL l)[j] ∧ (Tx.runesL l)[j] ≤ 1114111 := by
  have := Tx.validRune_spec (Tx.runesL_valid l _ (List.getElem_mem h))
  omega

theorem name_no (l : List UInt8) (j : Nat) (h : j < (Tx.runesL l).length) (hn : Tx.nameR (Tx.runesL l)[j] = false) : Tx.nameL l = false := by
  have : (Tx.runesL l).all Tx.nameR = false := by
    rw [List.all_eq_false]
    exact ⟨_, List.getElem_mem h, by simp [hn]⟩
  simp [Tx.nameL, this]
theorem name_yes (l : List UInt8) (h : ∀ j (h : j < (Tx.runesL l).length), Tx.nameR (Tx.runesL l)[j] = true) : Tx.nameL l = (decide (1 ≤ (Tx.runesL l).length) && decide ((Tx.runesL l).length ≤ 16)) := by
  have : (Tx.runesL l).all Tx.nameR = true := by
    rw [List.all_eq_true]
    intro x hx
    obtain ⟨j, hj, rfl⟩ := List.getElem_of_mem hx
    exact h j hj
  simp only [Tx.nameL, this, Bool.true_and]
theorem name_long (l : List UInt8) (h : 100 < l.length) : Tx.nameL l = false := by
  have := (Tx.runesL_length l).2
  simp only [Tx.nameL, show decide ((Tx.runesL l).length ≤ 16) = false by simp; omega, Bool.and_false]
theorem nameR_lo {r : Int} (h : Tx.kd r < 1) : Tx.nameR r = false := by simp [Tx.nameR]; omega
theorem nameR_hi {r : Int} (h : 3 < Tx.kd r) : Tx.nameR r = false := by simp [Tx.nameR]; omega
theorem nameR_mid {r : Int} (h : 1 ≤ Tx.kd r) (h2 : Tx.kd r ≤ 3) : Tx.nameR r = true := by simp [Tx.nameR]; omega

set_option maxHeartbeats 1000000 in
set_option maxRecDepth 100000 in
theorem refNameC (s : ByteArray) (w : World) (hs : s.size ≤ 9223372036854775807) :
    Calls Try.prog 29 #[.string s] w (Ret (.bool (Tx.nameL (bl s))) w) := by
  by_cases h100 : 100 < s.size
  · rw [name_long _ (by rw [bl_length]; exact h100)]
    go_enter Try.func29, Try.ntmps29
    go_wp2
    go_ret
    exact ⟨rfl, Below.refl _ _⟩
  · have h100' : s.size ≤ 100 := by omega
    have c := fun W => runesC s W (by omega)
    have hm := (Tx.runesL_length (bl s)).1
    rw [bl_length] at hm
    have hbd := runes_bd (bl s)
    have hno := name_no (bl s)
    have hyes := name_yes (bl s)
    generalize Tx.runesL (bl s) = rs at c hm hbd hno hyes
    generalize Tx.nameL (bl s) = b at hno hyes ⊢
    have C := Lib.hid c; clear c
    have HBD := Lib.hid hbd; clear hbd
    have HNO := Lib.hid hno; clear hno
    have HYES := Lib.hid hyes; clear hyes
    have hm2 : rs.length ≤ 100 := by omega
    clear hm h100
    go_enter Try.func29, Try.ntmps29
    go_wp2_with (go_at_call 31; (with_reducible refine (C.out _).mono ?_); rintro e w1 ⟨⟨v, rfl, ⟨g, cap, cur, rfl, hg, hgc, hcur⟩⟩, hb⟩)
    have HG := Lib.hid hgc; clear hgc
    have HCUR := Lib.hid hcur; clear hcur
    go_wp2
    go_loop [4] (fun i => ∃ k : Nat, k ≤ rs.length ∧ i = .int .i64 (k : Int) ∧ Hid (∀ j (h : j < rs.length), j < k → Tx.nameR rs[j] = true)) (fun i => rs.length - (intOf i).toNat)
    case atStart => exact ⟨0, by omega, rfl, fun j _ h => by omega⟩
    case round =>
      obtain ⟨k, hk, rfl, hall⟩ := hrel
      by_cases hlt : k < rs.length
      · have hcell : w1.cell? ⟨g, k, none⟩ = some (.int .i32 rs[k]) := by rw [cell_of_row w1 g k cur _ _ HG.out]; exact HCUR.out k hlt
        have hr := HBD.out k hlt
        have hkr := Tx.kd_range rs[k]
        have hn1 := HNO.out k hlt
        have ck := fun W => refKindC rs[k] W
        have hlo := @nameR_lo rs[k]
        have hhi := @nameR_hi rs[k]
        have hmid := @nameR_mid rs[k]
        have hall2 : Tx.nameR rs[k] = true → Hid (∀ j (h : j < rs.length), j < k + 1 → Tx.nameR rs[j] = true) := fun h => fun j hj hjk => by
          rcases Nat.lt_or_ge j k with h' | h'
          · exact hall.out j hj h'
          · obtain rfl : j = k := by omega
            exact h
        generalize rs[k] = r at *
        generalize Tx.nameR r = nm at *
        generalize Tx.kd r = q at *
        have CK := Lib.hid ck; clear ck
        have HN1 := Lib.hid hn1; clear hn1
        have HALL2 := Lib.hid hall2; clear hall2
        have HLO := Lib.hid hlo; clear hlo
        have HHI := Lib.hid hhi; clear hhi
        have HMID := Lib.hid hmid; clear hmid
        by_cases hq : q < 1
        · have hb0 : b = false := HN1.out (HLO.out hq)
          subst hb0
          go_wp2_with (go_at_call 32; (with_reducible refine (CK.out _).mono ?_); rintro e w2 ⟨rfl, rfl⟩)
          go_ret
          exact ⟨rfl, hb⟩
        · have hq1 : 1 ≤ q := by omega
          by_cases hq3 : 3 < q
          · have hb0 : b = false := HN1.out (HHI.out hq3)
            subst hb0
            clear hq
            go_wp2_with (go_at_call 32; (with_reducible refine (CK.out _).mono ?_); rintro e w2 ⟨rfl, rfl⟩)
            go_ret
            exact ⟨rfl, hb⟩
          · have hq3' : q ≤ 3 := by omega
            have H2 := HALL2.out (HMID.out hq1 hq3')
            clear hq hq3
            go_wp2_with (go_at_call 32; (with_reducible refine (CK.out _).mono ?_); rintro e w2 ⟨rfl, rfl⟩)
            go_round
            case rel => exact ⟨k + 1, by omega, by go_num, H2⟩
            case measure => simp [intOf]; omega
      · obtain rfl : k = rs.length := by omega
        have hbv := HYES.out (fun j hj => hall.out j hj hj)
        have HBV := Lib.hid hbv; clear hbv
        by_cases h1 : 1 ≤ rs.length
        · go_wp2
          go_ret
          exact ⟨by rw [HBV.out]; (simp [h1]) <;> omega, hb⟩
        · go_wp2
          go_ret
          exact ⟨by rw [HBV.out]; (simp [h1]) <;> omega, hb⟩

end Go.Proofs.Ytafighelgdlocaa
