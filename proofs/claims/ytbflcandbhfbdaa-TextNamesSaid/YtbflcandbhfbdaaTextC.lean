/-
  text.Fold; the document's Runes, Name, Fold.
-/
import Derived.Test.YtbflcandbhfbdaaTextB
namespace Go.Proofs.Ytbflcandbhfbdaa
open Go.RowKit
set_option linter.unusedVariables false

/-- a string folded -/
def Fo (s : ByteArray) : ByteArray := ⟨(Tx.foldL (bl s)).toArray⟩
theorem fo_bl (s : ByteArray) : bl (Fo s) = Tx.foldL (bl s) := bl_mk _
theorem fo_size (s : ByteArray) : (Fo s).size ≤ 4 * s.size := by
  have := Tx.foldL_length (bl s)
  rw [bl_length] at this
  unfold Fo
  rw [size_mk]; exact this
attribute [irreducible] Fo

theorem foldAcc (acc : List UInt8) (r : Int) (l : List Int) : acc ++ Tx.unrunes ((r :: l).map Tx.foldR) = (acc ++ Lib.encodeRune (Tx.foldR r)) ++ Tx.unrunes (l.map Tx.foldR) := by
  rw [List.map_cons, Tx.unrunes_cons, List.append_assoc]

set_option maxHeartbeats 4000000 in
set_option maxRecDepth 1000000 in
theorem foldC (s : ByteArray) (w : World) (hs : s.size ≤ 35184372088831) :
    Calls Try.prog 12 #[.string s] w (Ret (.string (Fo s)) w) := by
  go_enter Try.func12, Try.ntmps12
  go_wp2
  go_loopw [] (fun wr => ∃ (pos : Nat) (acc : List UInt8), pos ≤ s.size ∧ Lib.IsBuilderF 36 5 w.heap.size w.heap.size (Lib.byteCells acc) wr ∧ wr.heap[w.heap.size + 1]? = some (.stringIter s pos) ∧ Below w.heap.size w wr ∧ Hid (acc ++ Tx.unrunes ((Tx.runesL ((bl s).drop pos)).map Tx.foldR) = Tx.foldL (bl s)) ∧ acc.length ≤ 4 * pos) (fun wr => s.size - wr.iterPos (w.heap.size + 1))
  case atStart =>
    refine ⟨0, [], by omega, (Lib.IsBuilderF.of (Lib.fresh_isBuilder 36 5 w)).alloc _, ?_, ((Below.refl _ w).alloc (Nat.le_refl _) _).alloc (by simp) _, rfl, by simp⟩
    have := World.iter_heap (w.alloc (.cells #[.pointer none, .slice none 0 0] 36)) s 0
    simpa using this
  case round =>
    obtain ⟨pos, acc, hpos, hI, hit, hbw, hacc, hal⟩ := hrel
    have hsz : w.heap.size + 1 < wr.heap.size := (Array.getElem?_eq_some_iff.1 hit).1
    by_cases hp : pos < s.size
    · obtain ⟨r, p, hd, hp1, hp2, hr, hv, hrun, hq⟩ := next_step s pos hp
      have hnx : ∀ ty, (Instr.next (.pointer (some ⟨w.heap.size + 1, 0, none⟩)) true ty).run Try.prog wr = .ok (.tuple #[.bool true, .int .i64 pos, .int .i32 r]) (wr.iterAt (w.heap.size + 1) s p) := fun ty => by
        rw [Lib.run_next_any_at wr (w.heap.size + 1) s pos ty hit hp, hd, show pos + (p - pos) = p by omega]
      have hI2 := hI.iterAt hit p
      have hit2 := Lib.iterAt_heap wr (w.heap.size + 1) s pos p hit
      have hbw2 := Lib.below_iterAt hbw (k := w.heap.size + 1) (by omega) s p
      have hsz2 : w.heap.size ≤ (wr.iterAt (w.heap.size + 1) s p).heap.size := by rw [Lib.iterAt_size]; omega
      have hacc2 := hacc.out
      rw [hrun, foldAcc] at hacc2
      clear hd hrun hq hacc
      have HACC := Lib.hid hacc2; clear hacc2
      have c := fun W => kindC (r : Int) W (by omega) (by omega)
      by_cases h4 : Tx.kd (r : Int) = 4
      · have hup := (Tx.uppB_iff (r : Int)).1 ((Tx.kd_four (r : Int)).1 h4)
        have hr2 : (r : Int) + 32 ≤ 2000 := by omega
        have hf : Tx.foldR (r : Int) = (r : Int) + 32 := by unfold Tx.foldR; rw [if_pos h4]
        rw [h4] at c
        rw [hf] at HACC
        clear hup h4 hf hv
        have C := Lib.hid c; clear c
        have HIT := Lib.hid hit; clear hit
        have HIT2 := Lib.hid hit2; clear hit2
        go_wp2_with (first | (go_at_call 7; (with_reducible refine (C.out _).mono ?_); rintro e w1 ⟨rfl, rfl⟩) | (go_at_call 23; refine (Try.Builder_WriteRune_k w.heap.size w.heap.size _ _ (by omega) (by omega) _ hI2 (by rw [Lib.byteCells_length]; omega) hsz2).mono ?_))
        rintro e W1 ⟨rfl, h1, b1, k1⟩
        go_wp2
        go_roundw
        case rel =>
          have hl4 := Lib.runeCells_le ((r : Int) + 32)
          rw [Lib.runeCells_length] at hl4
          refine ⟨p, acc ++ Lib.encodeRune ((r : Int) + 32), hp2, ?_, k1.iter HIT2.out (by omega), hbw2.trans b1, HACC, by simp; omega⟩
          rw [Lib.byteCells_append, Lib.byteCells_encodeRune]; exact Or.inr h1
        case measure =>
          simp only [World.iterPos, k1.iter HIT2.out (by omega), HIT.out]
          omega
      · have hf : Tx.foldR (r : Int) = (r : Int) := by unfold Tx.foldR; rw [if_neg h4]
        have h4b : (Tx.kd (r : Int) == 4) = false := by simpa using h4
        rw [hf] at HACC
        clear h4 hf hv
        have C := Lib.hid c; clear c
        have HIT := Lib.hid hit; clear hit
        have HIT2 := Lib.hid hit2; clear hit2
        go_wp2_with (first | (go_at_call 7; (with_reducible refine (C.out _).mono ?_); rintro e w1 ⟨rfl, rfl⟩) | (go_at_call 23; refine (Try.Builder_WriteRune_k w.heap.size w.heap.size _ _ (by omega) (by omega) _ hI2 (by rw [Lib.byteCells_length]; omega) hsz2).mono ?_))
        rintro e W1 ⟨rfl, h1, b1, k1⟩
        go_wp2
        go_roundw
        case rel =>
          have hl4 := Lib.runeCells_le (r : Int)
          rw [Lib.runeCells_length] at hl4
          refine ⟨p, acc ++ Lib.encodeRune (r : Int), hp2, ?_, k1.iter HIT2.out (by omega), hbw2.trans b1, HACC, by simp; omega⟩
          rw [Lib.byteCells_append, Lib.byteCells_encodeRune]; exact Or.inr h1
        case measure =>
          simp only [World.iterPos, k1.iter HIT2.out (by omega), HIT.out]
          omega
    · have hnx : ∀ ty, (Instr.next (.pointer (some ⟨w.heap.size + 1, 0, none⟩)) true ty).run Try.prog wr = _ := fun ty => Lib.run_next_end_at wr (w.heap.size + 1) s pos ty hit hp
      have ha := hacc.out
      rw [drop_end s pos hp] at ha
      simp only [List.map_nil, Tx.unrunes, List.flatMap_nil, List.append_nil] at ha
      have hF : Fo s = ⟨acc.toArray⟩ := bl_inj ((fo_bl s).trans (ha.symm.trans (bl_mk acc).symm))
      have HF := Lib.hid hF
      clear ha hacc hF
      go_wp2_with (go_at_call 24; refine (Try.Builder_String_any_k w.heap.size w.heap.size acc _ hI (by omega)).mono ?_)
      rintro e W1 ⟨rfl, _, b1, _⟩
      go_wp2
      go_ret
      exact ⟨by rw [HF.out]; rfl, hbw.trans b1⟩

/-! ### the document's runes -/
theorem infoRune : (Try.prog.info? 21).map (fun i => (i.zero, i.size, i.bytes)) = some (some (.int .i32 0), 1, 4) := by kernel_rfl
structure RunesAt (rs : List Int) (B : Nat) (v : Value) (w : World) : Prop where
  is : ∃ g cap cur, v = .slice (some ⟨g, 0, none⟩) rs.length cap ∧ B ≤ g ∧ w.heap[g]? = some (.cells cur 21 (0, 0)) ∧ ∀ j (h : j < rs.length), cur[j]? = some (.int .i32 rs[j])
structure RunesRet (rs : List Int) (w : World) (e : Ending) (w' : World) : Prop where
  is : ∃ v, e = .returned v ∧ RunesAt rs w.heap.size v w'
  b : Below w.heap.size w w'

theorem runesAt_of {w : World} {B : Nat} {v : Value} {rs : List Int} (h : w.ownsRow B 21 1 v rs.length (rs.map (Value.int .i32))) (hv : v ≠ .slice none 0 0) : RunesAt rs B v w := by
  obtain ⟨hl, h | ⟨g, cap, cur, rfl, hg, hc, hn, hm, hs, hx⟩⟩ := h
  · exact absurd h.1 hv
  · refine ⟨g, cap, cur, rfl, hg, hc, fun j hj => ?_⟩
    have h1 : (cur.toList.take (rs.length * 1))[j]? = some (.int .i32 rs[j]) := by rw [hx]; simp [hj]
    rw [List.getElem?_take_of_lt (by omega)] at h1
    simpa using h1

theorem ownNe {w : World} {B : Nat} {e : TypeId} {v : Value} {n : Nat} {xs : List Value} {k : Nat} {s : ByteArray} {pos : Nat} (h : w.ownsRow B e 1 v n xs) (hk : w.heap[k]? = some (.stringIter s pos)) : some k ≠ v.ownBlock := by
  obtain ⟨hl, ⟨rfl, _⟩ | ⟨g, cap, cur, rfl, hg, hc, _⟩⟩ := h
  · simp [Value.ownBlock]
  · intro e
    simp [Value.ownBlock] at e
    subst e
    rw [hk] at hc
    cases hc

theorem ownIter {w : World} {B : Nat} {e : TypeId} {v : Value} {n : Nat} {xs : List Value} {k : Nat} {s : ByteArray} {pos pos' : Nat} (h : w.ownsRow B e 1 v n xs) (hk : w.heap[k]? = some (.stringIter s pos)) : (w.iterAt k s pos').ownsRow B e 1 v n xs := by
  have hne := ownNe h hk
  obtain ⟨hl, h | ⟨g, cap, cur, rfl, hg, hc, hr⟩⟩ := h
  · exact ⟨hl, Or.inl h⟩
  · refine ⟨hl, Or.inr ⟨g, cap, cur, rfl, hg, ?_, hr⟩⟩
    rw [Lib.iterAt_other _ _ _ _ _ (by intro e; subst e; simp [Value.ownBlock] at hne)]
    exact hc

set_option maxHeartbeats 4000000 in
set_option maxRecDepth 1000000 in
theorem runesC (s : ByteArray) (w : World) (hs : s.size ≤ 35184372088831) :
    Calls Try.prog 15 #[.string s] w (RunesRet (Tx.runesL (bl s)) w) := by
  obtain ⟨i0, hi, hz0, hz1, hz2⟩ := info_parts infoRune
  go_enter Try.func15, Try.ntmps15
  go_wp2
  go_loopw [3] (fun v wr => ∃ (pos : Nat) (dn : List Int), pos ≤ s.size ∧ dn.length ≤ pos ∧ wr.ownsRow w.heap.size 21 1 v dn.length (dn.map (Value.int .i32)) ∧ v ≠ .slice none 0 0 ∧ wr.heap[w.heap.size + 1]? = some (.stringIter s pos) ∧ Below w.heap.size w wr ∧ Hid (dn ++ Tx.runesL ((bl s).drop pos) = Tx.runesL (bl s))) (fun _ wr => s.size - wr.iterPos (w.heap.size + 1))
  case atStart =>
    refine ⟨0, [], by omega, by simp, ⟨rfl, Or.inr ⟨w.heap.size, 0, #[], rfl, Nat.le_refl _, ?_, by simp, by simp, rfl, rfl⟩⟩, (fun h => by cases h), ?_, ((Below.refl _ w).alloc (Nat.le_refl _) _).alloc (by simp) _, rfl⟩
    · show ((w.alloc _).alloc _).heap[w.heap.size]? = _
      rw [Lib.alloc_old _ _ _ (by simp), heap_alloc_new]
    · have := World.iter_heap (w.alloc (.cells #[] 21)) s 0
      simpa using this
  case round =>
    obtain ⟨pos, dn, hpos, hdn, hown, hv, hit, hbw, hacc⟩ := hrel
    have hsz : w.heap.size + 1 < wr.heap.size := (Array.getElem?_eq_some_iff.1 hit).1
    by_cases hp : pos < s.size
    · obtain ⟨r, p, hd, hp1, hp2, hr, hvr, hrun, hq⟩ := next_step s pos hp
      have hnx : ∀ ty, (Instr.next (.pointer (some ⟨w.heap.size + 1, 0, none⟩)) true ty).run Try.prog wr = .ok (.tuple #[.bool true, .int .i64 pos, .int .i32 r]) (wr.iterAt (w.heap.size + 1) s p) := fun ty => by
        rw [Lib.run_next_any_at wr (w.heap.size + 1) s pos ty hit hp, hd, show pos + (p - pos) = p by omega]
      have hown2 := ownIter (pos' := p) hown hit
      have hit2 := Lib.iterAt_heap wr (w.heap.size + 1) s pos p hit
      have hbw2 := Lib.below_iterAt hbw (k := w.heap.size + 1) (by omega) s p
      have hsz2 : w.heap.size + 1 < (wr.iterAt (w.heap.size + 1) s p).heap.size := by rw [Lib.iterAt_size]; omega
      have hne := ownNe hown2 hit2
      have hacc2 := hacc.out
      rw [hrun] at hacc2
      clear hd hrun hq hacc hvr
      have HACC := Lib.hid hacc2; clear hacc2
      have HIT := Lib.hid hit; clear hit
      have HIT2 := Lib.hid hit2; clear hit2
      have HV := Lib.hid hv; clear hv
      have HNE := Lib.hid hne; clear hne
      obtain ⟨W, hW⟩ : ∃ W, W = wr.iterAt (w.heap.size + 1) s p := ⟨_, rfl⟩
      rw [← hW] at hnx hown2 HIT2 hbw2 hsz2
      have HW := Lib.hid hW; clear hW
      go_wp2_with (at_builtin; refine wpList_append_own _ rfl _ _ 28 rfl w.heap.size 21 i0 (.int .i32 0) 1 4 Try.underlying28 hi hz0 hz1 hz2 rfl (by decide) _ _ _ rfl (hown2.alloc _) ⟨W.heap.size, 0, none⟩ 1 1 [.int .i32 (r : Int)] rfl rfl ?c1 ?c2 ?c3 ?c4 ?c5 ?_)
      case c1 =>
        intro j u hu
        have hj : j = 0 := by
          rcases Nat.lt_or_ge j 1 with h | h
          · omega
          · rw [List.getElem?_eq_none (by simpa using h)] at hu; cases hu
        subst hj
        simp at hu
        subst hu
        show (W.alloc _).cell? ⟨W.heap.size, 0, none⟩ = _
        rw [World.cell?_alloc_at _ _ _ _ rfl]; rfl
      case c2 => intro u hu; simp at hu; subst hu; rfl
      case c3 => unfold maxLen; omega
      case c4 => omega
      case c5 => simp; omega
      intro v' w1 hown' hgrow hnil
      have hit3 : w1.heap[w.heap.size + 1]? = some (.stringIter s p) := by
        rw [hgrow.block _ (by simp; omega) HNE.out, Lib.alloc_old _ _ _ (by omega)]; exact HIT2.out
      have hb3 : Below w.heap.size w w1 := (hbw2.alloc (by omega) _).grown hgrow (by simp; omega) (fun k hk => (hown2.lt k hk).1)
      have hv' : v' ≠ .slice none 0 0 := by first | exact hnil | exact fun h => HV.out (hnil.1 h).1
      clear hgrow hnil
      have HIT3 := Lib.hid hit3; clear hit3
      have HV' := Lib.hid hv'; clear hv'
      go_wp2
      go_roundw
      case rel =>
        refine ⟨p, dn ++ [(r : Int)], hp2, by simp; omega, by simpa using hown', HV'.out, HIT3.out, hb3, ?_⟩
        rw [List.append_assoc]; exact HACC
      case measure =>
        simp only [World.iterPos, HIT3.out, HIT.out]
        omega
    · have hnx : ∀ ty, (Instr.next (.pointer (some ⟨w.heap.size + 1, 0, none⟩)) true ty).run Try.prog wr = _ := fun ty => Lib.run_next_end_at wr (w.heap.size + 1) s pos ty hit hp
      have ha := hacc.out
      rw [drop_end s pos hp, List.append_nil] at ha
      have HA := Lib.hid ha
      have HV := Lib.hid hv
      have HIT := Lib.hid hit
      clear ha hacc hv
      go_wp2
      go_ret
      exact ⟨⟨_, rfl, by rw [← HA.out]; exact runesAt_of hown HV.out⟩, hbw⟩
end Go.Proofs.Ytbflcandbhfbdaa
