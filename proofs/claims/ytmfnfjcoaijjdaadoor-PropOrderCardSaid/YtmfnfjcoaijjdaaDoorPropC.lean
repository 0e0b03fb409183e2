/-
  The document's Split. Rows that grow by 'append', whatever their elements.
-/
import Derived.Test.YtmfnfjcoaijjdaaDoorPropB
import Derived.Test.YtmfnfjcoaijjdaaDoorRowsOwn
import Derived.Laws.OwnMore
import Derived.Maps.Own
namespace Go.Proofs.YtmfnfjcoaijjdaaDoor
open Go.RowKit
set_option linter.unusedVariables false

theorem Strs.below {w w' : World} {v : Value} {l : List Pr.B} (h : Strs w v l) (hb : Below w.heap.size w w') : Strs w' v l := by
  obtain ⟨g, cap, cur, hv, hc, hr⟩ := h.ex
  exact ⟨g, cap, cur, hv, (hb.block g (lt_block hc)).trans hc, hr⟩

/-- the cells of strings -/
def cellsS (l : List Pr.B) : List Value := l.map fun x => Value.string (mk x)
theorem cellsS_snoc (l : List Pr.B) (x : Pr.B) : cellsS l ++ [.string (mk x)] = cellsS (l ++ [x]) := by simp [cellsS]
theorem strs_of {w : World} {B : Nat} {v : Value} {l : List Pr.B} (h : w.ownsRow B 9 1 v l.length (cellsS l)) (h0 : 0 < l.length) : Strs w v l := by
  obtain ⟨hl, h | ⟨g, cap, cur, rfl, hg, hc, hn, hm, hs, hx⟩⟩ := h
  · omega
  · refine ⟨g, cap, cur, rfl, hc, fun j hj => ?_⟩
    have h1 : (cur.toList.take (l.length * 1))[j]? = some (.string (mk l[j])) := by rw [hx]; simp [cellsS, hj]
    rw [List.getElem?_take_of_lt (by omega)] at h1
    simpa using h1

/-- where the document's Split stands: at i, the open piece from 'fr' on -/
structure SpAt (c : UInt8) (x : Pr.B) (done : List Pr.B) (fr i : Nat) : Prop where
  is : (i ≤ x.length ∧ ∃ a, x.drop fr = a ++ x.drop i ∧ c ∉ a ∧ fr + a.length = i ∧ done ++ Pr.pieces c (x.drop fr) = Pr.pieces c x) ∨ (i = x.length + 1 ∧ done = Pr.pieces c x)
theorem spAt_start (c : UInt8) (x : Pr.B) : SpAt c x [] 0 0 := ⟨Or.inl ⟨Nat.zero_le _, [], by simp, by simp, rfl, by simp⟩⟩
theorem spAt_hit {c : UInt8} {x : Pr.B} {done : List Pr.B} {fr i : Nat} (h : SpAt c x done fr i) (hi : i < x.length) (hc : x[i] = c) : fr ≤ i ∧ SpAt c x (done ++ [(x.take i).drop fr]) (i + 1) (i + 1) := by
  rcases h.is with ⟨_, a, h1, h2, h3, h4⟩ | ⟨h1, _⟩
  · refine ⟨by omega, ⟨Or.inl ⟨by omega, [], by simp, by simp, by simp, ?_⟩⟩⟩
    have ha : (x.take i).drop fr = a := by
      rw [List.drop_take, h1, ← h3, Nat.add_sub_cancel_left, List.take_left]
    have e : x.drop i = c :: x.drop (i + 1) := by rw [List.drop_eq_getElem_cons hi, hc]
    rw [ha, ← h4, h1, e, Pr.pieces_hit c a _ h2]
    simp
  · omega
theorem spAt_miss {c : UInt8} {x : Pr.B} {done : List Pr.B} {fr i : Nat} (h : SpAt c x done fr i) (hi : i < x.length) (hc : x[i] ≠ c) : SpAt c x done fr (i + 1) := by
  rcases h.is with ⟨_, a, h1, h2, h3, h4⟩ | ⟨h1, _⟩
  · have e : x.drop i = x[i] :: x.drop (i + 1) := List.drop_eq_getElem_cons hi
    refine ⟨Or.inl ⟨by omega, a ++ [x[i]], by rw [h1, e]; simp, ?_, by simp; omega, h4⟩⟩
    intro hm
    rcases List.mem_append.1 hm with hm | hm
    · exact h2 hm
    · simp at hm; exact hc hm.symm
  · omega
theorem spAt_last {c : UInt8} {x : Pr.B} {done : List Pr.B} {fr i : Nat} (h : SpAt c x done fr i) (hi : i = x.length) : fr ≤ i ∧ SpAt c x (done ++ [(x.take i).drop fr]) (i + 1) (i + 1) := by
  rcases h.is with ⟨_, a, h1, h2, h3, h4⟩ | ⟨h1, _⟩
  · have h1' : x.drop fr = a := by rw [h1, hi, List.drop_length, List.append_nil]
    refine ⟨by omega, ⟨Or.inr ⟨by omega, ?_⟩⟩⟩
    rw [hi, List.take_length, ← h4, h1', Pr.pieces_none c a h2]
  · omega
theorem spAt_end {c : UInt8} {x : Pr.B} {done : List Pr.B} {fr i : Nat} (h : SpAt c x done fr i) (hi : x.length < i) : done = Pr.pieces c x := by
  rcases h.is with ⟨h1, _⟩ | ⟨_, h⟩
  · omega
  · exact h

set_option maxHeartbeats 4000000 in
set_option maxRecDepth 1000000 in
theorem refSplitC (s : ByteArray) (c : UInt8) (w : World) (hs : s.size ≤ 1000000) :
    Calls Tryd.prog 19 #[.string s, .int .u8 (c.toNat : Int)] w (RetStrs (Pr.pieces c (bl s)) w) := by
  have hbl := bl_length s
  have hp0 : 0 < (Pr.pieces c (bl s)).length := by rw [Pr.pieces_length]; omega
  obtain ⟨cn, hcn⟩ : ∃ cn : Nat, c.toNat = cn := ⟨_, rfl⟩
  rw [hcn]
  have HCN := Lib.hid hcn; clear hcn
  have HP0 := Lib.hid hp0; clear hp0
  go_enter Tryd.func19, Tryd.ntmps19
  go_wp2
  go_loopw [5, 6, 7] (fun v f i wr => ∃ (done : List Pr.B) (fr k : Nat), f = .int .i64 (fr : Int) ∧ i = .int .i64 (k : Int) ∧ fr ≤ 1000001 ∧ k ≤ s.size + 1 ∧ done.length ≤ k ∧ wr.ownsRow w.heap.size 9 1 v done.length (cellsS done) ∧ Below w.heap.size w wr ∧ Hid (SpAt c (bl s) done fr k)) (fun _ _ i _ => s.size + 1 - (intOf i).toNat)
  case atStart => exact ⟨[], 0, 0, rfl, rfl, by omega, by omega, by simp, own_lit w w.heap.size _ 1 (Nat.le_refl _), (Below.refl _ _).alloc (Nat.le_refl _) _, spAt_start _ _⟩
  case round =>
    obtain ⟨done, fr, k, rfl, rfl, hfr, hk, hdk, hown, hbw, HS⟩ := hrel
    have hsz := hbw.size
    by_cases hlt : k < s.size
    · obtain ⟨x, hx⟩ : ∃ x : Nat, s[k].toNat = x := ⟨_, rfl⟩
      have hx256 : x < 256 := by rw [← hx]; exact s[k].toNat_lt
      by_cases hcx : x = cn
      · obtain ⟨hf, hS2⟩ := spAt_hit HS.out (by omega) (by rw [bl_get s k hlt]; exact UInt8.toNat_inj.1 (by rw [hx, hcx, HCN.out]))
        have he : s.extract fr k = mk (((bl s).take k).drop fr) := bl_inj (by rw [extract_bl, bl_mk'])
        have HS2 := Lib.hid hS2; clear hS2 HS
        have HE := Lib.hid he; clear he
        have hcx2 : ((x : Int) == (cn : Int)) = true := by simp [hcx]
        clear hcx
        go_wp2_with (at_builtin; refine wpApp _ rfl _ _ 42 rfl w.heap.size 9 _ 1 16 Tryd.underlying42 infoStr rfl (by decide) (by decide) _ _ _ rfl hown #[.string (s.extract fr k)] _ rfl rfl ?c1 ?c2 (by omega) ?_)
        case c1 => rfl
        case c2 => omega
        intro v' w1 hown' hb1 _
        have hown2 : w1.ownsRow w.heap.size 9 1 v' (done ++ [((bl s).take k).drop fr]).length (cellsS (done ++ [((bl s).take k).drop fr])) := by
          rw [← cellsS_snoc, ← HE.out]; simpa using hown'
        have hb2 := hbw.trans hb1
        clear hown' hb1
        go_wp2
        go_roundw
        case rel => exact ⟨_, k + 1, k + 1, by go_num, by go_num, by omega, by omega, by simp; omega, hown2, hb2, HS2⟩
        case measure => simp [intOf]; omega
      · have hS2 := spAt_miss HS.out (by omega) (by rw [bl_get s k hlt]; exact fun e => hcx (by rw [← hx, e, HCN.out]))
        have HS2 := Lib.hid hS2; clear hS2 HS
        have hcx2 : ((x : Int) == (cn : Int)) = false := by simp; omega
        clear hcx
        go_wp2
        go_roundw
        case rel => exact ⟨_, fr, k + 1, by go_num, by go_num, by omega, by omega, by omega, hown, hbw, HS2⟩
        case measure => simp [intOf]; omega
    · by_cases hke : k = s.size
      · obtain ⟨hf, hS2⟩ := spAt_last HS.out (by omega)
        have he : s.extract fr k = mk (((bl s).take k).drop fr) := bl_inj (by rw [extract_bl, bl_mk'])
        have HS2 := Lib.hid hS2; clear hS2 HS
        have HE := Lib.hid he; clear he hlt
        subst hke
        go_wp2_with (at_builtin; refine wpApp _ rfl _ _ 42 rfl w.heap.size 9 _ 1 16 Tryd.underlying42 infoStr rfl (by decide) (by decide) _ _ _ rfl hown #[.string (s.extract fr s.size)] _ rfl rfl ?d1 ?d2 (by omega) ?_)
        case d1 => rfl
        case d2 => omega
        intro v' w1 hown' hb1 _
        have hown2 : w1.ownsRow w.heap.size 9 1 v' (done ++ [((bl s).take s.size).drop fr]).length (cellsS (done ++ [((bl s).take s.size).drop fr])) := by
          rw [← cellsS_snoc, ← HE.out]; simpa using hown'
        have hb2 := hbw.trans hb1
        clear hown' hb1
        go_wp2
        go_roundw
        case rel => exact ⟨_, s.size + 1, s.size + 1, by go_num, by go_num, by omega, by omega, by simp; omega, hown2, hb2, HS2⟩
        case measure => simp [intOf]
      · have hd := spAt_end HS.out (by omega)
        subst hd
        have hr := strs_of hown HP0.out
        have HR := Lib.hid hr
        have hlt2 : s.size < k := by omega
        clear hr HS hown hlt hke hdk
        go_wp2
        go_ret
        exact ⟨⟨_, rfl, HR.out⟩, hbw⟩
end Go.Proofs.YtmfnfjcoaijjdaaDoor
