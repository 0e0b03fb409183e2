/-
  The document's table behind its pointer: Drop, Put, Get.
-/
import Derived.Test.YtmofjplojlobiaaLruR
import Derived.BigQuiet
import Derived.Deep.QuietTactic
namespace Go.Proofs.Ytmofjplojlobiaa
open Go.RowKit
set_option linter.unusedVariables false

/-- block R is the document's table: its room, its list in the slice v -/
structure RefT (w : World) (B R : Nat) (room : Int) (v : Value) (l : List Lr.E) : Prop where
  cell : w.heap[R]? = some (.cells #[.int .i64 room, v] 29 (0, 0))
  row : eltT.Row w B v l
  base : B ≤ R
def RefH (R : Nat) (v : Value) (k : Nat) : Prop := k = R ∨ v.ownBlock = some k
theorem RefT.ne {w : World} {B R : Nat} {room : Int} {v : Value} {l : List Lr.E} (h : RefT w B R room v l) : some R ≠ v.ownBlock := own_ne h.row h.cell (by decide)
theorem RefT.lt {w : World} {B R : Nat} {room : Int} {v : Value} {l : List Lr.E} (h : RefT w B R room v l) : ∀ k, RefH R v k → B ≤ k ∧ k < w.heap.size := by
  rintro k (rfl | hk)
  · exact ⟨h.base, lt_block h.cell⟩
  · exact h.row.lt k hk
theorem RefT.keep {w w' : World} {B R : Nat} {room : Int} {v : Value} {l : List Lr.E} (h : RefT w B R room v l) (hk : ∀ k, RefH R v k → w'.heap[k]? = w.heap[k]?) : RefT w' B R room v l :=
  ⟨(hk R (Or.inl rfl)).trans h.cell, h.row.keep (fun k e => hk k (Or.inr e)), h.base⟩
theorem RefT.below {w w' : World} {B R : Nat} {room : Int} {v : Value} {l : List Lr.E} (h : RefT w B R room v l) (hb : Below w.heap.size w w') : RefT w' B R room v l :=
  h.keep (fun k hk => hb.block k (h.lt k hk).2)
theorem RefT.apart {w w' : World} {B R : Nat} {room : Int} {v : Value} {l : List Lr.E} {F : Nat → Prop} (h : RefT w B R room v l) (hc : Chg F w w') (hd : ∀ k, RefH R v k → ¬ F k) : RefT w' B R room v l :=
  h.keep (fun k hk => hc.block k (h.lt k hk).2 (hd k hk))
theorem RefT.c0 {w : World} {B R : Nat} {room : Int} {v : Value} {l : List Lr.E} (h : RefT w B R room v l) : w.cell? ⟨R, 0, none⟩ = some (.int .i64 room) := by rw [cell_of_row w R _ _ _ _ h.cell]; rfl
theorem RefT.c1 {w : World} {B R : Nat} {room : Int} {v : Value} {l : List Lr.E} (h : RefT w B R room v l) : w.cell? ⟨R, 1, none⟩ = some v := by rw [cell_of_row w R _ _ _ _ h.cell]; rfl
theorem RefT.fr {w : World} {B R : Nat} {room : Int} {v : Value} {l : List Lr.E} (h : RefT w B R room v l) (i : Nat) : w.frozen? ⟨R, i, none⟩ = false := frozen_of w R i _ _ h.cell
/-- it returns r; the document's table holds l' -/
structure RetRT (r : Value) (B R : Nat) (room : Int) (v : Value) (l' : List Lr.E) (w : World) (e : Ending) (w' : World) : Prop where
  r : e = .returned r
  s : ∃ v', RefT w' B R room v' l' ∧ ∀ k, v'.ownBlock = some k → v.ownBlock = some k ∨ w.heap.size ≤ k
  c : Chg (RefH R v) w w'
theorem RefT.asks {r : Value} {B R : Nat} {room : Int} {v : Value} {l : List Lr.E} {w w' : World} {e : Ending} (he : e = .returned r) (h : RefT w B R room v l) (hb : Below w.heap.size w w') : RetRT r B R room v l w e w' :=
  ⟨he, ⟨v, h.below hb, fun k hk => Or.inl hk⟩, Chg.of_below hb⟩
/-- one call behind another -/
theorem RetRT.then {r' : Value} {B R : Nat} {room : Int} {v v1 : Value} {l' : List Lr.E} {w w1 w2 : World} {e : Ending} (hs : ∀ k, v1.ownBlock = some k → v.ownBlock = some k ∨ w.heap.size ≤ k) (hc : Chg (RefH R v) w w1) (h : RetRT r' B R room v1 l' w1 e w2) : RetRT r' B R room v l' w e w2 := by
  obtain ⟨v2, g1, g2⟩ := h.s
  have hz := hc.size
  refine ⟨h.r, ⟨v2, g1, fun k hk => ?_⟩, hc.trans h.c (fun k hk => ?_)⟩
  · rcases g2 k hk with e | e
    · exact hs k e
    · exact Or.inr (by omega)
  · rcases hk with e | e
    · exact Or.inl (Or.inl e)
    · rcases hs k e with e | e
      · exact Or.inl (Or.inr e)
      · exact Or.inr e
/-- the list is stored -/
theorem reft_stored {w : World} {B R : Nat} {room : Int} {v v' : Value} {l' : List Lr.E} (hc : w.heap[R]? = some (.cells #[.int .i64 room, v] 29 (0, 0))) (hr : eltT.Row w B v' l') (hB : B ≤ R) : RefT (w.setCell ⟨R, 1, none⟩ v') B R room v' l' := by
  have h1 := setCell_block w R 1 _ _ v' hc
  have hne : some R ≠ v'.ownBlock := own_ne hr hc (by decide)
  refine ⟨h1, hr.keep (fun k hk => Below.heap_setCell _ _ _ _ ?_), hB⟩
  intro e
  exact hne (by rw [hk]; exact congrArg some e.symm)

set_option maxRecDepth 100000 in
theorem refDropNone (key : ByteArray) (room : Int) (B R : Nat) (v : Value) (l : List Lr.E) (w : World) (h : RefT w B R room v l) (hl : l.length ≤ 1000000) (hn : ∀ x ∈ l, x.1 ≠ key) :
    Calls Try.prog 21 #[.pointer (some ⟨R, 0, none⟩), .string key] w (RetRT (.bool false) B R room v l w) := by
  obtain ⟨a, cap, rfl, hv⟩ := h.row.flat
  have c0 := h.c0
  have c1 := h.c1
  have K := Lib.hid ((refFindC room key a cap l w hl hv).mono (R' := fun e wA => e = .returned (.int .i64 (-1)) ∧ Hid (Below w.heap.size w wA)) fun e wA hr => by
    obtain ⟨r, rfl, ⟨rfl, _⟩ | ⟨j, _, hj, he⟩⟩ := hr.r
    · exact ⟨rfl, Lib.hid hr.b⟩
    · exact absurd he (hn _ (List.getElem_mem hj)))
  have H := Lib.hid h
  clear h hv hn
  go_enter Try.func21, Try.ntmps21
  go_wp2_with (go_at_call 31; (with_reducible refine K.out.mono ?_); rintro e wA ⟨rfl, hA⟩)
  go_ret
  exact H.out.asks rfl hA.out

set_option maxRecDepth 100000 in
set_option maxHeartbeats 4000000 in
theorem refDropSome (key : ByteArray) (room : Int) (B R : Nat) (v : Value) (l : List Lr.E) (w : World) (h : RefT w B R room v l) (hl : l.length ≤ 1000000) (hg : Lr.Good l) (hn : ∃ x ∈ l, x.1 = key) :
    Calls Try.prog 21 #[.pointer (some ⟨R, 0, none⟩), .string key] w (RetRT (.bool true) B R room v (Lr.without l key) w) := by
  obtain ⟨a, cap, rfl, hv⟩ := h.row.flat
  have c0 := h.c0
  have c1 := h.c1
  have hR := lt_block h.cell
  have hBR := h.base
  have hcell := Lib.hid h.cell
  have K := Lib.hid ((refFindC room key a cap l w hl hv).mono (R' := fun e wA => ∃ i : Nat, e = .returned (.int .i64 (i : Int)) ∧ i < l.length ∧ Hid (∀ k (hk : k < l.length), k = i ↔ l[k].1 = key) ∧ Hid (Below w.heap.size w wA) ∧ wA.cell? ⟨R, 1, none⟩ = some (.slice a l.length cap)) fun e wA hr => by
    obtain ⟨r, rfl, ⟨rfl, h1⟩ | ⟨j, rfl, hj, he⟩⟩ := hr.r
    · obtain ⟨x, hx, hxe⟩ := hn
      exact absurd hxe (h1 x hx)
    · exact ⟨j, rfl, hj, Lib.hid (fun k hk => ⟨fun e => by subst e; exact he, fun e => Lr.keys_apart hg hk hj (e.trans he.symm)⟩), Lib.hid hr.b, (hr.b.cell (p := ⟨R, 1, none⟩) hR).trans c1⟩)
  have HV := Lib.hid hv
  have H := Lib.hid h
  clear h hv hn hg
  go_enter Try.func21, Try.ntmps21
  go_wp2_with (go_at_call 31; (with_reducible refine K.out.mono ?_); rintro e wA ⟨i, rfl, hi, hiff, hA, c1A⟩)
  have hz := hA.out.size
  have HROW0 : Hid (eltT.Row (wA.alloc (.cells #[] 58)) w.heap.size (.slice (some ⟨wA.heap.size, 0, none⟩) 0 0) []) := Lib.hid (Elt.Row.lit (E := eltT) wA w.heap.size hz)
  have HB0 : Hid (Below w.heap.size w (wA.alloc (.cells #[] 58))) := Lib.hid (hA.out.alloc hz _)
  clear c1A
  go_loopw [6, 7] (fun u s wr => ∃ k : Nat, k ≤ l.length ∧ s = .int .i64 (k : Int) ∧ Hid (eltT.Row wr w.heap.size u (Lr.without (l.take k) key)) ∧ Hid (Below w.heap.size w wr)) (fun _ s _ => l.length - (intOf s).toNat)
  case atStart => exact ⟨0, by omega, rfl, by simpa [Lr.without] using HROW0, HB0⟩
  case round =>
    obtain ⟨k, hk, rfl, hrow, hb⟩ := hrel
    clear HROW0 HB0
    obtain ⟨a', c', rfl⟩ := hrow.out.slice
    have hcw := (hb.out.block R hR).trans hcell.out
    have c2 : wr.cell? ⟨R, 1, none⟩ = some (.slice a l.length cap) := by rw [cell_of_row wr R _ _ _ _ hcw]; rfl
    have hb0 : w.heap.size ≤ wr.heap.size := hb.out.size
    by_cases hlt : k < l.length
    · obtain ⟨g, rfl, hg, hc⟩ := things_at HV.out (by omega)
      obtain ⟨d0, d1⟩ := hc k hlt
      replace d0 := (hb.out.cell (p := ⟨g, k * 2, none⟩) hg).trans d0
      replace d1 := (hb.out.cell (p := ⟨g, k * 2 + 1, none⟩) hg).trans d1
      have hwt := Lr.without_take l key k hlt
      have hif := hiff.out k hlt
      have hlen : (Lr.without (l.take k) key).length ≤ 1000000 := by have := Lr.length_without (l.take k) key; rw [List.length_take] at this; omega
      have hpr : l[k] = (l[k].1, l[k].2) := rfl
      rw [hpr] at hwt
      clear hc hpr hcw
      generalize l[k].1 = x at *
      generalize l[k].2 = y at *
      by_cases e : k = i
      · rw [if_pos (hif.1 e)] at hwt
        have HWT := Lib.hid hwt
        have t1 : ((k : Int) != (i : Int)) = false := by simp; omega
        clear hwt hif e
        go_wp2
        go_roundw
        case rel => exact ⟨k + 1, by omega, by go_num, by rw [HWT.out]; exact hrow, hb⟩
        case measure => simp [intOf]; omega
      · rw [if_neg (fun h => e (hif.2 h))] at hwt
        have HSN := Lib.hid (fun wn vn (ho : eltT.Row wn w.heap.size vn (Lr.without (l.take k) key ++ [(x, y)])) => (show eltT.Row wn w.heap.size vn (Lr.without (l.take (k + 1)) key) by rw [hwt]; exact ho))
        have t1 : ((k : Int) != (i : Int)) = true := by simp; omega
        clear hwt hif e
        generalize Lr.without (l.take k) key = m at *
        go_wp2_with (at_builtin; (refine eltT.wpApp wr rfl _ _ rfl w.heap.size (.slice a' m.length c') m rfl hrow.out #[.string x, .int .i64 y] _ rfl (x, y) rfl (by omega) hb0 ?_); intro v' w2 hown hb2 hkeep hlies)
        have hrow2 := Lib.hid (HSN.out _ _ hown)
        go_roundw
        case rel => exact ⟨k + 1, by omega, by go_num, hrow2, Lib.hid (hb.out.trans hb2)⟩
        case measure => simp [intOf]; omega
    · obtain rfl : k = l.length := by omega
      have hrow' := hrow.out
      simp only [List.take_length] at hrow' ⊢
      have f1 := frozen_of wr R 1 _ _ hcw
      have HST := Lib.hid (fun v' (hr : eltT.Row wr B v' (Lr.without l key)) => reft_stored hcw hr hBR)
      have HROW := Lib.hid hrow'
      clear hrow hrow' hcw
      generalize Lr.without l key = m at *
      go_wp2
      go_ret
      refine ⟨rfl, ⟨_, HST.out _ (HROW.out.base (Nat.le_trans hBR (Nat.le_of_lt hR))), fun k e => Or.inr (HROW.out.lt k e).1⟩, ?_⟩
      exact (Chg.of_below (F := RefH R (.slice a l.length cap)) hb.out).setCell (Or.inl (Or.inl rfl)) _
theorem refDropC (key : ByteArray) (room : Int) (B R : Nat) (v : Value) (l : List Lr.E) (w : World) (h : RefT w B R room v l) (hl : l.length ≤ 1000000) (hg : Lr.Good l) :
    Calls Try.prog 21 #[.pointer (some ⟨R, 0, none⟩), .string key] w (RetRT (.bool (Lr.has l key)) B R room v (Lr.without l key) w) := by
  unfold Lr.has
  cases hf : Lr.find l key with
  | none =>
    rw [Lr.without_none (Lr.find_none.1 hf)]
    exact refDropNone key room B R v l w h hl (Lr.find_none.1 hf)
  | some u =>
    obtain ⟨x, y, rfl, _⟩ := Lr.find_some hf
    exact refDropSome key room B R v _ w h hl hg ⟨(key, u), by simp, rfl⟩
end Go.Proofs.Ytmofjplojlobiaa
