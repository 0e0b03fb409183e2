/-
  The document's history behind its pointer: Observe.
-/
import Derived.Test.YtmdpfinadffcaaaHyH
import Derived.Test.YtmdpfinadffcaaaHistF
namespace Go.Proofs.Ytmdpfinadffcaaa
open Go.RowKit
set_option linter.unusedVariables false

theorem RowsAt.keep {w w' : World} {a : Option Addr} {R : List Lr.E} (h : RowsAt w a R) (hz : w.heap.size ≤ w'.heap.size) (hk : ∀ k off, a = some ⟨k, off, none⟩ → w'.heap[k]? = w.heap[k]?) : RowsAt w' a R := by
  refine ⟨fun h0 => ?_⟩
  obtain ⟨g, off, rfl, hg, hc⟩ := h.is h0
  exact ⟨g, off, rfl, Nat.lt_of_lt_of_le hg hz, fun j hj i u hu => (World.cell?_of_block (hk g off rfl)).trans (hc j hj i u hu)⟩
/-- block R is the document's history -/
structure DRef (w : World) (B D : Nat) (room : Int) (a : Option Addr) (cap : Nat) (R : List Lr.E) : Prop where
  cell : w.heap[D]? = some (tO room (.slice a R.length cap))
  row : RowsAt w a R
  base : B ≤ D
  lt : ∀ k off, a = some ⟨k, off, none⟩ → k < w.heap.size
/-- its blocks -/
def DH (D : Nat) (a : Option Addr) (k : Nat) : Prop := k = D ∨ ∃ off, a = some ⟨k, off, none⟩
theorem DRef.keep {w w' : World} {B D : Nat} {room : Int} {a : Option Addr} {cap : Nat} {R : List Lr.E} (h : DRef w B D room a cap R) (hz : w.heap.size ≤ w'.heap.size) (hk : ∀ k, DH D a k → w'.heap[k]? = w.heap[k]?) : DRef w' B D room a cap R :=
  ⟨(hk D (Or.inl rfl)).trans h.cell, h.row.keep hz (fun k off e => hk k (Or.inr ⟨off, e⟩)), h.base, fun k off e => Nat.lt_of_lt_of_le (h.lt k off e) hz⟩
theorem DRef.in {w : World} {B D : Nat} {room : Int} {a : Option Addr} {cap : Nat} {R : List Lr.E} (h : DRef w B D room a cap R) : ∀ k, DH D a k → k < w.heap.size := by
  rintro k (rfl | ⟨off, e⟩)
  · exact lt_block h.cell
  · exact h.lt k off e
theorem DRef.below {w w' : World} {B D : Nat} {room : Int} {a : Option Addr} {cap : Nat} {R : List Lr.E} (h : DRef w B D room a cap R) (hb : Below w.heap.size w w') : DRef w' B D room a cap R := h.keep hb.size (fun k hk => hb.block k (h.in k hk))
/-- it returns nothing; the document's history holds R' -/
structure RetD (B D : Nat) (room : Int) (R' : List Lr.E) (w : World) (e : Ending) (w' : World) : Prop where
  r : e = .returned (.tuple #[])
  s : ∃ a cap, DRef w' B D room a cap R' ∧ ∀ k off, a = some ⟨k, off, none⟩ → w.heap.size ≤ k
  c : Chg (fun k => k = D) w w'
/-- the list is stored -/
theorem d_stored {w : World} {B D : Nat} {room : Int} {v0 : Value} {a : Option Addr} {cap : Nat} {R : List Lr.E} (hc : w.heap[D]? = some (tO room v0)) (hr : RowsAt w a R) (hlt : ∀ k off, a = some ⟨k, off, none⟩ → k < w.heap.size ∧ k ≠ D) (hB : B ≤ D) : DRef (w.setCell ⟨D, 1, none⟩ (.slice a R.length cap)) B D room a cap R := by
  have h1 := setCell_block w D 1 _ _ (.slice a R.length cap) hc
  exact ⟨h1, hr.keep (by simp [World.setCell]) (fun k off e => Below.heap_setCell _ _ _ _ (hlt k off e).2), hB, fun k off e => by simpa [World.setCell] using (hlt k off e).1⟩
theorem row_flatR {w : World} {B : Nat} {a : Option Addr} {n cap : Nat} {R : List Lr.E} (h : eltR.Row w B (.slice a n cap) R) : RowsAt w a R ∧ n = R.length ∧ ∀ k off, a = some ⟨k, off, none⟩ → B ≤ k ∧ k < w.heap.size ∧ off = 0 := by
  obtain ⟨a', c', e, hf⟩ := h.flat
  cases e
  refine ⟨hf.view, rfl, fun k off e => ?_⟩
  subst e
  obtain ⟨_, ⟨e, _⟩ | ⟨g, c2, cur, e, hg, hc, _⟩⟩ := h
  · cases e
  · cases e
    exact ⟨hg, lt_block hc, rfl⟩
/-- all but the first -/
theorem RowsAt.tail {w : World} {g : Nat} {R : List Lr.E} (h : RowsAt w (some ⟨g, 0, none⟩) R) : RowsAt w (some ⟨g, 17, none⟩) R.tail := by
  refine ⟨fun h0 => ?_⟩
  have h1 : 0 < R.length := by rw [List.length_tail] at h0; omega
  obtain ⟨g2, off, e, hg, hc⟩ := h.is h1
  cases e
  refine ⟨g, 17, rfl, hg, fun j hj i u hu => ?_⟩
  have hj2 : j + 1 < R.length := by rw [List.length_tail] at hj; omega
  have := hc (j + 1) hj2 i u (by simpa using hu)
  have e : 0 + (j + 1) * eltR.size + i = 17 + j * eltR.size + i := by simp only [eltR]; omega
  rwa [e] at this

set_option maxRecDepth 100000 in
set_option maxHeartbeats 8000000 in
theorem refObserveC (B D : Nat) (room : Int) (a : Option Addr) (cap : Nat) (R : List Lr.E) (key : ByteArray) (t : Int) (w : World) (h : DRef w B D room a cap R) (ht0 : 0 ≤ t) (ht1 : t < 18446744073709551616) (hl : R.length ≤ 100000) (hroom : 1 ≤ room) :
    Calls Try.prog 9 #[.pointer (some ⟨D, 0, none⟩), .string key, .int .u64 t] w (RetD B D room (Hy.putR room R key (Hy.addV (Hy.valOf R key) t)) w) := by
  have hD := lt_block h.cell
  have hBD := h.base
  have c0 : w.cell? ⟨D, 0, none⟩ = some (.int .i64 room) := by rw [cell_of_row _ _ _ _ _ _ h.cell]; rfl
  have c1 : w.cell? ⟨D, 1, none⟩ = some (.slice a R.length cap) := by rw [cell_of_row _ _ _ _ _ _ h.cell]; rfl
  have K1 := Lib.hid (refHistC room key a cap R w (by omega) h.row)
  have K2 := Lib.hid (fun W => refAddC (Hy.valOf R key).1 (Hy.valOf R key).2 t ht0 ht1 W)
  have hadd : Hi.add (Hy.valOf R key).1 (Hi.bk t.toNat) = (Hy.addV (Hy.valOf R key) t).1 := rfl
  rw [hadd] at K2
  have HC := Lib.hid h.cell
  have HV := Lib.hid h.row
  clear h ht0 ht1 hadd
  generalize Hy.addV (Hy.valOf R key) t = u at *
  generalize Hy.valOf R key = v at *
  go_enter Try.func9, Try.ntmps9
  go_wp2_with (first
    | (go_at_call 20; (with_reducible refine K1.out.mono ?_); rintro e wA ⟨rfl, hb⟩; have HA := Lib.hid hb; clear hb)
    | (go_at_call 19; (with_reducible refine (K2.out _).mono ?_); rintro e wB ⟨rfl, hb⟩; have HB0 := Lib.hid (HA.out.trans (hb.mono HA.out.size)); clear hb; have HX := Lib.hid (zeros_new wB))
    | (refine storeB HX.out (l := u.1) u.2 rfl _ _ rfl rfl rfl ?_))
  have hbC : Below w.heap.size w ((wB.alloc zb).setRow wB.heap.size (Hi.cells u.1)) := below_row (HB0.out.alloc HB0.out.size _) HB0.out.size _
  have hbx := HX.out.row (m := u.1) u.2
  obtain ⟨g6, hg6⟩ : ∃ g6, g6 = wB.heap.size := ⟨_, rfl⟩
  obtain ⟨wC, hwC⟩ : ∃ wC, wC = (wB.alloc zb).setRow wB.heap.size (Hi.cells u.1) := ⟨_, rfl⟩
  rw [← hwC] at hbC hbx ⊢
  rw [← hg6] at hbx
  have hzC : wC.heap.size = wB.heap.size + 1 := by rw [hwC, setRow_size]; simp
  clear hwC HX K1 K2 HA c0 c1
  have HROW0 : Hid (eltR.Row (wC.alloc (.cells #[] 58)) w.heap.size (.slice (some ⟨g6 + 1, 0, none⟩) 0 0) []) := Lib.hid (by rw [hg6, ← hzC]; exact Elt.Row.lit (E := eltR) wC w.heap.size hbC.size)
  have HBL0 : Hid (Below w.heap.size w (wC.alloc (.cells #[] 58))) := Lib.hid (hbC.alloc hbC.size _)
  have HBX0 : Hid (Bx (wC.alloc (.cells #[] 58)) g6 u.1) := Lib.hid (hbx.old _)
  clear hbC hbx HB0 hzC
  rw [← hg6]
  clear hg6
  go_loopw [7, 8] (fun s i wr => ∃ k : Nat, k ≤ R.length ∧ i = .int .i64 (k : Int) ∧ Hid (eltR.Row wr w.heap.size s (Lr.without (R.take k) key)) ∧ Hid (Below w.heap.size w wr) ∧ Hid (Bx wr g6 u.1)) (fun _ i _ => R.length - (intOf i).toNat)
  case atStart => exact ⟨0, Nat.zero_le _, rfl, by simpa [Lr.without] using HROW0, HBL0, HBX0⟩
  case round =>
    obtain ⟨k, hk, rfl, hrow, hb, hx⟩ := hrel
    clear HROW0 HBL0 HBX0
    obtain ⟨a', c', rfl⟩ := hrow.out.slice
    have hcw := (hb.out.block D hD).trans HC.out
    have d0 : wr.cell? ⟨D, 0, none⟩ = some (.int .i64 room) := by rw [cell_of_row _ _ _ _ _ _ hcw]; rfl
    have d1 : wr.cell? ⟨D, 1, none⟩ = some (.slice a R.length cap) := by rw [cell_of_row _ _ _ _ _ _ hcw]; rfl
    have hb0 : w.heap.size ≤ wr.heap.size := hb.out.size
    by_cases hlt : k < R.length
    · obtain ⟨g, off, rfl, hg, hc⟩ := (HV.out.below hb.out).cell hlt
      have dk := row_key hc
      have hwt := Lr.without_take R key k hlt
      have hlen : (Lr.without (R.take k) key).length ≤ 1000000 := by have := Lr.length_without (R.take k) key; rw [List.length_take] at this; omega
      have HCL := Lib.hid hc
      have hpr : R[k] = (R[k].1, R[k].2) := rfl
      rw [hpr] at hwt
      clear hc hpr hcw
      generalize R[k].1 = x at *
      generalize R[k].2 = y at *
      by_cases e : x = key
      · rw [if_pos e] at hwt
        have HWT := Lib.hid hwt
        have t1 := eq_yesS key
        subst e
        clear hwt
        go_wp2
        go_roundw
        case rel => exact ⟨k + 1, by omega, by go_num, by rw [HWT.out]; exact hrow, hb, hx⟩
        case measure => simp [intOf]; omega
      · rw [if_neg e] at hwt
        have HSN := Lib.hid (fun wn vn (ho : eltR.Row wn w.heap.size vn (Lr.without (R.take k) key ++ [(x, y)])) => (show eltR.Row wn w.heap.size vn (Lr.without (R.take (k + 1)) key) by rw [hwt]; exact ho))
        have t1 := eq_noS e
        have HNE := Lib.hid (own_ne hrow.out hx.out.h (by decide))
        clear hwt e
        generalize Lr.without (R.take k) key = m at *
        go_wp2_with (first
          | (refine loadRowM HCL.out _ rfl rfl rfl ?_)
          | (refine wpOne rfl _ rfl x y rfl ?_)
          | (at_builtin; (refine eltR.wpApp wr rfl _ _ rfl w.heap.size (.slice a' m.length c') m rfl hrow.out (entC x y) 1 rfl (x, y) rfl (by omega) hb0 ?_); intro v' w2 hown hb2 hkeep hlies))
        have hrow2 := Lib.hid (HSN.out _ _ hown)
        have hx2 : Hid (Bx w2 g6 u.1) := Lib.hid ⟨u.2, (hkeep g6 hx.out.lt HNE.out).trans hx.out.h⟩
        go_roundw
        case rel => exact ⟨k + 1, by omega, by go_num, hrow2, Lib.hid (hb.out.trans hb2), hx2⟩
        case measure => simp [intOf]; omega
    · obtain rfl : k = R.length := by omega
      rw [List.take_length] at hrow
      have hlw := Lr.length_without R key
      have HBK : Hid (Hy.back R key u = Lr.without R key ++ [(key, u)]) := Lib.hid rfl
      have HPR : Hid (Hy.putR room R key u = if ((Hy.back R key u).length : Int) ≤ room then Hy.back R key u else (Hy.back R key u).tail) := Lib.hid rfl
      have hlen : (Lr.without R key).length ≤ 1000000 := by omega
      simp only [List.take_length] at *
      clear hcw
      generalize Lr.without R key = m at *
      go_upto_region 8 with (first
        | (refine loadB hx.out _ rfl rfl rfl ?_)
        | (refine wpBuildRow rfl _ _ rfl key u rfl rfl ?_)
        | (refine wpOne rfl _ rfl key u rfl ?_)
        | (at_builtin; (refine eltR.wpApp wr rfl _ _ rfl w.heap.size (.slice a' m.length c') m rfl hrow.out (entC key u) 1 rfl (key, u) rfl (by omega) hb0 ?_); intro v' w2 hown hb2 hkeep hlies))
      rw [← HBK.out] at hown
      have hml : (Hy.back R key u).length = m.length + 1 := by rw [HBK.out]; simp
      have hM0 : 0 < (Hy.back R key u).length := by omega
      have hM1 : (Hy.back R key u).length ≤ 1000001 := by omega
      generalize Hy.back R key u = M at *
      obtain ⟨a2, c2, rfl⟩ := hown.slice
      obtain ⟨hra, _, hra2⟩ := row_flatR hown
      have hbF : Below w.heap.size w w2 := hb.out.trans hb2
      have hcD := (hbF.block D hD).trans HC.out
      have z0 : w2.cell? ⟨D, 0, none⟩ = some (.int .i64 room) := by rw [cell_of_row _ _ _ _ _ _ hcD]; rfl
      have z1 : w2.cell? ⟨D, 1, none⟩ = some (.slice a R.length cap) := by rw [cell_of_row _ _ _ _ _ _ hcD]; rfl
      have zf := frozen_of w2 D 1 _ _ hcD
      have hch : ∀ vv, Chg (fun k => k = D) w (w2.setCell ⟨D, 1, none⟩ vv) := fun vv => (Chg.of_below (F := fun k => k = D) hbF).setCell (Or.inl rfl) _
      by_cases hfit : (M.length : Int) ≤ room
      · have hd : decide ((M.length : Int) > room) = false := decide_eq_false (by omega)
        have HFIN : Hid (RetD B D room (Hy.putR room R key u) w (.returned (.tuple #[])) (w2.setCell ⟨D, 1, none⟩ (.slice a2 M.length c2))) := Lib.hid (by
          have h9 := d_stored (cap := c2) hcD hra (fun k off e => ⟨(hra2 k off e).2.1, fun e2 => by have := (hra2 k off e).1; omega⟩) hBD
          refine ⟨rfl, ⟨a2, c2, ?_, fun k off e => (hra2 k off e).1⟩, hch _⟩
          rw [HPR.out, if_pos hfit]
          exact h9)
        clear hfit hra hra2 hown hch HPR hcD hbF hml hM0 d0 d1
        generalize M.length = ML at *
        go_wp2
        go_end0
        exact HFIN.out
      · have hd : decide ((M.length : Int) > room) = true := decide_eq_true (by omega)
        obtain ⟨g2, off2, rfl, hg2, -⟩ := hra.cell hM0
        obtain ⟨q1, q2, rfl⟩ := hra2 g2 off2 rfl
        have hcap : M.length ≤ c2 := by
          obtain ⟨_, ⟨e, _⟩ | ⟨g3, c3, cur, e, _, _, h3, _⟩⟩ := hown
          · cases e
          · cases e; exact h3
        have hc2 : 1 < c2 := by omega
        have hz : c2 ≤ 9223372036854775807 := by
          obtain ⟨_, ⟨e, _⟩ | ⟨g3, c3, cur, e, _, _, h3, h4, _⟩⟩ := hown
          · cases e
          · cases e; exact h4
        have HFIN : Hid (RetD B D room (Hy.putR room R key u) w (.returned (.tuple #[])) (w2.setCell ⟨D, 1, none⟩ (.slice (some ⟨g2, 17, none⟩) (M.length - 1) (c2 - 1)))) := Lib.hid (by
          have h9 := d_stored (cap := c2 - 1) hcD hra.tail (fun k off e => (by cases e; exact ⟨q2, fun e2 => by omega⟩)) hBD
          rw [List.length_tail] at h9
          refine ⟨rfl, ⟨some ⟨g2, 17, none⟩, c2 - 1, ?_, fun k off e => (by cases e; exact q1)⟩, hch _⟩
          rw [HPR.out, if_neg hfit]
          exact h9)
        clear hfit hra hra2 hown hch HPR hcD hbF hml d0 d1
        generalize M.length = ML at *
        go_wp2
        go_end0
        exact HFIN.out
end Go.Proofs.Ytmdpfinadffcaaa
