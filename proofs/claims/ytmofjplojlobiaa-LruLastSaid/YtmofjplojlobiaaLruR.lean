/-
  The document's table: its rows; Find, Peek, Keys.
-/
import Derived.Test.YtmofjplojlobiaaLruMath
import Derived.Test.YtmofjplojlobiaaRowsG
import Derived.Test.YtmofjplojlobiaaFoot
import Derived.Test.YtmofjplojlobiaaLruI
namespace Go.Proofs.Ytmofjplojlobiaa
open Go.RowKit
set_option linter.unusedVariables false

/-- how a thing lies in a row -/
def eltT : Elt Try.prog Lr.E where
  st := 27
  e := 58
  z := .agg #[.string .empty, .int .i64 0]
  size := 2
  bytes := 24
  pv := fun p => [.string p.1, .int .i64 p.2]
  ht := Try.underlying27
  info := by kernel_rfl
  hz := rfl
  pos := by decide
  le := by decide
  len := fun _ => rfl
  one := fun s u hu => by simp at hu; rcases hu with rfl | rfl <;> rfl
theorem things_at {w : World} {a : Option Addr} {l : List Lr.E} (h : eltT.Flat w a l) (h0 : 0 < l.length) : ∃ g, a = some ⟨g, 0, none⟩ ∧ g < w.heap.size ∧ ∀ j (hj : j < l.length), w.cell? ⟨g, j * 2, none⟩ = some (.string l[j].1) ∧ w.cell? ⟨g, j * 2 + 1, none⟩ = some (.int .i64 l[j].2) := by
  obtain ⟨g, ha, hg, hc⟩ := h.is h0
  exact ⟨g, ha, hg, fun j hj => ⟨hc j hj 0 _ rfl, hc j hj 1 _ rfl⟩⟩
theorem toListS (s : ByteArray) : s.toList = bl s := ByteArray.toList_eq s
theorem eq_yesS (s : ByteArray) : (s.toList == s.toList) = true := by simp
theorem eq_noS {s t : ByteArray} (h : s ≠ t) : (s.toList == t.toList) = false := by
  rw [toListS, toListS, beq_eq_false_iff_ne]
  exact fun e => h (bl_injS e)

/-- the place of a key, or -1 -/
structure RetPl (l : List Lr.E) (key : ByteArray) (w : World) (e : Ending) (w' : World) : Prop where
  r : ∃ r : Int, e = .returned (.int .i64 r) ∧ ((r = -1 ∧ ∀ x ∈ l, x.1 ≠ key) ∨ ∃ j : Nat, r = (j : Int) ∧ ∃ h : j < l.length, l[j].1 = key)
  b : Below w.heap.size w w'
set_option maxRecDepth 100000 in
set_option maxHeartbeats 1000000 in
theorem refFindC (room : Int) (key : ByteArray) (a : Option Addr) (cap : Nat) (l : List Lr.E) (w : World) (hl : l.length ≤ 1000000) (h : eltT.Flat w a l) :
    Calls Try.prog 31 #[.agg #[.int .i64 room, .slice a l.length cap], .string key] w (RetPl l key w) := by
  have HV := Lib.hid h; clear h
  have hbx : Below w.heap.size w (w.alloc (.cells #[.int .i64 room, .slice a l.length cap] 29)) := (Below.refl _ _).alloc (Nat.le_refl _) _
  go_enter Try.func31, Try.ntmps31
  go_wp2
  go_loop [5] (fun s => ∃ j : Nat, j ≤ l.length ∧ s = .int .i64 (j : Int) ∧ Hid (∀ p (h : p < l.length), p < j → l[p].1 ≠ key)) (fun s => l.length - (intOf s).toNat)
  case atStart => exact ⟨0, by omega, rfl, Lib.hid (fun p h h2 => by omega)⟩
  case round =>
    obtain ⟨j, hj, rfl, hn⟩ := hrel
    by_cases hlt : j < l.length
    · obtain ⟨g, rfl, hg, hc⟩ := things_at HV.out (by omega)
      obtain ⟨c0, _⟩ := hc j hlt
      have d0 := (hbx.cell (p := ⟨g, j * 2, none⟩) hg).trans c0
      have hnx : l[j].1 ≠ key → ∀ p (h : p < l.length), p < j + 1 → l[p].1 ≠ key := fun hne p h h2 => by
        by_cases e : p = j
        · subst e; exact hne
        · exact hn.out p h (by omega)
      have hyes : l[j].1 = key → RetPl l key w (.returned (.int .i64 (j : Int))) (w.alloc (.cells #[.int .i64 room, .slice (some ⟨g, 0, none⟩) l.length cap] 29)) := fun he => ⟨⟨_, rfl, Or.inr ⟨j, rfl, hlt, he⟩⟩, hbx⟩
      have HN := Lib.hid hnx
      have HY := Lib.hid hyes
      clear hc c0 hnx hyes hn
      generalize l[j].1 = x at *
      by_cases e1 : x = key
      · have H := Lib.hid (HY.out e1)
        have t1 := eq_yesS key
        subst e1
        clear HN HY
        go_wp2
        go_ret
        exact H.out
      · have t1 := eq_noS e1
        have H := Lib.hid (HN.out e1)
        clear e1 HN HY
        go_wp2
        go_round
        case rel => exact ⟨j + 1, by omega, by go_num, H⟩
        case measure => simp [intOf]; omega
    · obtain rfl : j = l.length := by omega
      go_wp2
      go_ret
      exact ⟨⟨_, rfl, Or.inl ⟨rfl, fun x hx => by
        obtain ⟨p, hp, rfl⟩ := List.getElem_of_mem hx
        exact hn.out p hp hp⟩⟩, hbx⟩

set_option maxRecDepth 100000 in
set_option maxHeartbeats 1000000 in
theorem refPeekC (room : Int) (key : ByteArray) (a : Option Addr) (cap : Nat) (l : List Lr.E) (w : World) (hl : l.length ≤ 1000000) (hgd : Lr.Good l) (h : eltT.Flat w a l) :
    Calls Try.prog 20 #[.agg #[.int .i64 room, .slice a l.length cap], .string key] w (Ret (gotV (Lr.find l key)) w) := by
  have hbx : Below w.heap.size w (w.alloc (.cells #[.int .i64 room, .slice a l.length cap] 29)) := (Below.refl _ _).alloc (Nat.le_refl _) _
  have kf := refFindC room key a cap l _ hl (h.below hbx)
  cases hf : Lr.find l key with
  | none =>
    have kf2 := kf.mono (R' := fun e wA => e = .returned (.int .i64 (-1)) ∧ Hid (Below w.heap.size w wA)) fun e wA hr => by
      obtain ⟨r, rfl, ⟨rfl, _⟩ | ⟨j, _, hj, he⟩⟩ := hr.r
      · exact ⟨rfl, Lib.hid (hbx.trans (hr.b.mono hbx.size))⟩
      · exact absurd he (Lr.find_none.1 hf _ (List.getElem_mem hj))
    have K := Lib.hid kf2
    clear kf kf2 h hf hgd hl hbx
    go_enter Try.func20, Try.ntmps20
    go_wp2_with (go_at_call 31; (with_reducible refine K.out.mono ?_); rintro e wA ⟨rfl, hA⟩)
    go_ret2
    exact ⟨rfl, hA.out⟩
  | some v =>
    have kf2 := kf.mono (R' := fun e wA => ∃ (j g : Nat), e = .returned (.int .i64 (j : Int)) ∧ j < l.length ∧ a = some ⟨g, 0, none⟩ ∧ wA.cell? ⟨w.heap.size, 1, none⟩ = some (.slice a l.length cap) ∧ wA.cell? ⟨g, j * 2 + 1, none⟩ = some (.int .i64 v) ∧ Hid (Below w.heap.size w wA)) fun e wA hr => by
      obtain ⟨r, rfl, ⟨rfl, h1⟩ | ⟨j, rfl, hj, he⟩⟩ := hr.r
      · rw [Lr.find_none.2 h1] at hf; cases hf
      · have hb := hbx.trans (hr.b.mono hbx.size)
        obtain ⟨g, ha, hg, hc⟩ := things_at (h.below hb) (by omega)
        have hv := Lr.find_at hgd hj
        rw [he, hf] at hv
        have hv2 : v = l[j].2 := by simpa using hv
        refine ⟨j, g, rfl, hj, ha, (hr.b.cell (p := ⟨w.heap.size, 1, none⟩) (alloc_lt _ _)).trans (World.cell?_alloc_at _ _ _ 1 rfl), by rw [hv2]; exact (hc j hj).2, Lib.hid hb⟩
    have K := Lib.hid kf2
    clear kf kf2 h hf hgd hl hbx
    go_enter Try.func20, Try.ntmps20
    go_wp2_with (go_at_call 31; (with_reducible refine K.out.mono ?_); rintro e wA ⟨j, g, rfl, hj, rfl, c1, c2, hA⟩)
    go_ret2
    exact ⟨rfl, hA.out⟩

set_option maxRecDepth 100000 in
set_option maxHeartbeats 1000000 in
theorem refKeysC (room : Int) (a : Option Addr) (cap : Nat) (l : List Lr.E) (w : World) (hl : l.length ≤ 1000000) (h : eltT.Flat w a l) :
    Calls Try.prog 11 #[.agg #[.int .i64 room, .slice a l.length cap]] w (RetStrs (Lr.keys l) w) := by
  obtain ⟨W1, hW1⟩ : ∃ W1, W1 = w.alloc (.cells #[.int .i64 room, .slice a l.length cap] 29) := ⟨_, rfl⟩
  have hb1 : Below w.heap.size w W1 := by rw [hW1]; exact (Below.refl _ _).alloc (Nat.le_refl _) _
  have hq : W1.heap[w.heap.size]? = some (.cells #[.int .i64 room, .slice a l.length cap] 29) := by rw [hW1]; exact heap_alloc_new _ _
  have hz1 : W1.heap.size = w.heap.size + 1 := by rw [hW1]; simp
  have hrow0 : eltS.Row (W1.alloc (.cells #[] 9)) (w.heap.size + 1) (.slice (some ⟨w.heap.size + 1, 0, none⟩) 0 0) [] := by
    have := Elt.Row.lit (E := eltS) W1 (w.heap.size + 1) (by omega)
    rwa [hz1] at this
  have hb2 : Below (w.heap.size + 1) W1 (W1.alloc (.cells #[] 9)) := (Below.refl _ _).alloc (by omega) _
  have HB1 := Lib.hid hb1
  have HQ := Lib.hid hq
  have HZ := Lib.hid hz1
  have HROW0 := Lib.hid hrow0
  have HB2 := Lib.hid hb2
  have HV := Lib.hid h
  rw [hW1] at HROW0 HB2
  clear hb1 hq hz1 hrow0 hb2 h
  go_enter Try.func11, Try.ntmps11
  go_wp2
  go_loopw [3, 4] (fun u s wr => ∃ k : Nat, k ≤ l.length ∧ s = .int .i64 (k : Int) ∧ Hid (eltS.Row wr (w.heap.size + 1) u (Lr.keys (l.take k))) ∧ Hid (Below (w.heap.size + 1) W1 wr)) (fun _ s _ => l.length - (intOf s).toNat)
  case atStart => exact ⟨0, Nat.zero_le _, rfl, HROW0, by rw [← hW1] at HB2 ⊢; exact HB2⟩
  case round =>
    obtain ⟨k, hk, rfl, hrow, hb⟩ := hrel
    clear HROW0 HB2 hW1
    obtain ⟨a', c', rfl⟩ := hrow.out.slice
    have hcw := (hb.out.block w.heap.size (by omega)).trans HQ.out
    have c1 : wr.cell? ⟨w.heap.size, 1, none⟩ = some (.slice a l.length cap) := by rw [cell_of_row wr _ _ _ _ _ hcw]; rfl
    have hb0 : w.heap.size + 1 ≤ wr.heap.size := by have := hb.out.size; have := HZ.out; omega
    have hlen : (Lr.keys (l.take k)).length = k := by simp [Lr.keys]; omega
    by_cases hlt : k < l.length
    · obtain ⟨g, rfl, hg, hc⟩ := things_at HV.out (by omega)
      have hbw : Below w.heap.size w wr := HB1.out.trans (hb.out.mono (by omega))
      have d0 := (hbw.cell (p := ⟨g, k * 2, none⟩) hg).trans (hc k hlt).1
      have hsn : Lr.keys (l.take (k + 1)) = Lr.keys (l.take k) ++ [l[k].1] := by
        rw [List.take_add_one, List.getElem?_eq_getElem hlt]; unfold Lr.keys; rw [List.map_append]; rfl
      have HSN := Lib.hid hsn
      have HLEN := Lib.hid hlen
      clear hc hcw hbw hsn
      generalize l[k].1 = x at *
      generalize Lr.keys (l.take k) = m at *
      have hle : m.length ≤ 1000000 := by omega
      clear hlen
      go_wp2_with (at_builtin; (refine eltS.wpApp wr rfl _ _ rfl (w.heap.size + 1) (.slice a' m.length c') m rfl hrow.out #[.string x] _ rfl x rfl (by omega) hb0 ?_); intro v' w2 hown hb2 hkeep hlies)
      have hrow2 := Lib.hid (show eltS.Row w2 (w.heap.size + 1) v' (Lr.keys (l.take (k + 1))) by rw [HSN.out]; exact hown)
      go_roundw
      case rel => exact ⟨k + 1, by omega, by go_num, hrow2, Lib.hid (hb.out.trans hb2)⟩
      case measure => simp [intOf]; omega
    · obtain rfl : k = l.length := by omega
      rw [List.take_length] at hrow
      have hbw := Lib.hid (HB1.out.trans (hb.out.mono (by omega)))
      have HR := Lib.hid (Elt.Row.base hrow.out (Nat.le_succ w.heap.size))
      clear hcw hrow hlen
      go_wp2
      go_ret
      exact ⟨⟨_, rfl, by simpa using HR.out⟩, hbw.out⟩
end Go.Proofs.Ytmofjplojlobiaa
