/-
  The document's queue: Find, Cost, Same.
  The document's queue: Push, Drop.
-/
import Derived.Test.YtgeoebodlcbebaaFifoQ
namespace Ff
/-- the place of a number, or -1 -/
def place (l : List E) (id : Int) : Int := if has l id then (l.findIdx (fun e => e.1 == id) : Int) else -1
theorem place_no {l : List E} {id : Int} (h : ∀ e ∈ l, e.1 ≠ id) : place l id = -1 := by
  unfold place
  rw [has_no.2 h]
  simp
theorem place_yes {l : List E} {id : Int} {j : Nat} (hj : j < l.length) (h : l[j].1 = id) (hn : ∀ p (h : p < l.length), p < j → l[p].1 ≠ id) : place l id = (j : Int) := by
  have h1 : has l id = true := by
    unfold has
    rw [List.any_eq_true]
    exact ⟨l[j], List.getElem_mem hj, by simpa using h⟩
  unfold place
  rw [h1, if_pos rfl]
  congr 1
  rw [List.findIdx_eq hj]
  exact ⟨by simpa using h, fun p hp => by simpa using hn p (by omega) hp⟩
theorem place_ge (l : List E) (id : Int) : (0 ≤ place l id) ↔ has l id = true := by
  unfold place
  split
  · rename_i h; simp [h]
  · rename_i h; simp [h]
theorem cost_take {l : List E} {k : Nat} (h : k < l.length) : cost (l.take (k + 1)) = cost (l.take k) + l[k].2 := by
  rw [List.take_add_one, List.getElem?_eq_getElem h, Option.toList_some, cost_append]
  simp [cost]
end Ff
namespace Go.Proofs.Ytgeoebodlcbebaa
open Go.RowKit
set_option linter.unusedVariables false

theorem items_at {w : World} {a : Option Addr} {l : List Ff.E} (h : eltI.View w a l) (h0 : 0 < l.length) : ∃ g off, a = some ⟨g, off, none⟩ ∧ g < w.heap.size ∧ ∀ j (hj : j < l.length), w.cell? ⟨g, off + j * 2, none⟩ = some (.int .i64 l[j].1) ∧ w.cell? ⟨g, off + j * 2 + 1, none⟩ = some (.int .i64 l[j].2) := by
  obtain ⟨g, off, ha, hg, hc⟩ := h.is h0
  exact ⟨g, off, ha, hg, fun j hj => ⟨hc j hj 0 _ rfl, hc j hj 1 _ rfl⟩⟩
set_option maxRecDepth 100000 in
set_option maxHeartbeats 1000000 in
theorem refFindC (id : Int) (a : Option Addr) (cap : Nat) (l : List Ff.E) (w : World) (hl : l.length ≤ 1000000) (h : eltI.View w a l) :
    Calls Try.prog 53 #[.slice a l.length cap, .int .i64 id] w (Same (.int .i64 (Ff.place l id)) w) := by
  have HV := Lib.hid h; clear h
  go_enter Try.func53, Try.ntmps53
  go_wp2
  go_loop [5] (fun s => ∃ j : Nat, j ≤ l.length ∧ s = .int .i64 (j : Int) ∧ Hid (∀ p (h : p < l.length), p < j → l[p].1 ≠ id)) (fun s => l.length - (intOf s).toNat)
  case atStart => exact ⟨0, by omega, rfl, Lib.hid (fun p h h2 => by omega)⟩
  case round =>
    obtain ⟨j, hj, rfl, hn⟩ := hrel
    by_cases hlt : j < l.length
    · obtain ⟨g, off, rfl, hg, hc⟩ := items_at HV.out (by omega)
      obtain ⟨c0, _⟩ := hc j hlt
      have hnx : l[j].1 ≠ id → ∀ p (h : p < l.length), p < j + 1 → l[p].1 ≠ id := fun hne p h h2 => by
        by_cases e : p = j
        · subst e; exact hne
        · exact hn.out p h (by omega)
      have hyes : l[j].1 = id → Ff.place l id = (j : Int) := fun he => Ff.place_yes hlt he hn.out
      have HN := Lib.hid hnx
      have HY := Lib.hid hyes
      clear hc hnx hyes hn
      generalize l[j].1 = x at *
      by_cases e1 : x = id
      · have H := Lib.hid (HY.out e1)
        have t1 : (id == id) = true := by simp
        subst e1
        clear HN HY
        go_wp2
        go_ret
        exact ⟨by rw [H.out]; rfl, rfl⟩
      · have t1 : (x == id) = false := by simpa using e1
        have H := Lib.hid (HN.out e1)
        clear e1 HN HY
        go_wp2
        go_round
        case rel => exact ⟨j + 1, by omega, by go_num, H⟩
        case measure => simp [intOf]; omega
    · obtain rfl : j = l.length := by omega
      have H : Hid (Ff.place l id = -1) := Lib.hid (Ff.place_no (fun x hx => by
        obtain ⟨p, hp, rfl⟩ := List.getElem_of_mem hx
        exact hn.out p hp hp))
      go_wp2
      go_ret
      exact ⟨by rw [H.out]; rfl, rfl⟩
set_option maxRecDepth 100000 in
set_option maxHeartbeats 1000000 in
theorem refSameC (a b : Option Addr) (ca cb : Nat) (l : List Ff.E) (w : World) (hl : l.length ≤ 1000000) (ha : eltI.View w a l) (hb : eltI.View w b l) :
    Calls Try.prog 54 #[.slice a l.length ca, .slice b l.length cb] w (Ret (.bool true) w) := by
  have HA := Lib.hid ha
  have HB := Lib.hid hb
  clear ha hb
  go_enter Try.func54, Try.ntmps54
  go_wp2
  go_loopw [5] (fun s wr => ∃ j : Nat, j ≤ l.length ∧ s = .int .i64 (j : Int) ∧ Hid (Below w.heap.size w wr)) (fun s _ => l.length - (intOf s).toNat)
  case atStart => exact ⟨0, by omega, rfl, Lib.hid (Below.refl _ _)⟩
  case round =>
    obtain ⟨j, hj, rfl, hn⟩ := hrel
    by_cases hlt : j < l.length
    · obtain ⟨g, off, rfl, hg, hc⟩ := items_at HA.out (by omega)
      obtain ⟨g2, off2, rfl, hg2, hc2⟩ := items_at HB.out (by omega)
      have d0 := (hn.out.cell (p := ⟨g, off + j * 2, none⟩) hg).trans (hc j hlt).1
      have d1 := (hn.out.cell (p := ⟨g, off + j * 2 + 1, none⟩) hg).trans (hc j hlt).2
      have d2 := (hn.out.cell (p := ⟨g2, off2 + j * 2, none⟩) hg2).trans (hc2 j hlt).1
      have d3 := (hn.out.cell (p := ⟨g2, off2 + j * 2 + 1, none⟩) hg2).trans (hc2 j hlt).2
      clear hc hc2
      generalize l[j].1 = x at *
      generalize l[j].2 = y at *
      have HD := Lib.hid (fun q => below_drewN hn.out q)
      go_wp2
      go_quiet (fail)
      go_wp2
      go_roundw
      case rel => exact ⟨j + 1, by omega, by go_num, Lib.hid (HD.out _)⟩
      case measure => simp [intOf]; omega
    · obtain rfl : j = l.length := by omega
      go_wp2
      go_ret
      exact ⟨rfl, hn.out⟩
end Go.Proofs.Ytgeoebodlcbebaa

namespace Ff
theorem drop_take {l : List E} {k : Nat} (h : k < l.length) (id : Int) : drop (l.take (k + 1)) id = if l[k].1 = id then drop (l.take k) id else drop (l.take k) id ++ [l[k]] := by
  unfold drop
  rw [List.take_add_one, List.getElem?_eq_getElem h]
  simp only [Option.toList_some, List.filter_append, List.filter_cons, List.filter_nil]
  split
  · rename_i h1; simp at h1; rw [if_neg h1]
  · rename_i h1; simp at h1; rw [if_pos h1]; simp
end Ff
namespace Go.Proofs.Ytgeoebodlcbebaa
open Go.RowKit
set_option linter.unusedVariables false

/-- a list's slice in the world: as it was, or of new blocks -/
def NewS (w : World) (a a' : Option Addr) : Prop := ∀ g off, a' = some ⟨g, off, none⟩ → a' = a ∨ w.heap.size ≤ g
set_option maxRecDepth 100000 in
set_option maxHeartbeats 1000000 in
theorem refPushBad (id co : Int) (a : Option Addr) (cap : Nat) (l : List Ff.E) (w : World) (hb : Ff.bad id co = true) :
    Calls Try.prog 50 #[.slice a l.length cap, .agg #[.int .i64 id, .int .i64 co]] w (Ret (.tuple #[.slice a l.length cap, .int .i64 1]) w) := by
  generalize l.length = N at *
  by_cases h1 : id < 1
  · have t1 : decide (id < 1) = true := decide_eq_true h1
    clear hb h1
    go_enter Try.func50, Try.ntmps50
    go_wp2
    go_ret2
    exact ⟨rfl, (Below.refl _ _).alloc (Nat.le_refl _) _⟩
  · have t1 : decide (id < 1) = false := decide_eq_false h1
    by_cases h2 : co < 1
    · have t2 : decide (co < 1) = true := decide_eq_true h2
      clear hb h1 h2
      go_enter Try.func50, Try.ntmps50
      go_wp2
      go_ret2
      exact ⟨rfl, (Below.refl _ _).alloc (Nat.le_refl _) _⟩
    · have t2 : decide (co < 1) = false := decide_eq_false h2
      have h3 : 64 < co := by simpa [Ff.bad, t1, t2] using hb
      have t3 : decide (64 < co) = true := decide_eq_true h3
      clear hb h1 h2 h3
      go_enter Try.func50, Try.ntmps50
      go_wp2
      go_ret2
      exact ⟨rfl, (Below.refl _ _).alloc (Nat.le_refl _) _⟩
set_option maxRecDepth 100000 in
set_option maxHeartbeats 1000000 in
theorem refPushThere (id co : Int) (a : Option Addr) (cap : Nat) (l : List Ff.E) (w : World) (hl : l.length ≤ 1000000) (h : eltI.View w a l) (hb : Ff.bad id co = false) (hh : Ff.has l id = true) :
    Calls Try.prog 50 #[.slice a l.length cap, .agg #[.int .i64 id, .int .i64 co]] w (Ret (.tuple #[.slice a l.length cap, .int .i64 8]) w) := by
  have hbx := (Below.refl w.heap.size w).alloc (Nat.le_refl _) (itO id co)
  have K := Lib.hid (refFindC id a cap l _ hl (h.below hbx))
  obtain ⟨b1, b2, b3⟩ := Ff.bad_no hb
  have t1 : decide (id < 1) = false := decide_eq_false (by omega)
  have t2 : decide (co < 1) = false := decide_eq_false (by omega)
  have t3 : decide (64 < co) = false := decide_eq_false (by omega)
  have t4 : decide (Ff.place l id ≥ 0) = true := decide_eq_true ((Ff.place_ge l id).2 hh)
  generalize Ff.place l id = p at *
  generalize l.length = N at *
  clear h hb hh hbx b1 b2 b3
  go_enter Try.func50, Try.ntmps50
  go_wp2_with (go_at_call 53; (with_reducible refine K.out.mono ?_); rintro e wA ⟨rfl, rfl⟩)
  go_ret2
  exact ⟨rfl, (Below.refl _ _).alloc (Nat.le_refl _) _⟩
/-- a row of new blocks, and a number -/
structure RetP (l' : List Ff.E) (e0 : Int) (w : World) (e : Ending) (w' : World) : Prop where
  s : ∃ a' cap', e = .returned (.tuple #[.slice a' l'.length cap', .int .i64 e0]) ∧ eltI.Row w' w.heap.size (.slice a' l'.length cap') l'
  b : Below w.heap.size w w'
set_option maxRecDepth 100000 in
set_option maxHeartbeats 4000000 in
theorem refPushNew (id co : Int) (a : Option Addr) (cap : Nat) (l : List Ff.E) (w : World) (hl : l.length ≤ 100000) (ha : a = none → cap = 0) (h : eltI.View w a l) (hb : Ff.bad id co = false) (hh : Ff.has l id = false) :
    Calls Try.prog 50 #[.slice a l.length cap, .agg #[.int .i64 id, .int .i64 co]] w (RetP (l ++ [(id, co)]) 0 w) := by
  have hbx := (Below.refl w.heap.size w).alloc (Nat.le_refl _) (itO id co)
  have hv := h.below hbx
  have K := Lib.hid (refFindC id a cap l _ (by omega) hv)
  obtain ⟨b1, b2, b3⟩ := Ff.bad_no hb
  have t1 : decide (id < 1) = false := decide_eq_false (by omega)
  have t2 : decide (co < 1) = false := decide_eq_false (by omega)
  have t3 : decide (64 < co) = false := decide_eq_false (by omega)
  have t4 : decide (Ff.place l id ≥ 0) = false := decide_eq_false (fun e => by rw [(Ff.place_ge l id).1 e] at hh; cases hh)
  generalize Ff.place l id = p at *
  obtain ⟨w1, hw1⟩ : ∃ w1, w1 = w.alloc (itO id co) := ⟨_, rfl⟩
  have hX : w1.heap[w.heap.size]? = some (itO id co) := by rw [hw1]; exact heap_alloc_new _ _
  have hz1 : w1.heap.size = w.heap.size + 1 := by rw [hw1]; simp
  rw [← hw1] at hbx hv
  have hrow0 : eltI.Row (w1.alloc (.cells #[] 48)) (w.heap.size + 1) (.slice (some ⟨w.heap.size + 1, 0, none⟩) 0 0) [] := by
    have := Elt.Row.lit (E := eltI) w1 (w.heap.size + 1) (by omega)
    rwa [hz1] at this
  have hb2 : Below (w.heap.size + 1) w1 (w1.alloc (.cells #[] 48)) := (Below.refl _ _).alloc (by omega) _
  have hv2 := hv.below (hb2.mono (by omega))
  have HROW := Lib.hid hrow0
  have HB2 := Lib.hid hb2
  have HV := Lib.hid hv2
  have HX := Lib.hid hX
  have HZ := Lib.hid hz1
  have HB := Lib.hid hbx
  have HA := Lib.hid ha
  rw [hw1] at HROW HB2 HV
  have HXX := Lib.hid (fun W (hW : Below (w.heap.size + 1) (w1.alloc (.cells #[] 48)) W) => by
    have hb4 := hb2.trans (hW.mono (Nat.le_refl _))
    have hx := (hb4.block w.heap.size (by omega)).trans hX
    exact (show W.cell? ⟨w.heap.size, 0, none⟩ = some (.int .i64 id) ∧ W.cell? ⟨w.heap.size, 1, none⟩ = some (.int .i64 co) ∧ Hid (Below (w.heap.size + 1) w1 W ∧ w.heap.size + 1 ≤ W.heap.size) from ⟨by rw [cell_of_row _ _ _ _ _ _ hx]; rfl, by rw [cell_of_row _ _ _ _ _ _ hx]; rfl, Lib.hid ⟨hb4, by have := hb4.size; omega⟩⟩))
  have HXX2 : Hid (∀ W, Below (w.heap.size + 1) ((w.alloc (itO id co)).alloc (.cells #[] 48)) W → W.cell? ⟨w.heap.size, 0, none⟩ = some (.int .i64 id) ∧ W.cell? ⟨w.heap.size, 1, none⟩ = some (.int .i64 co) ∧ Hid (Below (w.heap.size + 1) w1 W ∧ w.heap.size + 1 ≤ W.heap.size)) := Lib.hid (by rw [← hw1]; exact HXX.out)
  clear HXX
  have HW := Lib.hid hw1
  clear h hb hh hbx b1 b2 b3 hX hv hz1 hrow0 hb2 hv2 ha hw1
  go_enter Try.func50, Try.ntmps50
  go_wp2_with (first | (go_at_call 53; (with_reducible refine K.out.mono ?_); rintro e wA ⟨rfl, rfl⟩) | (at_builtin; (refine eltI.wpAppS _ rfl _ _ rfl (w.heap.size + 1) (.slice (some ⟨w.heap.size + 1, 0, none⟩) 0 0) [] rfl HROW.out (by simp) a l cap rfl HA.out HV.out (by simp; omega) (by simp) ?_); intro v2 w2 hne2 hrow2 hb3 hkeep2 hlies2; rw [List.nil_append] at hrow2; obtain ⟨y0, y1, HB3⟩ := HXX2.out w2 hb3; obtain ⟨a2, cap2, rfl⟩ := hrow2.slice; have HR2 := Lib.hid hrow2; clear hne2 hrow2 hb3 hkeep2 hlies2) | (at_builtin; (refine eltI.wpApp w2 rfl _ _ rfl (w.heap.size + 1) (.slice a2 l.length cap2) l rfl HR2.out #[.int .i64 id, .int .i64 co] _ rfl (id, co) rfl (by omega) HB3.out.2 ?_); intro v3 w3 hrow3 hb3 hkeep3 hlies3; have HR3 := Lib.hid hrow3; have HBB := Lib.hid (HB3.out.1.trans hb3); clear hrow3 hb3 hkeep3 hlies3))
  go_ret2
  obtain ⟨a3, cap3, rfl⟩ := HR3.out.slice
  exact ⟨⟨a3, cap3, rfl, HR3.out.base (Nat.le_succ _)⟩, HB.out.trans (HBB.out.mono (Nat.le_succ _))⟩
/-- a row of new blocks -/
structure RetN (l' : List Ff.E) (w : World) (e : Ending) (w' : World) : Prop where
  s : ∃ a' cap', e = .returned (.slice a' l'.length cap') ∧ eltI.Row w' w.heap.size (.slice a' l'.length cap') l'
  b : Below w.heap.size w w'
set_option maxRecDepth 100000 in
set_option maxHeartbeats 4000000 in
theorem refDropC (id : Int) (a : Option Addr) (cap : Nat) (l : List Ff.E) (w : World) (hl : l.length ≤ 100000) (h : eltI.View w a l) :
    Calls Try.prog 52 #[.slice a l.length cap, .int .i64 id] w (RetN (Ff.drop l id) w) := by
  have hrow0 : eltI.Row (w.alloc (.cells #[] 48)) w.heap.size (.slice (some ⟨w.heap.size, 0, none⟩) 0 0) [] := Elt.Row.lit w w.heap.size (Nat.le_refl _)
  have hb2 : Below w.heap.size w (w.alloc (.cells #[] 48)) := (Below.refl _ _).alloc (Nat.le_refl _) _
  have HROW := Lib.hid hrow0
  have HB := Lib.hid hb2
  have HV := Lib.hid h
  clear hrow0 hb2 h
  go_enter Try.func52, Try.ntmps52
  go_wp2
  go_loopw [5, 6] (fun u s wr => ∃ k : Nat, k ≤ l.length ∧ s = .int .i64 (k : Int) ∧ Hid (eltI.Row wr w.heap.size u (Ff.drop (l.take k) id)) ∧ Hid (Below w.heap.size w wr)) (fun _ s _ => l.length - (intOf s).toNat)
  case atStart => exact ⟨0, Nat.zero_le _, rfl, HROW, HB⟩
  case round =>
    obtain ⟨k, hk, rfl, hrow, hb⟩ := hrel
    clear HROW HB
    obtain ⟨a', c', rfl⟩ := hrow.out.slice
    have hB := hb.out.size
    have hlen : (Ff.drop (l.take k) id).length ≤ 100000 := by
      have := Ff.drop_length (l.take k) id
      have : (l.take k).length ≤ l.length := by simp; omega
      omega
    by_cases hlt : k < l.length
    · obtain ⟨g, off, rfl, hg, hc⟩ := items_at HV.out (by omega)
      have d0 := (hb.out.cell (p := ⟨g, off + k * 2, none⟩) hg).trans (hc k hlt).1
      have d1 := (hb.out.cell (p := ⟨g, off + k * 2 + 1, none⟩) hg).trans (hc k hlt).2
      have HD := Lib.hid (Ff.drop_take hlt id)
      clear hc
      by_cases he : l[k].1 = id
      · have HE : Hid (Ff.drop (l.take (k + 1)) id = Ff.drop (l.take k) id) := Lib.hid (by rw [HD.out, if_pos he])
        rw [he] at d0
        clear he HD
        generalize l[k].2 = y at *
        generalize Ff.drop (l.take k) id = m at *
        have t1 : (id != id) = false := by simp
        go_wp2
        go_roundw
        case rel => exact ⟨k + 1, by omega, by go_num, by rw [HE.out]; exact hrow, hb⟩
        case measure => simp [intOf]; omega
      · have HE : Hid (Ff.drop (l.take (k + 1)) id = Ff.drop (l.take k) id ++ [l[k]]) := Lib.hid (by rw [HD.out, if_neg he])
        have t1 : (l[k].1 != id) = true := by simpa using he
        clear he HD
        generalize l[k] = x at *
        obtain ⟨x1, x2⟩ := x
        simp only at d0 d1 t1
        generalize Ff.drop (l.take k) id = m at *
        go_wp2_with (at_builtin; (refine eltI.wpApp wr rfl _ _ rfl w.heap.size (.slice a' m.length c') m rfl hrow.out #[.int .i64 x1, .int .i64 x2] _ rfl (x1, x2) rfl (by omega) hB ?_); intro v' w2 hown hb2 hkeep hlies; have HR2 := Lib.hid hown; have HBB := Lib.hid (hb.out.trans hb2); clear hown hb2 hkeep hlies)
        go_roundw
        case rel => exact ⟨k + 1, by omega, by go_num, by rw [HE.out]; exact HR2, HBB⟩
        case measure => simp [intOf]; omega
    · obtain rfl : k = l.length := by omega
      rw [List.take_length] at *
      generalize Ff.drop l id = m at *
      go_wp2
      go_ret
      exact ⟨⟨a', c', rfl, hrow.out⟩, hb.out⟩
end Go.Proofs.Ytgeoebodlcbebaa
