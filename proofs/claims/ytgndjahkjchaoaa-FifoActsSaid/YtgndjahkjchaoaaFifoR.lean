/-
  The document's queue: Find, Cost, Same.
-/
import Derived.Test.YtgndjahkjchaoaaFifoG
namespace Ff
/-- the place of a number, or -1 -/
def place (l : List E) (id : Int) : Int := if has l id then (l.findIdx (fun e => e.1 == id) : Int) else -1
theorem place_no {l : List E} {id : Int} (h : ∀ e ∈ l, e.1 ≠ id) : place l id = -1 := by
  unfold place
  rw [has_no.2 h]
  simp
theorem place_yes {l : List E} {id : Int} {j : Nat} (hj : j < l.length) (h : l[j].1 = id) (hn : ∀ p (h : p < l.length), p < j → l[p].1 ≠ id) : place l id = (j : Int) := by
  have h1 : has l id = true := by
    unfold has
    rw [List.any_eq_true]
    exact ⟨l[j], List.getElem_mem hj, by simpa using h⟩
  unfold place
  rw [h1, if_pos rfl]
  congr 1
  rw [List.findIdx_eq hj]
  exact ⟨by simpa using h, fun p hp => by simpa using hn p (by omega) hp⟩
theorem place_ge (l : List E) (id : Int) : (0 ≤ place l id) ↔ has l id = true := by
  unfold place
  split
  · rename_i h; simp [h]
  · rename_i h; simp [h]
theorem cost_take {l : List E} {k : Nat} (h : k < l.length) : cost (l.take (k + 1)) = cost (l.take k) + l[k].2 := by
  rw [List.take_add_one, List.getElem?_eq_getElem h, Option.toList_some, cost_append]
  simp [cost]
end Ff
namespace Go.Proofs.Ytgndjahkjchaoaa
open Go.RowKit
set_option linter.unusedVariables false

theorem items_at {w : World} {a : Option Addr} {l : List Ff.E} (h : eltI.View w a l) (h0 : 0 < l.length) : ∃ g off, a = some ⟨g, off, none⟩ ∧ g < w.heap.size ∧ ∀ j (hj : j < l.length), w.cell? ⟨g, off + j * 2, none⟩ = some (.int .i64 l[j].1) ∧ w.cell? ⟨g, off + j * 2 + 1, none⟩ = some (.int .i64 l[j].2) := by
  obtain ⟨g, off, ha, hg, hc⟩ := h.is h0
  exact ⟨g, off, ha, hg, fun j hj => ⟨hc j hj 0 _ rfl, hc j hj 1 _ rfl⟩⟩
set_option maxRecDepth 100000 in
set_option maxHeartbeats 1000000 in
theorem refFindC (id : Int) (a : Option Addr) (cap : Nat) (l : List Ff.E) (w : World) (hl : l.length ≤ 1000000) (h : eltI.View w a l) :
    Calls Try.prog 12 #[.slice a l.length cap, .int .i64 id] w (Same (.int .i64 (Ff.place l id)) w) := by
  have HV := Lib.hid h; clear h
  go_enter Try.func12, Try.ntmps12
  go_wp2
  go_loop [5] (fun s => ∃ j : Nat, j ≤ l.length ∧ s = .int .i64 (j : Int) ∧ Hid (∀ p (h : p < l.length), p < j → l[p].1 ≠ id)) (fun s => l.length - (intOf s).toNat)
  case atStart => exact ⟨0, by omega, rfl, Lib.hid (fun p h h2 => by omega)⟩
  case round =>
    obtain ⟨j, hj, rfl, hn⟩ := hrel
    by_cases hlt : j < l.length
    · obtain ⟨g, off, rfl, hg, hc⟩ := items_at HV.out (by omega)
      obtain ⟨c0, _⟩ := hc j hlt
      have hnx : l[j].1 ≠ id → ∀ p (h : p < l.length), p < j + 1 → l[p].1 ≠ id := fun hne p h h2 => by
        by_cases e : p = j
        · subst e; exact hne
        · exact hn.out p h (by omega)
      have hyes : l[j].1 = id → Ff.place l id = (j : Int) := fun he => Ff.place_yes hlt he hn.out
      have HN := Lib.hid hnx
      have HY := Lib.hid hyes
      clear hc hnx hyes hn
      generalize l[j].1 = x at *
      by_cases e1 : x = id
      · have H := Lib.hid (HY.out e1)
        have t1 : (id == id) = true := by simp
        subst e1
        clear HN HY
        go_wp2
        go_ret
        exact ⟨by rw [H.out]; rfl, rfl⟩
      · have t1 : (x == id) = false := by simpa using e1
        have H := Lib.hid (HN.out e1)
        clear e1 HN HY
        go_wp2
        go_round
        case rel => exact ⟨j + 1, by omega, by go_num, H⟩
        case measure => simp [intOf]; omega
    · obtain rfl : j = l.length := by omega
      have H : Hid (Ff.place l id = -1) := Lib.hid (Ff.place_no (fun x hx => by
        obtain ⟨p, hp, rfl⟩ := List.getElem_of_mem hx
        exact hn.out p hp hp))
      go_wp2
      go_ret
      exact ⟨by rw [H.out]; rfl, rfl⟩
set_option maxRecDepth 100000 in
set_option maxHeartbeats 1000000 in
theorem refCostC (a : Option Addr) (cap : Nat) (l : List Ff.E) (w : World) (hl : l.length ≤ 1000000) (hg : Ff.Good l) (h : eltI.View w a l) :
    Calls Try.prog 19 #[.slice a l.length cap] w (Same (.int .i64 (Ff.cost l)) w) := by
  have HV := Lib.hid h; clear h
  have HG := Lib.hid hg; clear hg
  go_enter Try.func19, Try.ntmps19
  go_wp2
  go_loop [3, 4] (fun s i => ∃ j : Nat, j ≤ l.length ∧ i = .int .i64 (j : Int) ∧ s = .int .i64 (Ff.cost (l.take j))) (fun _ i => l.length - (intOf i).toNat)
  case atStart => exact ⟨0, by omega, rfl, rfl⟩
  case round =>
    obtain ⟨j, hj, rfl, rfl⟩ := hrel
    by_cases hlt : j < l.length
    · obtain ⟨g, off, rfl, hgl, hc⟩ := items_at HV.out (by omega)
      obtain ⟨_, c1⟩ := hc j hlt
      have hs := Ff.cost_take hlt
      have hb := Ff.cost_bound (l := l.take j) (fun e he => HG.out.co e (List.mem_of_mem_take he))
      have hx := HG.out.co l[j] (List.getElem_mem hlt)
      have hlen : (((l.take j).length : Nat) : Int) ≤ 1000000 := by simp; omega
      have hb1 := hb.1
      have hb2 : Ff.cost (l.take j) ≤ 64000000 := by omega
      have hx1 := hx.1
      have hx2 := hx.2
      have HS := Lib.hid hs
      clear hc hs hb hlen hx
      generalize l[j].2 = x at *
      generalize Ff.cost (l.take j) = y at *
      go_wp2
      go_round
      case rel => exact ⟨j + 1, by omega, by go_num, by rw [HS.out]⟩
      case measure => simp [intOf]; omega
    · obtain rfl : j = l.length := by omega
      rw [List.take_length]
      go_wp2
      go_ret
      exact ⟨rfl, rfl⟩
set_option maxRecDepth 100000 in
set_option maxHeartbeats 1000000 in
theorem refSameC (a b : Option Addr) (ca cb : Nat) (l : List Ff.E) (w : World) (hl : l.length ≤ 1000000) (ha : eltI.View w a l) (hb : eltI.View w b l) :
    Calls Try.prog 15 #[.slice a l.length ca, .slice b l.length cb] w (Ret (.bool true) w) := by
  have HA := Lib.hid ha
  have HB := Lib.hid hb
  clear ha hb
  go_enter Try.func15, Try.ntmps15
  go_wp2
  go_loopw [5] (fun s wr => ∃ j : Nat, j ≤ l.length ∧ s = .int .i64 (j : Int) ∧ Hid (Below w.heap.size w wr)) (fun s _ => l.length - (intOf s).toNat)
  case atStart => exact ⟨0, by omega, rfl, Lib.hid (Below.refl _ _)⟩
  case round =>
    obtain ⟨j, hj, rfl, hn⟩ := hrel
    by_cases hlt : j < l.length
    · obtain ⟨g, off, rfl, hg, hc⟩ := items_at HA.out (by omega)
      obtain ⟨g2, off2, rfl, hg2, hc2⟩ := items_at HB.out (by omega)
      have d0 := (hn.out.cell (p := ⟨g, off + j * 2, none⟩) hg).trans (hc j hlt).1
      have d1 := (hn.out.cell (p := ⟨g, off + j * 2 + 1, none⟩) hg).trans (hc j hlt).2
      have d2 := (hn.out.cell (p := ⟨g2, off2 + j * 2, none⟩) hg2).trans (hc2 j hlt).1
      have d3 := (hn.out.cell (p := ⟨g2, off2 + j * 2 + 1, none⟩) hg2).trans (hc2 j hlt).2
      clear hc hc2
      generalize l[j].1 = x at *
      generalize l[j].2 = y at *
      have HD := Lib.hid (fun q => below_drewN hn.out q)
      go_wp2
      go_quiet (fail)
      go_wp2
      go_roundw
      case rel => exact ⟨j + 1, by omega, by go_num, Lib.hid (HD.out _)⟩
      case measure => simp [intOf]; omega
    · obtain rfl : j = l.length := by omega
      go_wp2
      go_ret
      exact ⟨rfl, hn.out⟩
end Go.Proofs.Ytgndjahkjchaoaa
