/-
  The document's Show, least; the statements' same, num.
-/
import Derived.Test.YtmfnfjcoaijjdaaDoorPropD
import Derived.BigRegion
import Derived.BigQuiet
namespace Go.Proofs.YtmfnfjcoaijjdaaDoor
open Go.RowKit
set_option linter.unusedVariables false

theorem numC (x : Int) (w : World) : Calls Tryd.prog 11 #[.int .i64 x] w (Same (.int .i64 x) w) := by
  go_enter Tryd.func11, Tryd.ntmps11
  go_wp2
  go_ret
  exact ⟨rfl, rfl⟩

theorem drew_below (w : World) : Below w.heap.size w w.drew := (Below.refl _ _).drew

set_option maxHeartbeats 4000000 in
set_option maxRecDepth 100000 in
theorem refShowC (a : Option Addr) (cap : Nat) (l : List Pr.Pair) (w : World) (hV : View w a l) (hl : l.length ≤ 1000000) (hL : (Pr.showL l).length ≤ 1000000000) :
    Calls Tryd.prog 26 #[.slice a l.length cap] w (Ret (.string (mk (Pr.showL l))) w) := by
  have hgo := Pr.showGo_true l
  generalize Pr.showL l = R at *
  have HV := Lib.hid hV; clear hV
  go_enter Tryd.func26, Tryd.ntmps26
  go_wp2
  go_loopw [3, 4] (fun s i wr => ∃ (x : Pr.B) (k : Nat), k ≤ l.length ∧ i = .int .i64 (k : Int) ∧ s = .string (mk x) ∧ Below w.heap.size w wr ∧ Hid (x ++ Pr.showGo (decide (k = 0)) (l.drop k) = R)) (fun _ i _ => l.length - (intOf i).toNat)
  case atStart => exact ⟨[], 0, by omega, rfl, rfl, Below.refl _ _, Lib.hid (by simpa using hgo)⟩
  case round =>
    obtain ⟨x, k, hk, rfl, rfl, hbw, hx⟩ := hrel
    by_cases hlt : k < l.length
    · obtain ⟨g, rfl, hg, hc⟩ := (HV.out.below hbw).is (by omega)
      obtain ⟨c0, c1⟩ := hc k hlt
      have hx2 := hx.out
      rw [Pr.showGo_at l k hlt] at hx2
      generalize l[k] = p at *
      have hlen := congrArg List.length hx2
      simp only [List.length_append] at hlen
      have hz := size_mk' x
      have hz1 := size_mk' p.1
      have hz2 := size_mk' p.2
      clear hc hx
      by_cases h0 : k = 0
      · subst h0
        have hx3 : (x ++ p.1 ++ [61] ++ p.2) ++ Pr.showGo (decide (0 + 1 = 0)) (l.drop (0 + 1)) = R := by rw [← hx2]; simp
        have HX := Lib.hid hx3
        clear hx2 hx3
        go_wp2
        go_region
        go_wp2
        go_roundw
        case rel => exact ⟨_, 1, by omega, by go_num, congrArg Value.string (bl_inj (by simp only [bl_append, bl_mk']; rfl)), hbw.drew, HX⟩
        case measure => simp [intOf]; omega
      · have hx3 : (x ++ [44] ++ p.1 ++ [61] ++ p.2) ++ Pr.showGo (decide (k + 1 = 0)) (l.drop (k + 1)) = R := by rw [← hx2]; simp [h0]
        have HX := Lib.hid hx3
        have hk0 : (0 : Int) < (k : Int) := by omega
        simp [h0] at hlen
        clear hx2 hx3
        go_wp2
        go_region
        go_wp2
        go_roundw
        case rel => exact ⟨_, k + 1, by omega, by go_num, congrArg Value.string (bl_inj (by simp only [bl_append, bl_mk']; rfl)), hbw.drew, HX⟩
        case measure => simp [intOf]; omega
    · obtain rfl : k = l.length := by omega
      have hR : R = x := by rw [← hx.out, List.drop_length]; simp [Pr.showGo]
      subst hR
      go_wp2
      go_ret
      exact ⟨rfl, hbw⟩

/-- it returns the place of a least key -/
structure RetLeast (l : List Pr.Pair) (w : World) (e : Ending) (w' : World) : Prop where
  r : ∃ m : Nat, e = .returned (.int .i64 (m : Int)) ∧ ∃ h : m < l.length, ∀ j (hj : j < l.length), Op.bytesLess l[j].1 l[m].1 = false
  b : Below w.heap.size w w'

theorem lessB (x y : Pr.B) : Op.bytesLess (mk x).toList (mk y).toList = Op.bytesLess x y := by rw [toList_bl, toList_bl, bl_mk', bl_mk']

set_option maxHeartbeats 4000000 in
set_option maxRecDepth 100000 in
theorem refLeastC (a : Option Addr) (cap : Nat) (l : List Pr.Pair) (w : World) (hV : View w a l) (h0 : 0 < l.length) (hl : l.length ≤ 1000000) :
    Calls Tryd.prog 25 #[.slice a l.length cap] w (RetLeast l w) := by
  have HV := Lib.hid hV; clear hV
  go_enter Tryd.func25, Tryd.ntmps25
  go_wp2
  go_loopw [3, 4] (fun m i wr => ∃ (k n : Nat), n ≤ l.length ∧ i = .int .i64 (n : Int) ∧ m = .int .i64 (k : Int) ∧ k < n ∧ Below w.heap.size w wr ∧ Hid (∃ hk : k < l.length, ∀ j (hj : j < l.length), j < n → Op.bytesLess l[j].1 l[k].1 = false)) (fun _ i _ => l.length - (intOf i).toNat)
  case atStart =>
    have hx0 : ∀ j (hj : j < l.length), j < 1 → Op.bytesLess l[j].1 l[0].1 = false := fun j hj h => by
      have e : j = 0 := by omega
      subst e
      exact Pr.bl_irrefl _
    exact ⟨0, 1, by omega, rfl, rfl, by omega, Below.refl _ _, Lib.hid ⟨h0, hx0⟩⟩
  case round =>
    obtain ⟨k, n, hn, rfl, rfl, hkn, hbw, hx⟩ := hrel
    obtain ⟨hk, hall⟩ := hx.out
    by_cases hlt : n < l.length
    · obtain ⟨g, rfl, hg, hc⟩ := (HV.out.below hbw).is (by omega)
      obtain ⟨c0, _⟩ := hc n hlt
      obtain ⟨d0, _⟩ := hc k hk
      have hb := lessB l[n].1 l[k].1
      cases hbv : Op.bytesLess l[n].1 l[k].1 with
      | true =>
        have hnew : Hid (∃ hk : n < l.length, ∀ j (hj : j < l.length), j < n + 1 → Op.bytesLess l[j].1 l[n].1 = false) := ⟨hlt, fun j hj hjn => by
          rcases Nat.lt_or_ge j n with h | h
          · have h1 := hall j hj h
            cases h2 : Op.bytesLess l[j].1 l[n].1 with
            | false => rfl
            | true => rw [Pr.bl_trans _ _ _ h2 hbv] at h1; cases h1
          · obtain rfl : j = n := by omega
            exact Pr.bl_irrefl _⟩
        rw [hbv] at hb
        clear hc hx hall hbv
        generalize l[n] = p at *
        generalize l[k] = q at *
        go_wp2
        go_region
        go_wp2
        go_roundw
        case rel => exact ⟨n, n + 1, by omega, by go_num, rfl, by omega, hbw.drew, hnew⟩
        case measure => simp [intOf]; omega
      | false =>
        have hnew : Hid (∃ hk : k < l.length, ∀ j (hj : j < l.length), j < n + 1 → Op.bytesLess l[j].1 l[k].1 = false) := ⟨hk, fun j hj hjn => by
          rcases Nat.lt_or_ge j n with h | h
          · exact hall j hj h
          · obtain rfl : j = n := by omega
            exact hbv⟩
        rw [hbv] at hb
        clear hc hx hall hbv
        generalize l[n] = p at *
        generalize l[k] = q at *
        go_wp2
        go_region
        go_wp2
        go_roundw
        case rel => exact ⟨k, n + 1, by omega, by go_num, rfl, by omega, hbw.drew, hnew⟩
        case measure => simp [intOf]; omega
    · obtain rfl : n = l.length := by omega
      have HALL := Lib.hid hall
      clear hx hall
      go_wp2
      go_ret
      exact ⟨⟨k, rfl, hk, fun j hj => HALL.out j hj hj⟩, hbw⟩

set_option maxHeartbeats 4000000 in
set_option maxRecDepth 100000 in
theorem sameC (a b : Option Addr) (cap cap2 : Nat) (l : List Pr.Pair) (w : World) (hV : View w a l) (hV2 : View w b l) (hl : l.length ≤ 1000000) :
    Calls Tryd.prog 12 #[.slice a l.length cap, .slice b l.length cap2] w (Ret (.bool true) w) := by
  have HV := Lib.hid hV; clear hV
  have HV2 := Lib.hid hV2; clear hV2
  go_enter Tryd.func12, Tryd.ntmps12
  go_wp2
  go_loopw [5] (fun i wr => ∃ k : Nat, k ≤ l.length ∧ i = .int .i64 (k : Int) ∧ Below w.heap.size w wr) (fun i _ => l.length - (intOf i).toNat)
  case atStart => exact ⟨0, by omega, rfl, Below.refl _ _⟩
  case round =>
    obtain ⟨k, hk, rfl, hbw⟩ := hrel
    by_cases hlt : k < l.length
    · obtain ⟨g, rfl, hg, hc⟩ := (HV.out.below hbw).is (by omega)
      obtain ⟨g2, rfl, hg2, hc2⟩ := (HV2.out.below hbw).is (by omega)
      obtain ⟨c0, c1⟩ := hc k hlt
      obtain ⟨d0, d1⟩ := hc2 k hlt
      clear hc hc2
      generalize l[k] = p at *
      go_wp2
      go_region
      go_wp2
      go_roundw
      case rel => exact ⟨k + 1, by omega, by go_num, hbw.drew⟩
      case measure => simp [intOf]; omega
    · obtain rfl : k = l.length := by omega
      go_wp2
      go_ret
      exact ⟨rfl, hbw⟩
end Go.Proofs.YtmfnfjcoaijjdaaDoor
