/-
  The page's examples; the statements PropParses, PropMatches.
-/
import Derived.Test.YtmfnfjcoaijjdaaDoorPropS
import Derived.Test.YtmfnfjcoaijjdaaDoorPropM
namespace Go.Proofs.YtmfnfjcoaijjdaaDoor
open Go.RowKit
set_option linter.unusedVariables false

theorem parse_live : (Pr.parse [111, 115, 61, 97, 44, 97, 114, 99, 104, 61, 98]).1 = 0 := by decide +kernel
theorem canon_live : Pr.canonV [111, 115, 61, 97, 44, 97, 114, 99, 104, 61, 98] = [97, 114, 99, 104, 61, 98, 44, 111, 115, 61, 97] := by decide +kernel
theorem match_live1 : Pr.matchV [111, 115, 61, 97, 44, 103, 112, 117, 61, 42] [103, 112, 117, 61, 120] = true := by decide +kernel
theorem match_live2 : Pr.matchV [111, 115, 61, 97] [111, 115, 61, 98] = false := by decide +kernel

set_option maxRecDepth 100000 in
theorem liveOk (w : World) : Calls Tryd.prog 6 #[] w (Ret (.bool true) w) := by
  have c0 := fun W => canonC ⟨#[111, 115, 61, 97, 44, 97, 114, 99, 104, 61, 98]⟩ W (by decide)
  have c1 := fun W => matchC ⟨#[111, 115, 61, 97, 44, 103, 112, 117, 61, 42]⟩ ⟨#[103, 112, 117, 61, 120]⟩ W (by decide) (by decide)
  have c2 := fun W => matchC ⟨#[111, 115, 61, 97]⟩ ⟨#[111, 115, 61, 98]⟩ W (by decide) (by decide)
  rw [show (Pr.parse (bl ⟨#[111, 115, 61, 97, 44, 97, 114, 99, 104, 61, 98]⟩)).1 = 0 from parse_live, show Pr.canonV (bl ⟨#[111, 115, 61, 97, 44, 97, 114, 99, 104, 61, 98]⟩) = [97, 114, 99, 104, 61, 98, 44, 111, 115, 61, 97] from canon_live] at c0
  rw [show Pr.matchV (bl ⟨#[111, 115, 61, 97, 44, 103, 112, 117, 61, 42]⟩) (bl ⟨#[103, 112, 117, 61, 120]⟩) = true from match_live1] at c1
  rw [show Pr.matchV (bl ⟨#[111, 115, 61, 97]⟩) (bl ⟨#[111, 115, 61, 98]⟩) = false from match_live2] at c2
  have C0 : Hid (∀ W, Calls Tryd.prog 9 #[.string ⟨#[111, 115, 61, 97, 44, 97, 114, 99, 104, 61, 98]⟩] W (RetCanon 0 [97, 114, 99, 104, 61, 98, 44, 111, 115, 61, 97] W)) := c0
  have C1 := Lib.hid c1
  have C2 := Lib.hid c2
  have hb : Below w.heap.size w w := Below.refl _ _
  have hq : ((mk [97, 114, 99, 104, 61, 98, 44, 111, 115, 61, 97]).toList == [97, 114, 99, 104, 61, 98, 44, 111, 115, 61, 97]) = true := by rw [toList_bl, bl_mk']; rfl
  clear c0 c1 c2
  go_enter Tryd.func6, Tryd.ntmps6
  go_wp2_with (first | (go_at_call 9; (with_reducible refine (C0.out _).mono ?_); rintro e w1 ⟨rfl, hbx⟩; replace hb := hb.trans (hbx.mono hb.size); clear hbx) | (go_at_call 14; (with_reducible refine (C1.out _).mono ?_); rintro e w1 ⟨rfl, hbx⟩; replace hb := hb.trans (hbx.mono hb.size); clear hbx) | (go_at_call 14; (with_reducible refine (C2.out _).mono ?_); rintro e w1 ⟨rfl, hbx⟩; replace hb := hb.trans (hbx.mono hb.size); clear hbx) | (go_at_call 11; (with_reducible refine (numC _ _).mono ?_); rintro e w1 ⟨rfl, rfl⟩))
  go_ret
  exact ⟨rfl, hb⟩

set_option maxHeartbeats 1000000 in
set_option maxRecDepth 100000 in
theorem propMatches_walk (s t : ByteArray) (w : World) (hs : s.size ≤ 140737488351232) (ht : t.size ≤ 140737488351232) :
    Calls Tryd.prog 4 #[.string s, .string t] w (Ret (.bool true) w) := by
  have CL := Lib.hid (fun W => liveOk W)
  have hb : Below w.heap.size w w := Below.refl _ _
  by_cases h1 : 1000 < s.size
  · go_enter Tryd.func4, Tryd.ntmps4
    go_wp2_with (go_at_call 6; (with_reducible refine (CL.out _).mono ?_); rintro e w1 ⟨rfl, hbx⟩)
    go_ret
    exact ⟨rfl, hbx⟩
  · by_cases h2 : 1000 < t.size
    · go_enter Tryd.func4, Tryd.ntmps4
      go_wp2_with (go_at_call 6; (with_reducible refine (CL.out _).mono ?_); rintro e w1 ⟨rfl, hbx⟩)
      go_ret
      exact ⟨rfl, hbx⟩
    · have h1' : s.size ≤ 1000 := by omega
      have h2' : t.size ≤ 1000 := by omega
      have C1 := Lib.hid (fun W => matchC s t W (by omega) (by omega))
      have C2 := Lib.hid (fun W => refMatchC s t W (by omega) (by omega))
      generalize Pr.matchV (bl s) (bl t) = r at *
      clear h1 h2 hs ht
      go_enter Tryd.func4, Tryd.ntmps4
      go_wp2_with (first | (go_at_call 14; (with_reducible refine (C1.out _).mono ?_); rintro e w1 ⟨rfl, hbx⟩; replace hb := hb.trans (hbx.mono hb.size); clear hbx) | (go_at_call 15; (with_reducible refine (C2.out _).mono ?_); rintro e w1 ⟨rfl, hbx⟩; replace hb := hb.trans (hbx.mono hb.size); clear hbx) | (go_at_call 6; (with_reducible refine (CL.out _).mono ?_); rintro e w1 ⟨rfl, hbx⟩; replace hb := hb.trans (hbx.mono hb.size); clear hbx))
      go_ret
      exact ⟨rfl, hb⟩
end Go.Proofs.YtmfnfjcoaijjdaaDoor
