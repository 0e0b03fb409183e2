/-
  The document's Canon and Match.
-/
import Derived.Test.YtmfnfjcoaijjdaaDoorPropE
import Derived.Test.YtmfnfjcoaijjdaaDoorPropI
import Derived.Deep.AppendLies
namespace Go.Proofs.YtmfnfjcoaijjdaaDoor
open Go.RowKit
set_option linter.unusedVariables false

/-- it returns a string and an error number -/
structure RetCanon (x : Int) (v : Pr.B) (w : World) (e : Ending) (w' : World) : Prop where
  e : e = .returned (.tuple #[.string (mk v), .int .i64 x])
  b : Below w.heap.size w w'

theorem erase_same (l : List Pr.Pair) (k : Nat) (m : Nat) (hk : k < l.length) (h : k = m) : (l.take (k + 1)).eraseIdx m = (l.take k).eraseIdx m := by
  subst h
  rw [List.eraseIdx_eq_take_drop_succ, List.eraseIdx_eq_take_drop_succ]
  rw [List.take_take, List.take_take, List.drop_eq_nil_of_le (by rw [List.length_take]; omega), List.drop_eq_nil_of_le (by rw [List.length_take]; omega)]
  congr 2
  omega
theorem erase_snoc (l : List Pr.Pair) (k : Nat) (m : Nat) (hk : k < l.length) (hm : m < l.length) (h : k ≠ m) : (l.take k).eraseIdx m ++ [l[k]] = (l.take (k + 1)).eraseIdx m := by
  rw [List.take_succ_eq_append_getElem hk, List.eraseIdx_append]
  rcases Nat.lt_or_ge m k with h1 | h1
  · rw [if_pos (by rw [List.length_take]; omega)]
  · rw [if_neg (by rw [List.length_take]; omega), List.eraseIdx_of_length_le (by rw [List.length_take]; omega), List.length_take]
    congr 1
    obtain ⟨n, hn⟩ : ∃ n, m - min k l.length = n + 1 := ⟨m - min k l.length - 1, by omega⟩
    rw [hn]
    rfl

theorem Row.viewAt {w : World} {B : Nat} {a : Option Addr} {n cap : Nat} {l : List Pr.Pair} (h : Row w B (.slice a n cap) l) : View w a l := by
  obtain ⟨a', cap', e, hV⟩ := Row.view h
  cases e
  exact hV
set_option maxHeartbeats 8000000 in
set_option maxRecDepth 1000000 in
theorem refCanonC (s : ByteArray) (w : World) (hs : s.size ≤ 1000000) :
    Calls Tryd.prog 10 #[.string s] w (RetCanon (Pr.parse (bl s)).1 (Pr.canonV (bl s)) w) := by
  have C := Lib.hid (fun W => refParseC s W hs)
  by_cases h0 : (Pr.parse (bl s)).1 = 0
  · have hgood := (Pr.parse_good (x := bl s) (l := (Pr.parse (bl s)).2) (Prod.ext h0 rfl)).1
    have hcv : Pr.canonV (bl s) = Pr.showL (Pr.sortL (Pr.parse (bl s)).2) := by unfold Pr.canonV; rw [if_pos h0]
    rw [h0, hcv]
    have hc : Hid (∀ W, Calls Tryd.prog 8 #[.string s] W (RetRow (0, (Pr.parse (bl s)).2) W)) := fun W => by
      have := C.out W
      rwa [show Pr.parse (bl s) = (0, (Pr.parse (bl s)).2) from Prod.ext h0 rfl] at this
    clear C hcv h0
    generalize (Pr.parse (bl s)).2 = L at *
    have hsg := hgood.sort
    have hsl : (Pr.sortL L).length = L.length := (Pr.sortL_perm L).length_eq
    have hL6 := hgood.len
    have HGOOD := Lib.hid hgood; clear hgood
    have HSG := Lib.hid hsg; clear hsg
    go_enter Tryd.func10, Tryd.ntmps10
    go_wp2_with (go_at_call 8; (with_reducible refine (hc.out _).mono ?_); rintro e w1 ⟨⟨v, rfl, hrow⟩, hb⟩)
    have hout : Row (w1.alloc (.cells #[] 39)) w.heap.size (.slice (some ⟨w1.heap.size, 0, none⟩) 0 0) [] := Row.lit w1 w.heap.size hb.size
    have hl1 : Row (w1.alloc (.cells #[] 39)) w.heap.size v L := World.ownsRow.alloc hrow _
    have hb1 : Below w.heap.size w (w1.alloc (.cells #[] 39)) := hb.alloc hb.size _
    have hne1 : Hid (∀ k, v.ownBlock = some k → k ≠ w1.heap.size) := fun k hk => by have := (World.ownsRow.lt hrow k hk).2; omega
    have HROW := Lib.hid hrow
    clear hrow
    go_wp2
    go_loopw [4, 6] (fun v u wr => ∃ (cur done : List Pr.Pair), Row wr w.heap.size v cur ∧ Row wr w.heap.size u done ∧ Below w.heap.size w wr ∧ cur.length + done.length = L.length ∧ Hid (∀ k, v.ownBlock = some k → some k ≠ u.ownBlock) ∧ Hid (Pr.Good cur ∧ done ++ Pr.sortL cur = Pr.sortL L)) (fun v _ _ => lenV v)
    case atStart => exact ⟨L, [], hl1, hout, hb1, by simp, Lib.hid (fun k hk => by simp [Value.ownBlock]; exact hne1 k hk), Lib.hid ⟨HGOOD.out, by simp⟩⟩
    case round =>
      obtain ⟨cur, done, hcur, hdone, hbw, hlen, hdist, hst⟩ := hrel
      clear hout hl1 hb1 hne1
      obtain ⟨a, cap, rfl, hV⟩ := Row.view hcur
      by_cases h0 : 0 < cur.length
      · obtain ⟨g, rfl, hg, hc⟩ := hV.is h0
        have HC := Lib.hid hc; clear hc
        have HDIST := Lib.hid hdist; clear hdist
        have HCUR := Lib.hid hcur; clear hcur
        have hdone2 : World.ownsRow wr w.heap.size 39 2 _ done.length (cellsP done) := hdone
        have HDONE := Lib.hid hdone2; clear hdone hdone2
        go_wp2_with (first | (go_at_call 25; refine (refLeastC (some ⟨g, 0, none⟩) cap cur _ hV h0 (by omega)).mono ?_; rintro e wA ⟨⟨m, rfl, hm, hall⟩, hbA⟩; have k0 := (hbA.cell (p := ⟨g, m * 2, none⟩) hg).trans (HC.out m hm).1; have k1 := (hbA.cell (p := ⟨g, m * 2 + 1, none⟩) hg).trans (HC.out m hm).2; have HALL := Lib.hid hall; have hOA := own_below HDONE.out hbA; clear hall) | (at_builtin; (refine wpApp2 _ rfl _ _ 23 rfl w.heap.size 39 _ 2 32 Tryd.underlying23 infoPair rfl (by decide) (by decide) _ done.length (cellsP done) rfl hOA #[.string (mk cur[m].1), .string (mk cur[m].2)] _ rfl rfl (fun u hu => by simp at hu; rcases hu with rfl | rfl <;> rfl) (by omega) (Nat.le_trans hbw.size hbA.size) ?_)))
        intro u' w2 hown' hb2 hkeep hlies
        have hdone2 : Row w2 w.heap.size u' (done ++ [cur[m]]) := Row.snoc (n := 0) (p := cur[m]) hown'
        have hcur2 : Row w2 w.heap.size (.slice (some ⟨g, 0, none⟩) cur.length cap) cur := own_keep (own_below HCUR.out hbA) (fun k hk => hkeep k (World.ownsRow.lt (own_below HCUR.out hbA) k hk).2 (HDIST.out k hk))
        have hbw2 : Below w.heap.size w w2 := hbw.trans ((hbA.mono hbw.size).trans hb2)
        have hg2 : g < w2.heap.size := (World.ownsRow.lt hcur2 g rfl).2
        obtain ⟨g', hgg, _, hc2⟩ := hcur2.viewAt.is h0
        cases hgg
        have HC2 := Lib.hid hc2
        have hul : Hid (∀ k, u'.ownBlock = some k → k < w2.heap.size) := fun k hk => (World.ownsRow.lt hdone2 k hk).2
        have hst3 : Hid (Pr.Good (cur.eraseIdx m) ∧ (done ++ [cur[m]]) ++ Pr.sortL (cur.eraseIdx m) = Pr.sortL L) := ⟨hst.out.1.erase m hm, by
          rw [← hst.out.2, Pr.sortL_least hst.out.1.nd m hm HALL.out]; simp⟩
        have hel : (cur.eraseIdx m).length + 1 = cur.length := by rw [List.length_eraseIdx_of_lt hm]; omega
        have hdl : (done ++ [cur[m]]).length = done.length + 1 := by simp
        generalize done ++ [cur[m]] = done' at *
        have HD := Lib.hid hdone2
        have hrest : Row (w2.alloc (.cells #[] 39)) w2.heap.size (.slice (some ⟨w2.heap.size, 0, none⟩) 0 0) [] := Row.lit w2 w2.heap.size (Nat.le_refl _)
        have hbr : Below w2.heap.size w2 (w2.alloc (.cells #[] 39)) := (Below.refl _ _).alloc (Nat.le_refl _) _
        clear hown' hb2 hkeep hlies hcur2 hc2 hdone2 k0 k1 hbA HALL HCUR HDONE HDIST HC hV hg hst hOA
        go_wp2
        go_loopw [8, 9] (fun r i wr2 => ∃ k : Nat, k ≤ cur.length ∧ i = .int .i64 (k : Int) ∧ Row wr2 w2.heap.size r ((cur.take k).eraseIdx m) ∧ Below w2.heap.size w2 wr2) (fun _ i _ => cur.length - (intOf i).toNat)
        case atStart => exact ⟨0, by omega, rfl, by simpa using hrest, hbr⟩
        case round =>
          obtain ⟨k, hk, rfl, hrow, hb2⟩ := hrel
          clear hrest hbr
          by_cases hlt : k < cur.length
          · by_cases hkm : k = m
            · have hrow2 := hrow
              rw [← erase_same cur k m hlt hkm] at hrow2
              have HR2 := Lib.hid hrow2
              have hkm2 : ((k : Int) == (m : Int)) = true := by simp [hkm]
              clear hrow hrow2 hkm
              go_wp2
              go_roundw
              case rel => exact ⟨k + 1, by omega, by go_num, HR2.out, hb2⟩
              case measure => simp [intOf]; omega
            · have k0 : _ = _ := (hb2.cell (p := ⟨g, k * 2, none⟩) hg2).trans (HC2.out k hlt).1
              have k1 : _ = _ := (hb2.cell (p := ⟨g, k * 2 + 1, none⟩) hg2).trans (HC2.out k hlt).2
              have HSN := Lib.hid (erase_snoc cur k m hlt hm hkm)
              have hkm2 : ((k : Int) == (m : Int)) = false := by simp only [beq_eq_false_iff_ne]; omega
              have hell : ((cur.take k).eraseIdx m).length ≤ 1000000 := by
                have h1 : ((cur.take k).eraseIdx m).length ≤ (cur.take k).length := List.length_eraseIdx_le _ _
                rw [List.length_take] at h1
                omega
              generalize (cur.take k).eraseIdx m = X at *
              generalize cur[k] = p at *
              have hown : wr.ownsRow w2.heap.size 39 2 _ X.length (cellsP X) := hrow
              clear hkm hrow
              go_wp2_with (at_builtin; refine wpApp _ rfl _ _ 23 rfl w2.heap.size 39 _ 2 32 Tryd.underlying23 infoPair rfl (by decide) (by decide) _ X.length (cellsP X) rfl hown #[.string (mk p.1), .string (mk p.2)] _ rfl rfl (fun u hu => by simp at hu; rcases hu with rfl | rfl <;> rfl) (by omega) hb2.size ?_)
              intro v' w3 hown' hb3 hkeep
              have hrow3 := Row.snoc (n := 0) (p := p) hown'
              rw [HSN.out] at hrow3
              have hb4 := hb2.trans hb3
              clear hown' hb3 hkeep hown hb2
              go_wp2
              go_roundw
              case rel => exact ⟨k + 1, by omega, by go_num, hrow3, hb4⟩
              case measure => simp [intOf]; omega
          · obtain rfl : k = cur.length := by omega
            rw [List.take_length] at hrow
            obtain ⟨a', cap', rfl, _⟩ := Row.view hrow
            have HROW2 := Lib.hid hrow
            have hb2' := hb2
            clear hrow
            go_wp2
            go_roundw
            case rel => exact ⟨cur.eraseIdx m, done', Row.base HROW2.out hbw2.size, Row.below HD.out hb2', hbw2.trans (hb2'.mono hbw2.size), by omega, fun k hk e => by
              have h1 := (World.ownsRow.lt HROW2.out k hk).1
              have h2 := hul.out k e.symm
              omega, hst3⟩
            case measure => simp [lenV]; omega
      · have hnil : cur = [] := List.eq_nil_of_length_eq_zero (by omega)
        subst hnil
        have hd : done = Pr.sortL L := by have := hst.out.2; simpa [Pr.sortL] using this
        have hbd : (Pr.showL (Pr.sortL L)).length ≤ 1000000000 := by
          have := Pr.showGo_len (Pr.sortL L) true HSG.out.ok
          rw [Pr.showGo_true] at this
          omega
        subst hd
        obtain ⟨a2, cap2, rfl, hV2⟩ := Row.view hdone
        have hS6 : (Pr.sortL L).length ≤ 1000000 := by omega
        clear hst hdist hcur hdone hV hsl hlen hL6 HGOOD HSG h0
        generalize Pr.sortL L = SL at *
        go_wp2_with (go_at_call 26; (with_reducible refine (refShowC a2 cap2 SL _ hV2 hS6 hbd).mono ?_); rintro e w3 ⟨rfl, hb3⟩)
        go_ret2
        exact ⟨rfl, hbw.trans (hb3.mono hbw.size)⟩
  · have hcv : Pr.canonV (bl s) = [] := by unfold Pr.canonV; rw [if_neg h0]
    rw [hcv]
    generalize Pr.parse (bl s) = R at *
    obtain ⟨en, L⟩ := R
    have hen : (en == 0) = false := by simpa using h0
    clear hcv
    go_enter Tryd.func10, Tryd.ntmps10
    go_wp2_with (go_at_call 8; (with_reducible refine (C.out _).mono ?_); rintro e w1 ⟨⟨v, rfl, hrow⟩, hb⟩)
    go_ret2
    exact ⟨rfl, hb⟩
end Go.Proofs.YtmfnfjcoaijjdaaDoor
