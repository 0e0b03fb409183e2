/-
  The program's Canon: the sort of the pairs.
-/
import Derived.Test.YtmfnfjcoaijjdaaDoorPropH
import Derived.Test.YtmfnfjcoaijjdaaDoorPropL
import Derived.Test.YtmfnfjcoaijjdaaDoorPropJ
import Derived.Shelf.SlSortCmp.SmallK
namespace Go.Proofs.YtmfnfjcoaijjdaaDoor
open Go.RowKit
set_option linter.unusedVariables false

/-! ### at no element -/
set_option maxRecDepth 100000 in
theorem insNone (a : Option Addr) (cap : Nat) (fv : Value) (w : World) :
    Calls Tryd.prog 53 #[.slice a 0 cap, .int .i64 0, .int .i64 0, fv] w (Same (.tuple #[]) w) := by
  go_enter Tryd.func53, Tryd.ntmps53
  go_wp2
  refine wp_loop_rounds 1 ?_
  rw [rounds_succ]
  go_wp2
  go_end0
  exact ⟨rfl, rfl⟩
set_option maxHeartbeats 2000000 in
set_option maxRecDepth 100000 in
theorem pdqNone (a : Option Addr) (cap : Nat) (lim : Int) (fv : Value) (w : World) :
    Calls Tryd.prog 41 #[.slice a 0 cap, .int .i64 0, .int .i64 0, .int .i64 lim, fv] w (Same (.tuple #[]) w) := by
  have C := Lib.hid (fun W => insNone a cap fv W)
  go_enter Tryd.func41, Tryd.ntmps41
  go_wp2
  refine wp_loop_rounds 1 ?_
  rw [rounds_succ]
  go_wp2_with (go_at_call 53; (with_reducible refine (C.out _).mono ?_); rintro e w1 ⟨rfl, rfl⟩)
  (try simp only [Exit.inBlock, Exit.then])
  refine bodyPost_ret (results_none rfl _ _ _) rfl ?_
  exact ⟨rfl, rfl⟩
set_option maxRecDepth 100000 in
theorem sortNone (a : Option Addr) (cap : Nat) (fv : Value) (w : World) :
    Calls Tryd.prog 22 #[.slice a 0 cap, fv] w (Same (.tuple #[]) w) := by
  have C := Lib.hid (fun l W => pdqNone a cap l fv W)
  have CL := Lib.hid (fun W => Tryd.bits_Len 0 W (by omega) (by omega))
  go_enter Tryd.func22, Tryd.ntmps22
  go_wp2_with (first | (go_at_call 42; (refine (CL.out _).mono ?_); rintro e w1 ⟨rfl, rfl⟩) | (go_at_call 41; (with_reducible refine (C.out _ _).mono ?_); rintro e w1 ⟨rfl, rfl⟩))
  go_end0
  exact ⟨rfl, rfl⟩

/-! ### at one element and more -/
/-- how two pairs compare -/
def cfP (x y : Pr.Pair) : Int := Lib.compareBytes x.1 y.1
theorem ltOf_cfP (x y : Pr.Pair) : ltOf cfP x y = Op.bytesLess x.1 y.1 := Pr.cmp_less x.1 y.1
theorem swo_irrefl (x : Pr.Pair) : ltOf cfP x x = false := by rw [ltOf_cfP]; exact Pr.bl_irrefl _
theorem swo_trans (x y z : Pr.Pair) : ltOf cfP x y = true → ltOf cfP y z = true → ltOf cfP x z = true := by rw [ltOf_cfP, ltOf_cfP, ltOf_cfP]; exact Pr.bl_trans _ _ _
theorem swo_ntrans (x y z : Pr.Pair) : ltOf cfP x y = false → ltOf cfP y z = false → ltOf cfP x z = false := by
  rw [ltOf_cfP, ltOf_cfP, ltOf_cfP]
  intro h1 h2
  cases h : Op.bytesLess x.1 z.1 with
  | false => rfl
  | true =>
    cases h3 : Op.bytesLess y.1 x.1 with
    | true => rw [Pr.bl_trans _ _ _ h3 h] at h2; cases h2
    | false =>
      have e := Pr.bl_total _ _ h1 h3
      rw [e, h2] at h; cases h
theorem swoP : Go.Sort.SWO (ltOf cfP) := ⟨swo_irrefl, swo_trans, swo_ntrans⟩

set_option maxHeartbeats 1000000 in
set_option maxRecDepth 100000 in
theorem closureC (x y : Pr.Pair) (W : World) : Calls Tryd.prog 23 #[.agg #[.string (mk x.1), .string (mk x.2)], .agg #[.string (mk y.1), .string (mk y.2)]] W fun e w' => e = .returned (.int .i64 (cfP x y)) ∧ ∃ q os', w' = Go.Sort.grow (W.drewN q) os' := by
  have C := Lib.hid (fun W => compareC (mk x.1) (mk y.1) W)
  rw [bl_mk', bl_mk'] at C
  have hc : Lib.compareBytes x.1 y.1 = cfP x y := rfl
  rw [hc] at C
  clear hc
  generalize cfP x y = r at *
  go_enter Tryd.func23, Tryd.ntmps23
  go_wp2_with (go_at_call 24; (with_reducible refine (C.out _).mono ?_); rintro e w1 ⟨rfl, rfl⟩)
  go_ret
  exact ⟨rfl, 0, _, by rw [Go.Sort.alloc_eq_grow, Go.Sort.alloc_eq_grow, Go.Sort.grow_grow]; rfl⟩

theorem pv_length (x : Pr.Pair) : (pv x).length = 2 := rfl
theorem pv_one (x : Pr.Pair) : ∀ v ∈ pv x, v.oneCell' = true := by
  intro v hv
  simp [pv] at hv
  rcases hv with rfl | rfl <;> rfl

theorem lenC (n : Nat) (W : World) (h : n ≤ 12) : Calls Tryd.prog 42 #[.int .u64 n] W fun e w' => (∃ l : Int, e = .returned (.int .i64 l)) ∧ w' = W :=
  (Tryd.bits_Len n W (by omega) (by omega)).mono fun _ _ ⟨he, hw⟩ => ⟨⟨_, he⟩, hw⟩

theorem flat_get (l : List Pr.Pair) (j : Nat) (h : j < l.length) : (Go.Sort.flatK pv 2 l.toArray)[j * 2]! = .string (mk l[j].1) ∧ (Go.Sort.flatK pv 2 l.toArray)[j * 2 + 1]! = .string (mk l[j].2) := by
  have hz : l.toArray.size = l.length := by simp
  rw [Go.Sort.get_flatK pv 2 l.toArray (j * 2) (by omega), Go.Sort.get_flatK pv 2 l.toArray (j * 2 + 1) (by omega)]
  rw [show j * 2 / 2 = j by omega, show (j * 2 + 1) / 2 = j by omega, show j * 2 % 2 = 0 by omega, show (j * 2 + 1) % 2 = 1 by omega]
  have e : l.toArray[j]! = l[j] := by rw [getElem!_pos l.toArray j (by omega)]; simp
  rw [e]
  exact ⟨rfl, rfl⟩
theorem holds_of {w : World} {B g cap : Nat} {l : List Pr.Pair} (h : Row w B (.slice (some ⟨g, 0, none⟩) l.length cap) l) : Go.Sort.HoldsK pv 2 w g 0 l.toArray := by
  intro t ht
  have hz : (Go.Sort.flatK pv 2 l.toArray).size = l.length * 2 := by rw [Go.Sort.size_flatK]; simp
  rw [hz] at ht
  have hv := h.viewAt
  obtain ⟨g', e, hg, hc⟩ := hv.is (by omega)
  cases e
  have hj : t / 2 < l.length := by omega
  obtain ⟨f0, f1⟩ := flat_get l (t / 2) hj
  refine ⟨?_, World.ownsRow.frozenAt h _⟩
  rw [Nat.zero_add]
  rcases Nat.mod_two_eq_zero_or_one t with hm | hm
  · have et : t = t / 2 * 2 := by omega
    rw [et, f0]
    exact (hc _ hj).1
  · have et : t = t / 2 * 2 + 1 := by omega
    rw [et, f1]
    exact (hc _ hj).2
theorem view_of {w : World} {g : Nat} {l : List Pr.Pair} (hg : g < w.heap.size) (h : Go.Sort.HoldsK pv 2 w g 0 l.toArray) : View w (some ⟨g, 0, none⟩) l := by
  refine ⟨fun _ => ⟨g, rfl, hg, fun j hj => ?_⟩⟩
  have hz : (Go.Sort.flatK pv 2 l.toArray).size = l.length * 2 := by rw [Go.Sort.size_flatK]; simp
  obtain ⟨f0, f1⟩ := flat_get l j hj
  have h0 := (h (j * 2) (by omega)).1
  have h1 := (h (j * 2 + 1) (by omega)).1
  rw [f0, Nat.zero_add] at h0
  rw [f1, Nat.zero_add] at h1
  exact ⟨h0, h1⟩
theorem sort_below (w : World) (blk m B : Nat) (dk : Array Pr.Pair) (os : Array Obj) (hB : B ≤ blk) (hblk : blk < w.heap.size) : Below B w (sortWorldK pv 2 w blk 0 m dk os) := by
  refine ⟨rfl, rfl, rfl, size_sortWorldK_c pv 2 w blk 0 m dk os, fun k hk => ?_⟩
  show (w.heap.modify blk _ ++ os)[k]? = _
  rw [Array.getElem?_append_left (by rw [Array.size_modify]; omega), Array.getElem?_modify, if_neg (by omega)]

/-- sorted, and the row's pairs -/
structure RetSort (g : Nat) (l : List Pr.Pair) (w : World) (e : Ending) (w' : World) : Prop where
  e : e = .returned (.tuple #[])
  v : View w' (some ⟨g, 0, none⟩) (Pr.sortL l)
  b : Below g w w'

theorem sorted_list (l : List Pr.Pair) (d' : Array Pr.Pair) (hn : (l.map (·.1)).Nodup) (hp : Go.Sort.PermIn 0 l.toArray.size l.toArray d') (hs : Go.Sort.SortedIn (ltOf cfP) 0 l.toArray.size d') : d' = (Pr.sortL l).toArray := by
  obtain ⟨hz, _, hperm⟩ := hp
  have hz2 : d'.size = l.length := by simpa using hz
  have hp2 : d'.toList.Perm l := by
    have e1 : d'.extract 0 l.toArray.size = d' := by rw [← hz]; simp
    have e2 : l.toArray.extract 0 l.toArray.size = l.toArray := by simp
    rw [e1, e2] at hperm
    simpa using hperm
  have hn2 := Pr.perm_nd hp2 hn
  have hu : d'.toList.Pairwise Pr.Up := by
    rw [List.pairwise_iff_getElem]
    intro i j hi hj hij
    have hi' : i < d'.size := by simpa using hi
    have hj' : j < d'.size := by simpa using hj
    have h1 := hs i j (Nat.zero_le _) hij (by simp; omega)
    rw [getElem!_pos d' j hj', getElem!_pos d' i hi', ltOf_cfP] at h1
    show Op.bytesLess d'.toList[i].1 d'.toList[j].1 = true
    rw [Array.getElem_toList, Array.getElem_toList]
    cases h : Op.bytesLess d'[i].1 d'[j].1 with
    | true => rfl
    | false =>
      exfalso
      have e := Pr.bl_total _ _ h h1
      have := List.nodup_iff_pairwise_ne.1 hn2
      rw [List.pairwise_iff_getElem] at this
      have h2 := this i j (by simpa using hi) (by simpa using hj) hij
      simp at h2
      exact h2 e
  have := Pr.sortL_is hn hp2 hu
  apply Array.toList_inj.1
  simpa using this

theorem sortC (g cap B : Nat) (l : List Pr.Pair) (w : World) (h : Row w B (.slice (some ⟨g, 0, none⟩) l.length cap) l) (hg : Pr.Good l) :
    Calls Tryd.prog 22 #[.slice (some ⟨g, 0, none⟩) l.length cap, .func (.func 23) #[] #[]] w (RetSort g l w) := by
  have eg : ∀ args w, (callFunc 23 args).run Tryd.prog w = .ok (.enter 23 args) w := enters_of Tryd.func23 (by kernel_rfl) rfl
  have hlt : g < w.heap.size := (World.ownsRow.lt h g rfl).2
  have hl6 := hg.len
  have hH := holds_of h
  have hcmp : CmpLays Tryd.prog 23 #[] pv 2 cfP g 0 l.toArray.size w := fun _ _ _ _ x y => closureC x y _
  have hcon := AnyQ.slices_SortFunc_small_sorted Tryd.sortPairs 2 Tryd.isAgg39 Tryd.sizeOf39 pv pv_length pv_one cfP 23 #[] swoP g 0 cap l.toArray w eg hcmp hH hlt (by simp; omega) lenC
  rw [show l.toArray.size = l.length by simp] at hcon
  refine Calls.mono hcon ?_
  rintro e w' ⟨rfl, d', n, os, hp, hs, rfl⟩
  have hd := sorted_list l d' hg.nd (by simpa using hp) (by simpa using hs)
  subst hd
  have hsl : (Pr.sortL l).length = l.length := (Pr.sortL_perm l).length_eq
  refine ⟨rfl, view_of (Nat.lt_of_lt_of_le hlt (size_sortWorldK_c pv 2 w g 0 n _ os)) ?_, sort_below w g n g _ os (Nat.le_refl _) hlt⟩
  exact holdsK_sortWorldK_c pv 2 w g 0 l.toArray _ n os hH hlt (by simp [hsl])

set_option maxHeartbeats 2000000 in
set_option maxRecDepth 100000 in
theorem canonC (s : ByteArray) (w : World) (hs : s.size ≤ 9223372036854775806) :
    Calls Tryd.prog 9 #[.string s] w (RetCanon (Pr.parse (bl s)).1 (Pr.canonV (bl s)) w) := by
  have C := Lib.hid (fun W => parseC s W hs)
  by_cases h0 : (Pr.parse (bl s)).1 = 0
  · have hgood := (Pr.parse_good (x := bl s) (l := (Pr.parse (bl s)).2) (Prod.ext h0 rfl)).1
    have hcv : Pr.canonV (bl s) = Pr.showL (Pr.sortL (Pr.parse (bl s)).2) := by unfold Pr.canonV; rw [if_pos h0]
    rw [h0, hcv]
    have hc : Hid (∀ W, Calls Tryd.prog 7 #[.string s] W (RetRow (0, (Pr.parse (bl s)).2) W)) := fun W => by
      have := C.out W
      rwa [show Pr.parse (bl s) = (0, (Pr.parse (bl s)).2) from Prod.ext h0 rfl] at this
    clear C hcv h0
    generalize (Pr.parse (bl s)).2 = L at *
    have hL6 := hgood.len
    by_cases hn : L = []
    · subst hn
      clear hgood
      go_enter Tryd.func9, Tryd.ntmps9
      go_wp2_with (first | (go_at_call 7; (with_reducible refine (hc.out _).mono ?_); rintro e w1 ⟨⟨v, rfl, hrow⟩, hb⟩; obtain ⟨a, cap, rfl, hV⟩ := Row.view hrow) | (go_at_call 22; (refine (sortNone a cap _ _).mono ?_); rintro e w2 ⟨rfl, rfl⟩) | (go_at_call 13; (refine (showC a cap [] _ hV (by simp) (by simp)).mono ?_); rintro e w3 ⟨rfl, hb3⟩))
      go_ret2
      exact ⟨rfl, hb.trans (hb3.mono hb.size)⟩
    · have hsl : (Pr.sortL L).length = L.length := (Pr.sortL_perm L).length_eq
      have hsg := hgood.sort
      have h0 : 0 < L.length := (by rcases Nat.eq_zero_or_pos L.length with h | h; exact absurd (List.eq_nil_of_length_eq_zero h) hn; exact h)
      have HG := Lib.hid hgood
      have HSG := Lib.hid hsg
      have HSL := Lib.hid hsl
      clear hgood hsg hsl hn
      go_enter Tryd.func9, Tryd.ntmps9
      go_wp2_with (first | (go_at_call 7; (with_reducible refine (hc.out _).mono ?_); rintro e w1 ⟨⟨v, rfl, hrow⟩, hb⟩; obtain ⟨a, cap, rfl, hV⟩ := Row.view hrow; obtain ⟨g, rfl, hg, _⟩ := hV.is h0) | (go_at_call 22; (refine (sortC g cap w.heap.size L _ hrow HG.out).mono ?_); rintro e w2 ⟨rfl, hv2, hb2⟩; have hgw := (World.ownsRow.lt hrow g rfl).1; have CS := showC (some ⟨g, 0, none⟩) cap (Pr.sortL L) w2 hv2 HSG.out.len HSG.out.ok; rw [HSL.out] at CS; have CSH := Lib.hid CS; clear CS) | (go_at_call 13; (with_reducible refine CSH.out.mono ?_); rintro e w3 ⟨rfl, hb3⟩))
      go_ret2
      have hb12 : Below w.heap.size w w2 := hb.trans (hb2.mono hgw)
      exact ⟨rfl, hb12.trans (hb3.mono hb12.size)⟩
  · have hcv : Pr.canonV (bl s) = [] := by unfold Pr.canonV; rw [if_neg h0]
    rw [hcv]
    generalize Pr.parse (bl s) = R at *
    obtain ⟨en, L⟩ := R
    have hen : (en == 0) = false := by simpa using h0
    clear hcv
    go_enter Tryd.func9, Tryd.ntmps9
    go_wp2_with (go_at_call 7; (with_reducible refine (C.out _).mono ?_); rintro e w1 ⟨⟨v, rfl, hrow⟩, hb⟩)
    go_ret2
    exact ⟨rfl, hb⟩
end Go.Proofs.YtmfnfjcoaijjdaaDoor
