/-
  slices.SortFunc at elements, by the program's order: the list in order.
-/
import Derived.Test.YtmmfmpnkjienfaaWhS2
namespace Go.Proofs.Ytmmfmpnkjienfaa
open Go.RowKit
set_option linter.unusedVariables false

/-! ### at no element -/
set_option maxRecDepth 100000 in
theorem insNone (a : Option Addr) (cap : Nat) (fv : Value) (w : World) :
    Calls Try.prog 62 #[.slice a 0 cap, .int .i64 0, .int .i64 0, fv] w (Same (.tuple #[]) w) := by
  go_enter Try.func62, Try.ntmps62
  go_wp2
  refine wp_loop_rounds 1 ?_
  rw [rounds_succ]
  go_wp2
  go_end0
  exact ⟨rfl, rfl⟩
set_option maxHeartbeats 2000000 in
set_option maxRecDepth 100000 in
theorem pdqNone (a : Option Addr) (cap : Nat) (lim : Int) (fv : Value) (w : World) :
    Calls Try.prog 59 #[.slice a 0 cap, .int .i64 0, .int .i64 0, .int .i64 lim, fv] w (Same (.tuple #[]) w) := by
  have C := Lib.hid (fun W => insNone a cap fv W)
  go_enter Try.func59, Try.ntmps59
  go_wp2
  refine wp_loop_rounds 1 ?_
  rw [rounds_succ]
  go_wp2_with (go_at_call 62; (with_reducible refine (C.out _).mono ?_); rintro e w1 ⟨rfl, rfl⟩)
  (try simp only [Exit.inBlock, Exit.then])
  refine bodyPost_ret (results_none rfl _ _ _) rfl ?_
  exact ⟨rfl, rfl⟩
set_option maxRecDepth 100000 in
theorem sortNone (a : Option Addr) (cap : Nat) (fv : Value) (w : World) :
    Calls Try.prog 53 #[.slice a 0 cap, fv] w (Same (.tuple #[]) w) := by
  have C := Lib.hid (fun l W => pdqNone a cap l fv W)
  have CL := Lib.hid (fun W => Try.bits_Len 0 W (by omega) (by omega))
  go_enter Try.func53, Try.ntmps53
  go_wp2_with (first | (go_at_call 60; (refine (CL.out _).mono ?_); rintro e w1 ⟨rfl, rfl⟩) | (go_at_call 59; (with_reducible refine (C.out _ _).mono ?_); rintro e w1 ⟨rfl, rfl⟩))
  go_end0
  exact ⟨rfl, rfl⟩

/-! ### at one element and more -/
theorem cfE_neg (x y : Wh.E) : cfE x y < 0 ↔ Wh.less x y := by
  unfold cfE orI Wh.less
  rcases Int.lt_trichotomy x.2 y.2 with h | h | h
  · rw [cmpI_lt h, if_neg (by decide)]
    omega
  · rw [h, cmpI_eq, if_pos rfl]
    rcases Int.lt_trichotomy x.1 y.1 with g | g | g
    · rw [cmpI_lt g]; omega
    · rw [g, cmpI_eq]; omega
    · rw [cmpI_gt g]; omega
  · rw [cmpI_gt h, if_neg (by decide)]
    omega
theorem ltOf_cfE (x y : Wh.E) : ltOf cfE x y = decide (Wh.less x y) := by
  unfold ltOf
  by_cases h : Wh.less x y
  · rw [decide_eq_true h, decide_eq_true ((cfE_neg x y).2 h)]
  · rw [decide_eq_false h, decide_eq_false (fun g => h ((cfE_neg x y).1 g))]
theorem swoE : Go.Sort.SWO (ltOf cfE) := by
  refine ⟨fun x => ?_, fun x y z => ?_, fun x y z => ?_⟩
  · rw [ltOf_cfE]; exact decide_eq_false Wh.less_irr
  · rw [ltOf_cfE, ltOf_cfE, ltOf_cfE]
    simp only [decide_eq_true_eq]
    exact Wh.less_trans
  · rw [ltOf_cfE, ltOf_cfE, ltOf_cfE]
    simp only [decide_eq_false_iff_not]
    unfold Wh.less
    omega
theorem pvE_length (x : Wh.E) : (pvE x).length = 3 := rfl
theorem pvE_one (x : Wh.E) : ∀ v ∈ pvE x, v.oneCell' = true := by
  intro v hv
  simp [pvE] at hv
  rcases hv with rfl | rfl | rfl <;> rfl
theorem flatE_get (l : List Wh.E) (j : Nat) (h : j < l.length) : (Go.Sort.flatK pvE 3 l.toArray)[j * 3]! = .int .i64 0 ∧ (Go.Sort.flatK pvE 3 l.toArray)[j * 3 + 1]! = .int .i64 l[j].1 ∧ (Go.Sort.flatK pvE 3 l.toArray)[j * 3 + 2]! = .int .u64 l[j].2 := by
  have hz : l.toArray.size = l.length := by simp
  rw [Go.Sort.get_flatK pvE 3 l.toArray (j * 3) (by omega), Go.Sort.get_flatK pvE 3 l.toArray (j * 3 + 1) (by omega), Go.Sort.get_flatK pvE 3 l.toArray (j * 3 + 2) (by omega)]
  rw [show j * 3 / 3 = j by omega, show (j * 3 + 1) / 3 = j by omega, show (j * 3 + 2) / 3 = j by omega, show j * 3 % 3 = 0 by omega, show (j * 3 + 1) % 3 = 1 by omega, show (j * 3 + 2) % 3 = 2 by omega]
  have e : l.toArray[j]! = l[j] := by rw [getElem!_pos l.toArray j (by omega)]; simp
  rw [e]
  exact ⟨rfl, rfl, rfl⟩
theorem viewAtE {w : World} {B g cap : Nat} {l : List Wh.E} (h : RowE w B (.slice (some ⟨g, 0, none⟩) l.length cap) l) : ViewE w (some ⟨g, 0, none⟩) l := by
  obtain ⟨a, c, e, hv⟩ := h.view
  cases e
  exact hv
theorem frozenE {w : World} {B g cap n : Nat} {l : List Value} (h : w.ownsRow B 39 3 (.slice (some ⟨g, 0, none⟩) n cap) n l) (i : Nat) : w.frozen? ⟨g, i, none⟩ = false := by
  obtain ⟨hl, ⟨e, _⟩ | ⟨g', cap', cur, e, hg, hc, _⟩⟩ := h
  · cases e
  · cases e
    exact frozen_of w g i cur _ hc
theorem holdsE {w : World} {B g cap : Nat} {l : List Wh.E} (h : RowE w B (.slice (some ⟨g, 0, none⟩) l.length cap) l) : Go.Sort.HoldsK pvE 3 w g 0 l.toArray := by
  intro t ht
  have hz : (Go.Sort.flatK pvE 3 l.toArray).size = l.length * 3 := by rw [Go.Sort.size_flatK]; simp
  rw [hz] at ht
  have hv := viewAtE h
  obtain ⟨g', e, hg, hc⟩ := hv.is (by omega)
  cases e
  have hj : t / 3 < l.length := by omega
  obtain ⟨f0, f1, f2⟩ := flatE_get l (t / 3) hj
  obtain ⟨c0, c1, c2⟩ := hc _ hj
  refine ⟨?_, frozenE h _⟩
  rw [Nat.zero_add]
  have hm : t % 3 = 0 ∨ t % 3 = 1 ∨ t % 3 = 2 := by omega
  rcases hm with hm | hm | hm
  · have et : t = t / 3 * 3 := by omega
    rw [et, f0]
    exact c0
  · have et : t = t / 3 * 3 + 1 := by omega
    rw [et, f1]
    exact c1
  · have et : t = t / 3 * 3 + 2 := by omega
    rw [et, f2]
    exact c2
theorem viewE_of {w : World} {g : Nat} {l : List Wh.E} (hg : g < w.heap.size) (h : Go.Sort.HoldsK pvE 3 w g 0 l.toArray) : ViewE w (some ⟨g, 0, none⟩) l := by
  refine ⟨fun _ => ⟨g, rfl, hg, fun j hj => ?_⟩⟩
  have hz : (Go.Sort.flatK pvE 3 l.toArray).size = l.length * 3 := by rw [Go.Sort.size_flatK]; simp
  obtain ⟨f0, f1, f2⟩ := flatE_get l j hj
  have h0 := (h (j * 3) (by omega)).1
  have h1 := (h (j * 3 + 1) (by omega)).1
  have h2 := (h (j * 3 + 2) (by omega)).1
  rw [f0, Nat.zero_add] at h0
  rw [f1, Nat.zero_add] at h1
  rw [f2, Nat.zero_add] at h2
  exact ⟨h0, h1, h2⟩
theorem sortE_chg (w : World) (blk m : Nat) (dk : Array Wh.E) (os : Array Obj) : Chg (fun k => k = blk) w (sortWorldK pvE 3 w blk 0 m dk os) := by
  refine ⟨rfl, rfl, rfl, size_sortWorldK_c pvE 3 w blk 0 m dk os, fun k hk hne => ?_⟩
  show (w.heap.modify blk _ ++ os)[k]? = _
  rw [Array.getElem?_append_left (by rw [Array.size_modify]; omega), Array.getElem?_modify, if_neg (by omega)]
/-- sorted -/
structure RetSortE (g : Nat) (l : List Wh.E) (w : World) (e : Ending) (w' : World) : Prop where
  e : e = .returned (.tuple #[])
  v : ViewE w' (some ⟨g, 0, none⟩) (Wh.sortT l)
  c : Chg (fun k => k = g) w w'
  o : ∃ cur' : Array Value, w'.heap[g]? = some (.cells cur' 39 (0, 0)) ∧ ∀ cur : Array Value, w.heap[g]? = some (.cells cur 39 (0, 0)) → cur'.size = cur.size
theorem sortE_block (w : World) (g m : Nat) (dk : Array Wh.E) (os : Array Obj) (cur : Array Value) (t : TypeId) (fr : Nat × Nat) (h : w.heap[g]? = some (.cells cur t fr)) :
    ∃ cur' : Array Value, (sortWorldK pvE 3 w g 0 m dk os).heap[g]? = some (.cells cur' t fr) ∧ cur'.size = cur.size := by
  have hlt : g < w.heap.size := lt_block h
  refine ⟨Go.Sort.putCells id 0 (Go.Sort.flatK pvE 3 dk) cur, ?_, by simp [Go.Sort.putCells]⟩
  show (w.heap.modify g _ ++ os)[g]? = _
  rw [Array.getElem?_append_left (by rw [Array.size_modify]; exact hlt), Array.getElem?_modify, if_pos rfl, h]
  rfl
/-- a row by what it shows -/
theorem rowE_of {w : World} {B g cap : Nat} {s : List Wh.E} {cur : Array Value} (hg : w.heap[g]? = some (.cells cur 39 (0, 0))) (hB : B ≤ g) (hn : s.length ≤ cap) (hm : cap ≤ maxLen) (hs : cur.size = cap * 3) (hv : ViewE w (some ⟨g, 0, none⟩) s) : RowE w B (.slice (some ⟨g, 0, none⟩) s.length cap) s := by
  refine ⟨cellsE_length s, Or.inr ⟨g, cap, cur, rfl, hB, hg, hn, hm, hs, ?_⟩⟩
  apply List.ext_getElem?
  intro k
  by_cases hk : k < s.length * 3
  · rw [List.getElem?_take_of_lt hk]
    obtain ⟨g', e, _, hc⟩ := hv.is (by omega)
    cases e
    have hj : k / 3 < s.length := by omega
    obtain ⟨e0, e1, e2⟩ := cellsE_get s (k / 3) hj
    obtain ⟨c0, c1, c2⟩ := hc (k / 3) hj
    have hcell : ∀ i, w.cell? ⟨g, i, none⟩ = cur[i]? := fun i => cell_of_row w g i cur _ _ hg
    rw [hcell] at c0 c1 c2
    have hm3 : k % 3 = 0 ∨ k % 3 = 1 ∨ k % 3 = 2 := by omega
    rw [Array.getElem?_toList]
    rcases hm3 with h | h | h
    · have e : k = k / 3 * 3 := by omega
      rw [e]; rw [c0, e0]
    · have e : k = k / 3 * 3 + 1 := by omega
      rw [e]; rw [c1, e1]
    · have e : k = k / 3 * 3 + 2 := by omega
      rw [e]; rw [c2, e2]
  · rw [List.getElem?_eq_none (by rw [List.length_take]; omega), List.getElem?_eq_none (by rw [cellsE_length]; omega)]
theorem sortedE_list (l : List Wh.E) (d' : Array Wh.E) (hn : l.Nodup) (hp : Go.Sort.PermIn 0 l.toArray.size l.toArray d') (hs : Go.Sort.SortedIn (ltOf cfE) 0 l.toArray.size d') : d' = (Wh.sortT l).toArray := by
  obtain ⟨hz, _, hperm⟩ := hp
  have hz2 : d'.size = l.length := by simpa using hz
  have hp2 : d'.toList.Perm l := by
    have e1 : d'.extract 0 l.toArray.size = d' := by rw [← hz]; simp
    have e2 : l.toArray.extract 0 l.toArray.size = l.toArray := by simp
    rw [e1, e2] at hperm
    simpa using hperm
  have hu : d'.toList.Pairwise Wh.less := by
    rw [List.pairwise_iff_getElem]
    intro i j hi hj hij
    have hi' : i < d'.size := by simpa using hi
    have hj' : j < d'.size := by simpa using hj
    have h1 := hs i j (Nat.zero_le _) hij (by simp; omega)
    rw [getElem!_pos d' j hj', getElem!_pos d' i hi', ltOf_cfE, decide_eq_false_iff_not] at h1
    rw [Array.getElem_toList, Array.getElem_toList]
    rcases Wh.less_tri d'[i] d'[j] with h | h | h
    · exact h
    · exfalso
      have hn2 := hp2.nodup_iff.2 hn
      have := List.nodup_iff_pairwise_ne.1 hn2
      rw [List.pairwise_iff_getElem] at this
      have h2 := this i j hi hj hij
      rw [Array.getElem_toList, Array.getElem_toList] at h2
      exact h2 h
    · exact absurd h h1
  have := Wh.sortT_is hu hp2 hn
  apply Array.toList_inj.1
  simpa using this
theorem sortEC (g cap B : Nat) (l : List Wh.E) (w : World) (h : RowE w B (.slice (some ⟨g, 0, none⟩) l.length cap) l) (h0 : 0 < l.length) (hn : l.Nodup) (hl : l.length ≤ 1000000) :
    Calls Try.prog 53 #[.slice (some ⟨g, 0, none⟩) l.length cap, .func (.func 54) #[] #[]] w (RetSortE g l w) := by
  have eg : ∀ args w, (callFunc 54 args).run Try.prog w = .ok (.enter 54 args) w := enters_of Try.func54 (by kernel_rfl) rfl
  have hlt : g < w.heap.size := by
    obtain ⟨g', e, hg, _⟩ := (viewAtE h).is h0
    cases e
    exact hg
  have hH := holdsE h
  have hcmp : CmpLays Try.prog 54 #[] pvE 3 cfE g 0 l.toArray.size w := fun _ _ _ _ x y => compareC x y _
  have hcon := AnyQ.slices_SortFunc Try.sortTimers 3 Try.isAgg39 Try.sizeOf39 pvE pvE_length pvE_one cfE swoE 54 #[] g 0 cap l.toArray w eg hcmp hH hlt (by simp; omega)
  rw [show l.toArray.size = l.length by simp] at hcon
  refine Calls.mono hcon ?_
  rintro e w' ⟨rfl, d', n, os, hp, hs, rfl⟩
  have hd := sortedE_list l d' hn (by simpa using hp) (by simpa using hs)
  subst hd
  have hsl : (Wh.sortT l).length = l.length := (Wh.sortT_perm l).length_eq
  have hblk : ∃ cur, w.heap[g]? = some (.cells cur 39 (0, 0)) := by
    obtain ⟨_, ⟨e, _⟩ | ⟨g', cap', cur, e, _, hc, _⟩⟩ := h
    · cases e
    · cases e
      exact ⟨cur, hc⟩
  obtain ⟨cur, hcur⟩ := hblk
  obtain ⟨cur', hb1, hb2⟩ := sortE_block w g n (Wh.sortT l).toArray os cur _ _ hcur
  refine ⟨rfl, viewE_of (Nat.lt_of_lt_of_le hlt (size_sortWorldK_c pvE 3 w g 0 n _ os)) ?_, sortE_chg w g n _ os, ⟨cur', hb1, fun c hc => by rw [hcur] at hc; injection hc with hc; injection hc with hc _ _; rw [hb2, hc]⟩⟩
  exact holdsK_sortWorldK_c pvE 3 w g 0 l.toArray _ n os hH hlt (by simp [hsl])
end Go.Proofs.Ytmmfmpnkjienfaa
