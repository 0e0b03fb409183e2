/-
  slices.Insert of one element into a slice of timers.
-/
import Derived.Test.YtmmfmpnkjienfaaDuB
import Derived.Laws.Externs
namespace Go.Proofs.Ytmmfmpnkjienfaa
open Go.RowKit
set_option linter.unusedVariables false

/-- the slice with the new element -/
structure RetIns (a : Option Addr) (B : Nat) (r' : List Wh.E) (w : World) (e : Ending) (w' : World) : Prop where
  r : ∃ a' cap', e = .returned (.slice a' r'.length cap') ∧ Rd w' B a' cap' r' ∧ ∀ x, a' = some x → (∃ y, a = some y ∧ x.block = y.block) ∨ w.heap.size ≤ x.block
  c : Chg (fun k => ∃ y, a = some y ∧ k = y.block) w w'
theorem ins_length {r : List Wh.E} {e : Wh.E} {i : Nat} (hi : i ≤ r.length) : (r.take i ++ e :: r.drop i).length = r.length + 1 := by
  rw [List.length_append, List.length_cons, List.length_take, List.length_drop]; omega
theorem ins_cells (r : List Wh.E) (e : Wh.E) (i : Nat) : cellsE (r.take i ++ e :: r.drop i) = cellsE (r.take i) ++ (pvE e ++ cellsE (r.drop i)) := by
  rw [cellsE_append]; rfl
theorem ins_get {r : List Wh.E} {e : Wh.E} {i : Nat} (hi : i ≤ r.length) (k : Nat) : (cellsE (r.take i ++ e :: r.drop i))[k]? = if k < i * 3 then (cellsE r)[k]? else if k < i * 3 + 3 then (pvE e)[k - i * 3]? else (cellsE r)[k - 3]? := by
  have htl : (cellsE (r.take i)).length = i * 3 := by rw [cellsE_length, List.length_take]; omega
  rw [ins_cells]
  by_cases h1 : k < i * 3
  · rw [if_pos h1, List.getElem?_append_left (by omega), ← cellsE_take, List.getElem?_take_of_lt h1]
  · rw [if_neg h1, List.getElem?_append_right (by omega), htl]
    by_cases h2 : k < i * 3 + 3
    · rw [if_pos h2, List.getElem?_append_left (by simp [pvE]; omega)]
    · rw [if_neg h2, List.getElem?_append_right (by simp [pvE]; omega), ← cellsE_drop, List.getElem?_drop]
      congr 1
      simp [pvE]
      omega
theorem pvE_ones (x : Wh.E) : ∀ v ∈ pvE x, v.oneCell' = true := by
  intro v hv
  simp [pvE] at hv
  rcases hv with rfl | rfl | rfl <;> rfl

/-- at the end, where there is room -/
theorem ins_end {w w' : World} {B g off cap : Nat} {r : List Wh.E} {e : Wh.E} {cur : List Value} (h : Rd w B (some ⟨g, off, none⟩) cap r) (hg : w.heap[g]? = some (.cells cur.toArray 39 (0, 0))) (hroom : r.length + 1 ≤ cap)
    (hw' : w'.heap[g]? = some (.cells (splice cur (off + r.length * 3) (pvE e)).toArray 39 (0, 0))) : Rd w' B (some ⟨g, off, none⟩) cap (r ++ [e]) := by
  obtain ⟨g', off', cur', e', hB, hg', hs, hc⟩ := h.is _ rfl
  cases e'
  rw [hg] at hg'
  injection hg' with hg'
  injection hg' with hg' _ _
  have : cur = cur' := by simpa using hg'
  subst this
  have hle : off + r.length * 3 + (pvE e).length ≤ cur.length := by simp [pvE]; omega
  refine ⟨by simp; omega, h.mx, fun hx => (by cases hx), fun x hx => ?_⟩
  cases hx
  refine ⟨g, off, _, rfl, hB, hw', by rw [length_splice _ _ _ hle]; exact hs, fun k hk => ?_⟩
  have e2 := ins_get (r := r) (e := e) (i := r.length) (Nat.le_refl _) k
  rw [List.take_length, List.drop_length] at e2
  rw [e2, splice_get _ _ _ hle]
  simp only [List.length_append, List.length_cons, List.length_nil] at hk
  by_cases h1 : k < r.length * 3
  · rw [if_pos (by omega), if_pos h1, hc k h1]
  · rw [if_neg (by omega), if_pos (by simp [pvE]; omega), if_neg h1, if_pos (by omega)]
    congr 1
    omega
/-- inside, where there is room -/
theorem ins_shift {w w' : World} {B g off cap i : Nat} {r : List Wh.E} {e : Wh.E} {cur : List Value} (h : Rd w B (some ⟨g, off, none⟩) cap r) (hg : w.heap[g]? = some (.cells cur.toArray 39 (0, 0))) (hi : i < r.length) (hroom : r.length + 1 ≤ cap)
    (hw' : w'.heap[g]? = some (.cells (splice (splice cur (off + (i + 1) * 3) (cellsE (r.drop i))) (off + i * 3) (pvE e)).toArray 39 (0, 0))) : Rd w' B (some ⟨g, off, none⟩) cap (r.take i ++ e :: r.drop i) := by
  obtain ⟨g', off', cur', e', hB, hg', hs, hc⟩ := h.is _ rfl
  cases e'
  rw [hg] at hg'
  injection hg' with hg'
  injection hg' with hg' _ _
  have : cur = cur' := by simpa using hg'
  subst this
  have hdl : (cellsE (r.drop i)).length = (r.length - i) * 3 := by rw [cellsE_length, List.length_drop]
  have hle1 : off + (i + 1) * 3 + (cellsE (r.drop i)).length ≤ cur.length := by rw [hdl]; omega
  have hl1 := length_splice _ _ _ hle1
  have hle2 : off + i * 3 + (pvE e).length ≤ (splice cur (off + (i + 1) * 3) (cellsE (r.drop i))).length := by rw [hl1]; simp [pvE]; omega
  refine ⟨by rw [ins_length (by omega)]; exact hroom, h.mx, fun hx => (by cases hx), fun x hx => ?_⟩
  cases hx
  refine ⟨g, off, _, rfl, hB, hw', by rw [length_splice _ _ _ hle2, hl1]; exact hs, fun k hk => ?_⟩
  rw [ins_length (by omega)] at hk
  rw [ins_get (by omega), splice_get _ _ _ hle2]
  by_cases h1 : k < i * 3
  · rw [if_pos (by omega), if_pos h1, splice_get _ _ _ hle1, if_pos (by omega), hc k (by omega)]
  · by_cases h2 : k < i * 3 + 3
    · rw [if_neg (by omega), if_pos (by simp [pvE]; omega), if_neg h1, if_pos h2]
      congr 1
      omega
    · rw [if_neg (by omega), if_neg (by simp [pvE]; omega), if_neg h1, if_neg h2, splice_get _ _ _ hle1, if_neg (by omega), if_pos (by rw [hdl]; omega), ← cellsE_drop, List.getElem?_drop]
      congr 1
      omega
/-- a new row -/
theorem ins_new {w' : World} {B g cap : Nat} {s : List Wh.E} {cur : List Value} (hB : B ≤ g) (hw' : w'.heap[g]? = some (.cells cur.toArray 39 (0, 0))) (hle : s.length ≤ cap) (hmx : cap ≤ 9223372036854775807) (hs : cap * 3 ≤ cur.length)
    (hc : ∀ k, k < s.length * 3 → cur[k]? = (cellsE s)[k]?) : Rd w' B (some ⟨g, 0, none⟩) cap s := by
  refine ⟨hle, hmx, fun hx => (by cases hx), fun x hx => ?_⟩
  cases hx
  exact ⟨g, 0, cur, rfl, hB, hw', by omega, fun k hk => by rw [Nat.zero_add]; exact hc k hk⟩

/-- the element to be inserted, in a block of its own -/
structure New1 (w : World) (vb : Nat) (e : Wh.E) : Prop where
  c : w.heap[vb]? = some (.cells (pvE e).toArray 39 (0, 0))
theorem New1.src {w : World} {vb : Nat} {e : Wh.E} (h : New1 w vb e) (j : Nat) (v : Value) (hj : (pvE e)[j]? = some v) : w.cell? ((⟨vb, 0, none⟩ : Addr).add j) = some v := by
  rw [Addr.add_lit, Nat.zero_add, cell_of_row w vb j _ _ _ h.c]
  simpa using hj

set_option maxRecDepth 100000 in
set_option maxHeartbeats 4000000 in
theorem insertEndRoom (w : World) (B g off cap vb : Nat) (r : List Wh.E) (e : Wh.E) (h : Rd w B (some ⟨g, off, none⟩) cap r) (hv : New1 w vb e) (hroom : r.length + 1 ≤ cap) :
    Calls Try.prog 33 #[.slice (some ⟨g, off, none⟩) r.length cap, .int .i64 (r.length : Int), .slice (some ⟨vb, 0, none⟩) 1 1] w (RetIns (some ⟨g, off, none⟩) B (r ++ [e]) w) := by
  obtain ⟨g', off', cur, e', hB, hg, hs, hc⟩ := h.is _ rfl
  cases e'
  have hmx := h.mx
  have hfit : off + r.length * 3 + (pvE e).length ≤ cur.length := by simp [pvE]; omega
  have HE := Lib.hid (fun w' hw' => ins_end (w' := w') (e := e) h hg hroom hw')
  have HV := Lib.hid hv.src
  have HG := Lib.hid hg
  have HFIT := Lib.hid hfit
  have HL := Lib.hid (show (pvE e).length = 1 * 3 from rfl)
  have H1 := Lib.hid (pvE_ones e)
  have hl : (r ++ [e]).length = r.length + 1 := by simp
  rw [← hl] at hroom
  obtain ⟨n, hn⟩ : ∃ n, n = r.length := ⟨_, rfl⟩
  obtain ⟨X, hX⟩ : ∃ X, X = pvE e := ⟨_, rfl⟩
  rw [← hX] at HE HV HFIT HL H1
  rw [← hn] at HE HFIT hl ⊢
  rw [hl] at hroom
  have HN := Lib.hid hl
  have hnc : n ≤ cap := by omega
  clear hs hc h hv hg hfit hn hX hl
  go_enter Try.func33, Try.ntmps33
  go_wp2_with (at_builtin; refine wpAppRoomO rfl _ _ 28 rfl 39 3 Try.underlying28 sizeTimer g off n cap rfl cur HG.out ⟨vb, 0, none⟩ 1 1 X rfl HL.out HV.out H1.out hroom HFIT.out ?_; intro w1 hg1 hc1)
  go_ret
  refine ⟨⟨_, _, by rw [HN.out]; rfl, HE.out w1 hg1.out, fun x hx => Or.inl ⟨_, rfl, by cases hx; rfl⟩⟩, hc1.mono (fun k hk => Or.inl ⟨_, rfl, hk⟩)⟩

/-- where there is no room: a new row behind the old world -/
structure Grown (w w1 : World) (G : Nat) (cur : List Value) : Prop where
  c : w1.heap[w.heap.size]? = some (.cells cur.toArray 39 (0, 0))
  b : Below w.heap.size w w1
  m : G ≤ 9223372036854775807
  l : cur.length = G * 3
theorem grown_alloc (w : World) (n c G : Nat) (cur : Array Value) (hm : n ≤ 1000000) (hG : G = grownCap w n c 39) (hl : cur.size = G * 3) : n ≤ G ∧ Grown w (w.drew.alloc (.cells cur 39)) G cur.toList := by
  have h1 := grownCap_ge w n c 39
  have h2 := grownCap_le_maxLen w n c 39 (by unfold maxLen; omega)
  rw [← hG] at h1 h2
  refine ⟨h1, ?_, ?_, h2, by simpa using hl⟩
  · have := heap_alloc_new w.drew (.cells cur 39)
    rw [Array.toArray_toList]
    exact this
  · exact (Below.refl w.heap.size w).drew.alloc (Nat.le_refl _) _
theorem growE (w : World) (B : Nat) (a : Option Addr) (cap vb : Nat) (r : List Wh.E) (e : Wh.E) (hn : r.length ≤ 100000) (h : Rd w B a cap r) (hv : New1 w vb e) (hroom : cap = r.length) :
    ∃ w1 G cur, (∀ ty, (Builtin.append_ #[28, 28] ty #[.slice a r.length cap, .slice (some ⟨vb, 0, none⟩) 1 1]).run Try.prog w = .ok (.slice (some ⟨w.heap.size, 0, none⟩) (r.length + 1) G) w1) ∧ Grown w w1 G cur ∧ r.length + 1 ≤ G ∧ ∀ k, k < (r ++ [e]).length * 3 → cur[k]? = (cellsE (r ++ [e]))[k]? := by
  obtain ⟨i, hi, hz0, hz1, hz2⟩ := info_parts infoTimer
  have hsrc : Src Try.prog i.size 28 (.slice (some ⟨vb, 0, none⟩) 1 1) 1 (pvE e) w := Src.ofSlice w Try.underlying28 ⟨vb, 0, none⟩ 1 1 (pvE e) (by rw [hz1]; rfl) hv.src (pvE_ones e)
  have hold : (Builtin.firstCells i.size r.length (.slice a r.length cap)).run Try.prog w.drew = .ok (cellsE r).toArray w.drew := by
    rw [hz1]
    cases a with
    | none =>
      have h0 := h.nil rfl
      have : r = [] := List.length_eq_zero_iff.1 (by omega)
      subst this
      exact run_firstCells_none _ _ _ _ _
    | some x =>
      obtain ⟨g, off, cur, rfl, hB, hg, hs, hc⟩ := h.is x rfl
      refine run_firstCells_some w.drew 3 r.length _ _ _ (cellsE r) (cellsE_length r) (fun j v hj => ?_)
      have hjl : j < r.length * 3 := by rw [← cellsE_length]; exact (List.getElem?_eq_some_iff.1 hj).1
      rw [Addr.add_lit]
      show w.cell? _ = _
      rw [cell_of_row w g _ _ _ _ hg]
      have := hc j hjl
      rw [hj] at this
      simpa using this
  obtain ⟨G, hG⟩ : ∃ G, G = grownCap w (r.length + 1) cap 39 := ⟨_, rfl⟩
  have hrun : ∀ ty, _ := fun ty => run_append_grow_src w 28 28 ty 39 i _ Try.underlying28 hi hz0 a r.length cap (cellsE r) hold _ 1 (pvE e) hsrc (by omega) (by omega) (by rw [hz2]; exact growslice_fits (by omega) (by omega))
  rw [← hG] at hrun
  have hGe : r.length + 1 ≤ G := by rw [hG]; exact grownCap_ge _ _ _ _
  have hsz : ((cellsE r ++ pvE e).toArray ++ Builtin.zeroCells (Value.agg #[.int .i64 0, .int .i64 0, .int .u64 0]).cells (G - (r.length + 1))).size = G * 3 := by
    rw [Array.size_append, size_zeroCells]
    simp only [List.size_toArray, List.length_append, cellsE_length]
    rw [show (pvE e).length = 3 from rfl, show (Value.agg #[.int .i64 0, .int .i64 0, .int .u64 0]).cells.size = 3 from rfl]
    omega
  have hgr := grown_alloc w (r.length + 1) cap G _ (by omega) hG hsz
  refine ⟨_, G, _, hrun, hgr.2, hGe, fun k hk => ?_⟩
  rw [Array.toList_append, List.toList_toArray, List.getElem?_append_left (by rw [List.length_append, cellsE_length, show (pvE e).length = 3 from rfl]; simp at hk; omega), cellsE_append]
  rfl
set_option maxRecDepth 100000 in
set_option maxHeartbeats 4000000 in
theorem insertEndGrow (w : World) (B : Nat) (a : Option Addr) (cap vb : Nat) (r : List Wh.E) (e : Wh.E) (hB : B ≤ w.heap.size) (hn : r.length ≤ 100000) (h : Rd w B a cap r) (hv : New1 w vb e) (hroom : cap = r.length) :
    Calls Try.prog 33 #[.slice a r.length cap, .int .i64 (r.length : Int), .slice (some ⟨vb, 0, none⟩) 1 1] w (RetIns a B (r ++ [e]) w) := by
  obtain ⟨w1, G, cur, hrun, hgr, hG, hc⟩ := growE w B a cap vb r e hn h hv hroom
  have hl : (r ++ [e]).length = r.length + 1 := by simp
  have hfin : RetIns a B (r ++ [e]) w (.returned (.slice (some ⟨w.heap.size, 0, none⟩) (r.length + 1) G)) w1 :=
    ⟨⟨_, G, by rw [hl], ins_new hB hgr.c (by rw [hl]; exact hG) hgr.m (by rw [hgr.l]; omega) hc, fun x hx => Or.inr (by cases hx; exact Nat.le_refl _)⟩, Chg.of_below hgr.b⟩
  have hnil : a = none → r.length = 0 := fun ha => by have := h.nil ha; omega
  have HF := Lib.hid hfin
  have HR := Lib.hid hrun
  have HNIL := Lib.hid hnil
  subst hroom
  obtain ⟨n, hn⟩ : ∃ n, n = r.length := ⟨_, rfl⟩
  rw [← hn] at HF HR HNIL ⊢
  clear hfin hrun h hv hl hc hgr hG hn hnil
  cases a with
  | none =>
    have h0 := HNIL.out rfl
    subst h0
    go_enter Try.func33, Try.ntmps33
    go_wp2_with (at_builtin; refine Lib.wpList_append_run _ rfl _ _ _ _ rfl _ _ rfl rfl _ _ (HR.out _) ?_)
    go_ret
    exact HF.out
  | some x =>
    obtain ⟨xb, xo, xs⟩ := x
    go_enter Try.func33, Try.ntmps33
    go_wp2_with (at_builtin; refine Lib.wpList_append_run _ rfl _ _ _ _ rfl _ _ rfl rfl _ _ (HR.out _) ?_)
    all_goals (go_ret; exact HF.out)
end Go.Proofs.Ytmmfmpnkjienfaa
