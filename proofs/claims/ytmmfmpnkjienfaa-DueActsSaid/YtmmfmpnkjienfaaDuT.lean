/-
  The document's set of timers: Next, without; the set behind its pointer, Clear.
-/
import Derived.Test.YtmmfmpnkjienfaaDuS
namespace Go.Proofs.Ytmmfmpnkjienfaa
open Go.RowKit
set_option linter.unusedVariables false

theorem least_next {l : List Wh.E} {j : Nat} (h : Wh.Least l j) : ∃ hj : j < l.length, Wh.nextR l = some l[j].2 := by
  obtain ⟨hj, hl⟩ := h
  refine ⟨hj, Wh.nextR_of ⟨l[j], List.getElem_mem hj, rfl⟩ (fun x hx => ?_)⟩
  obtain ⟨q, hq, rfl⟩ := List.getElem_of_mem hx
  have := hl q hq
  unfold Wh.less at this
  omega
set_option maxRecDepth 100000 in
set_option maxHeartbeats 1000000 in
theorem refNextDC (now : Int) (a : Option Addr) (cap : Nat) (l : List Wh.E) (w : World) (hl : l.length ≤ 1000000) (h : ViewD w a l) :
    Calls Try.prog 12 #[.agg #[.int .u64 now, .slice a l.length cap]] w (Ret (atV (Wh.nextR l)) w) := by
  have hbx : Below w.heap.size w (w.alloc (.cells #[.int .u64 now, .slice a l.length cap] 30)) := (Below.refl _ _).alloc (Nat.le_refl _) _
  have kl := refLeastC now a cap l _ hl (h.below hbx)
  have hq1 : ∀ wA, Below (w.alloc (.cells #[.int .u64 now, .slice a l.length cap] 30)).heap.size (w.alloc (.cells #[.int .u64 now, .slice a l.length cap] 30)) wA → wA.cell? ⟨w.heap.size, 1, none⟩ = some (.slice a l.length cap) ∧ Below w.heap.size w wA ∧ ViewD wA a l := fun wA hb =>
    ⟨(hb.cell (p := ⟨w.heap.size, 1, none⟩) (alloc_lt _ _)).trans (World.cell?_alloc_at _ _ _ 1 rfl), hbx.trans (hb.mono hbx.size), (h.below hbx).below hb⟩
  have HQ := Lib.hid hq1
  by_cases h0 : l = []
  · subst h0
    have kl' : Calls Try.prog 29 #[.agg #[.int .u64 now, .slice a 0 cap]] (w.alloc (.cells #[.int .u64 now, .slice a 0 cap] 30)) (Ret (.int .i64 (-1)) (w.alloc (.cells #[.int .u64 now, .slice a 0 cap] 30))) := kl.mono fun e w' hr => by
      obtain ⟨r, rfl, ⟨rfl, _⟩ | ⟨j, _, hj, _⟩⟩ := hr.r
      · exact ⟨rfl, hr.b⟩
      · exact absurd hj (Nat.not_lt_zero _)
    rw [show atV (Wh.nextR []) = .tuple #[.int .u64 0, .bool false] from rfl]
    have KL := Lib.hid kl'
    clear kl kl' hbx h hq1
    go_enter Try.func12, Try.ntmps12
    go_wp2_with (go_at_call 29; (with_reducible refine KL.out.mono ?_); rintro e wA ⟨rfl, hbA⟩; have HA := Lib.hid (HQ.out _ hbA).2.1; clear hbA)
    go_ret2
    exact ⟨rfl, HA.out⟩
  · have kl' : ∃ j : Nat, ∃ hj : j < l.length, Wh.nextR l = some l[j].2 ∧ True := by
      cases hf : Wh.nextR l with
      | none => cases l with
        | nil => exact absurd rfl h0
        | cons x r => cases hf
      | some m =>
        obtain ⟨⟨e, he, h1⟩, _⟩ := Wh.nextR_is hf
        obtain ⟨j, hj, rfl⟩ := List.getElem_of_mem he
        exact ⟨j, hj, by rw [h1], trivial⟩
    have kl2 : Calls Try.prog 29 #[.agg #[.int .u64 now, .slice a l.length cap]] (w.alloc (.cells #[.int .u64 now, .slice a l.length cap] 30)) fun e wA => ∃ (j g : Nat) (t : Int), e = .returned (.int .i64 (j : Int)) ∧ j < l.length ∧ a = some ⟨g, 0, none⟩ ∧ wA.cell? ⟨w.heap.size, 1, none⟩ = some (.slice a l.length cap) ∧ wA.cell? ⟨g, j * 3 + 2, none⟩ = some (.int .u64 t) ∧ Hid (Ret (atV (Wh.nextR l)) w (.returned (.tuple #[.int .u64 t, .bool true])) wA) := kl.mono fun e wA hr => by
      obtain ⟨r, rfl, ⟨_, h1⟩ | ⟨j, rfl, hj⟩⟩ := hr.r
      · exact absurd h1 h0
      · obtain ⟨hjl, hn⟩ := least_next hj
        obtain ⟨c1, hb, hv⟩ := hq1 wA hr.b
        obtain ⟨g, ha, hg, hc⟩ := hv.is (by omega)
        exact ⟨j, g, l[j].2, rfl, hjl, ha, c1, (hc j hjl).2.2, Lib.hid ⟨by rw [hn]; rfl, hb⟩⟩
    have KL := Lib.hid kl2
    clear kl kl' kl2 hbx h hq1 h0 HQ
    generalize atV (Wh.nextR l) = V at *
    go_enter Try.func12, Try.ntmps12
    go_wp2_with (go_at_call 29; (with_reducible refine KL.out.mono ?_); rintro e wA ⟨j, g, t, rfl, hjl, rfl, c1, c2, hR⟩; have HR := Lib.hid hR; clear hR)
    go_ret2
    exact HR.out.out

/-- all but one: a new row -/
structure RetRowD (l' : List Wh.E) (w : World) (e : Ending) (w' : World) : Prop where
  r : ∃ v, e = .returned v ∧ RowD w' w.heap.size v l'
  b : Below w.heap.size w w'
theorem erase_take (l : List Wh.E) (at_ k : Nat) (h : k < l.length) : (l.take (k + 1)).eraseIdx at_ = if k = at_ then (l.take k).eraseIdx at_ else (l.take k).eraseIdx at_ ++ [l[k]] := by
  have e : l.take (k + 1) = l.take k ++ [l[k]] := by
    rw [List.take_add_one, List.getElem?_eq_getElem h]; rfl
  have hl : (l.take k).length = k := by rw [List.length_take]; omega
  rw [e]
  by_cases h1 : k = at_
  · subst h1
    rw [if_pos rfl, List.eraseIdx_append_of_length_le (by omega), hl, Nat.sub_self, List.eraseIdx_of_length_le (l := l.take k) (by omega)]
    simp
  · rw [if_neg h1]
    by_cases h2 : at_ < k
    · rw [List.eraseIdx_append_of_lt_length (by omega)]
    · rw [List.eraseIdx_append_of_length_le (by omega), List.eraseIdx_of_length_le (l := l.take k) (by omega), hl, List.eraseIdx_of_length_le (by simp; omega)]
set_option maxRecDepth 100000 in
set_option maxHeartbeats 2000000 in
theorem refWithoutC (now : Int) (at_ : Nat) (a : Option Addr) (cap : Nat) (l : List Wh.E) (w : World) (hl : l.length ≤ 1000000) (ha : at_ < l.length) (h : ViewD w a l) :
    Calls Try.prog 40 #[.agg #[.int .u64 now, .slice a l.length cap], .int .i64 (at_ : Int)] w (RetRowD (l.eraseIdx at_) w) := by
  have hb1 : Below w.heap.size w (w.alloc (.cells #[.int .u64 now, .slice a l.length cap] 30)) := (Below.refl _ _).alloc (Nat.le_refl _) _
  have hq : (w.alloc (.cells #[.int .u64 now, .slice a l.length cap] 30)).heap[w.heap.size]? = _ := heap_alloc_new _ _
  have hb2 : Below (w.heap.size + 1) (w.alloc (.cells #[.int .u64 now, .slice a l.length cap] 30)) ((w.alloc (.cells #[.int .u64 now, .slice a l.length cap] 30)).alloc (.cells #[] 39)) := (Below.refl _ _).alloc (by simp) _
  have hrow0 : RowD ((w.alloc (.cells #[.int .u64 now, .slice a l.length cap] 30)).alloc (.cells #[] 39)) (w.heap.size + 1) (.slice (some ⟨w.heap.size + 1, 0, none⟩) 0 0) [] := by
    have := RowD.lit (w.alloc (.cells #[.int .u64 now, .slice a l.length cap] 30)) (w.heap.size + 1) (by simp)
    simpa using this
  obtain ⟨W1, hW1⟩ : ∃ W1, W1 = w.alloc (.cells #[.int .u64 now, .slice a l.length cap] 30) := ⟨_, rfl⟩
  have hz1 : W1.heap.size = w.heap.size + 1 := by rw [hW1]; simp
  have HB1 : Hid (Below w.heap.size w W1) := by rw [hW1]; exact Lib.hid hb1
  have HQ : Hid (W1.heap[w.heap.size]? = some (.cells #[.int .u64 now, .slice a l.length cap] 30)) := by rw [hW1]; exact Lib.hid hq
  have HB2 : Hid (Below (w.heap.size + 1) W1 ((w.alloc (.cells #[.int .u64 now, .slice a l.length cap] 30)).alloc (.cells #[] 39))) := by rw [hW1]; exact Lib.hid hb2
  have HROW0 := Lib.hid hrow0
  have HZ := Lib.hid hz1
  have HV := Lib.hid h
  clear hb1 hq hb2 hrow0 hW1 h hz1
  go_enter Try.func40, Try.ntmps40
  go_wp2
  go_loopw [5, 6] (fun u s wr => ∃ k : Nat, k ≤ l.length ∧ s = .int .i64 (k : Int) ∧ Hid (RowD wr (w.heap.size + 1) u ((l.take k).eraseIdx at_)) ∧ Hid (Below (w.heap.size + 1) W1 wr)) (fun _ s _ => l.length - (intOf s).toNat)
  case atStart => exact ⟨0, Nat.zero_le _, rfl, by simpa using HROW0, HB2⟩
  case round =>
    obtain ⟨k, hk, rfl, hrow, hb⟩ := hrel
    clear HROW0 HB2
    obtain ⟨a', c', rfl⟩ := own_some hrow.out
    have hcw := (hb.out.block w.heap.size (by omega)).trans HQ.out
    have c1 : wr.cell? ⟨w.heap.size, 1, none⟩ = some (.slice a l.length cap) := by rw [cell_of_row wr _ _ _ _ _ hcw]; rfl
    have hb0 : w.heap.size + 1 ≤ wr.heap.size := by have := hb.out.size; have := HZ.out; omega
    by_cases hlt : k < l.length
    · have het := erase_take l at_ k hlt
      obtain ⟨g, rfl, hg, hc⟩ := HV.out.is (by omega)
      obtain ⟨d0, d1, d2⟩ := hc k hlt
      have hbw : Below w.heap.size w wr := HB1.out.trans (hb.out.mono (by omega))
      replace d0 := (hbw.cell (p := ⟨g, k * 3, none⟩) hg).trans d0
      replace d1 := (hbw.cell (p := ⟨g, k * 3 + 1, none⟩) hg).trans d1
      replace d2 := (hbw.cell (p := ⟨g, k * 3 + 2, none⟩) hg).trans d2
      have hlen : ((l.take k).eraseIdx at_).length ≤ 1000000 := by
        have := List.length_eraseIdx_le (l.take k) at_
        rw [List.length_take] at this
        omega
      clear hc hcw hbw
      by_cases e : k = at_
      · rw [if_pos e] at het
        have HET := Lib.hid het
        have t1 : ((k : Int) != (at_ : Int)) = false := by simp; omega
        clear het e
        go_wp2
        go_roundw
        case rel => exact ⟨k + 1, by omega, by go_num, by rw [HET.out]; exact hrow, hb⟩
        case measure => simp [intOf]; omega
      · rw [if_neg e] at het
        have HET := Lib.hid het
        have t1 : ((k : Int) != (at_ : Int)) = true := by simp; omega
        have hsn : ∀ {wn : World} {v : Value}, wn.ownsRow (w.heap.size + 1) 39 3 v (((l.take k).eraseIdx at_).length + 1) (cellsD ((l.take k).eraseIdx at_) ++ [.int .i64 (Wh.kd l[k]), .int .i64 (Wh.nm l[k]), .int .u64 l[k].2]) → RowD wn (w.heap.size + 1) v ((l.take (k + 1)).eraseIdx at_) := fun {wn v} ho => by rw [HET.out]; exact RowD.snoc ho
        have HSN := Lib.hid (fun wn v ho => hsn (wn := wn) (v := v) ho)
        have hOA : wr.ownsRow (w.heap.size + 1) 39 3 (.slice a' ((l.take k).eraseIdx at_).length c') ((l.take k).eraseIdx at_).length (cellsD ((l.take k).eraseIdx at_)) := hrow.out
        have HOA := Lib.hid hOA
        clear het e hsn hOA hrow HET
        generalize (l.take k).eraseIdx at_ = m at *
        generalize Wh.kd l[k] = x0 at *
        generalize Wh.nm l[k] = x1 at *
        generalize l[k].2 = x2 at *
        go_wp2_with (at_builtin; (refine wpApp wr rfl _ _ 28 rfl (w.heap.size + 1) 39 _ 3 24 Try.underlying28 infoTimer rfl (by decide) (by decide) (.slice a' m.length c') m.length (cellsD m) rfl HOA.out #[.int .i64 x0, .int .i64 x1, .int .u64 x2] _ rfl rfl (fun u hu => by simp at hu; rcases hu with rfl | rfl | rfl <;> rfl) (by omega) hb0 ?_); intro v' w2 hown hb2 hkeep)
        have hrow2 := Lib.hid (HSN.out _ _ hown)
        go_roundw
        case rel => exact ⟨k + 1, by omega, by go_num, hrow2, Lib.hid (hb.out.trans hb2)⟩
        case measure => simp [intOf]; omega
    · obtain rfl : k = l.length := by omega
      simp only [List.take_length] at hrow ⊢
      have hbw := Lib.hid (HB1.out.trans (hb.out.mono (by omega)))
      have HR := Lib.hid (own_base hrow.out (Nat.le_succ w.heap.size))
      generalize l.eraseIdx at_ = m at *
      clear hcw hrow
      go_wp2
      go_ret
      exact ⟨⟨_, rfl, HR.out⟩, hbw.out⟩

/-! ### behind its pointer -/
/-- block R is the document's set: its tick, its list in the slice v -/
structure RefS (w : World) (B R : Nat) (now : Int) (v : Value) (l : List Wh.E) : Prop where
  cell : w.heap[R]? = some (.cells #[.int .u64 now, v] 30 (0, 0))
  row : RowD w B v l
  base : B ≤ R
def RefG (R : Nat) (v : Value) (k : Nat) : Prop := k = R ∨ v.ownBlock = some k
theorem RefS.ne {w : World} {B R : Nat} {now : Int} {v : Value} {l : List Wh.E} (h : RefS w B R now v l) : some R ≠ v.ownBlock := own_ne h.row h.cell (by decide)
theorem RefS.lt {w : World} {B R : Nat} {now : Int} {v : Value} {l : List Wh.E} (h : RefS w B R now v l) : ∀ k, RefG R v k → B ≤ k ∧ k < w.heap.size := by
  rintro k (rfl | hk)
  · exact ⟨h.base, lt_block h.cell⟩
  · exact World.ownsRow.lt h.row k hk
theorem RefS.keep {w w' : World} {B R : Nat} {now : Int} {v : Value} {l : List Wh.E} (h : RefS w B R now v l) (hk : ∀ k, RefG R v k → w'.heap[k]? = w.heap[k]?) : RefS w' B R now v l :=
  ⟨(hk R (Or.inl rfl)).trans h.cell, own_keep h.row (fun k e => hk k (Or.inr e)), h.base⟩
theorem RefS.below {w w' : World} {B R : Nat} {now : Int} {v : Value} {l : List Wh.E} (h : RefS w B R now v l) (hb : Below w.heap.size w w') : RefS w' B R now v l :=
  h.keep (fun k hk => hb.block k (h.lt k hk).2)
theorem RefS.apart {w w' : World} {B R : Nat} {now : Int} {v : Value} {l : List Wh.E} {F : Nat → Prop} (h : RefS w B R now v l) (hc : Chg F w w') (hd : ∀ k, RefG R v k → ¬ F k) : RefS w' B R now v l :=
  h.keep (fun k hk => hc.block k (h.lt k hk).2 (hd k hk))
theorem RefS.c0 {w : World} {B R : Nat} {now : Int} {v : Value} {l : List Wh.E} (h : RefS w B R now v l) : w.cell? ⟨R, 0, none⟩ = some (.int .u64 now) := by rw [cell_of_row w R _ _ _ _ h.cell]; rfl
theorem RefS.c1 {w : World} {B R : Nat} {now : Int} {v : Value} {l : List Wh.E} (h : RefS w B R now v l) : w.cell? ⟨R, 1, none⟩ = some v := by rw [cell_of_row w R _ _ _ _ h.cell]; rfl
theorem RefS.fr {w : World} {B R : Nat} {now : Int} {v : Value} {l : List Wh.E} (h : RefS w B R now v l) (i : Nat) : w.frozen? ⟨R, i, none⟩ = false := frozen_of w R i _ _ h.cell
/-- it returns r; the document's set holds l' at tick n' -/
structure RetRS (r : Value) (B R : Nat) (now' : Int) (v : Value) (l' : List Wh.E) (w : World) (e : Ending) (w' : World) : Prop where
  r : e = .returned r
  s : ∃ v', RefS w' B R now' v' l' ∧ ∀ k, v'.ownBlock = some k → v.ownBlock = some k ∨ w.heap.size ≤ k
  c : Chg (RefG R v) w w'
theorem RefS.asks {r : Value} {B R : Nat} {now : Int} {v : Value} {l : List Wh.E} {w w' : World} {e : Ending} (he : e = .returned r) (h : RefS w B R now v l) (hb : Below w.heap.size w w') : RetRS r B R now v l w e w' :=
  ⟨he, ⟨v, h.below hb, fun k hk => Or.inl hk⟩, Chg.of_below hb⟩
/-- one call behind another -/
theorem RetRS.then {r' : Value} {B R : Nat} {n n' : Int} {v v1 : Value} {l l' : List Wh.E} {w w1 w2 : World} {e : Ending} (hs : ∀ k, v1.ownBlock = some k → v.ownBlock = some k ∨ w.heap.size ≤ k) (hc : Chg (RefG R v) w w1) (h : RetRS r' B R n' v1 l' w1 e w2) : RetRS r' B R n' v l' w e w2 := by
  obtain ⟨v2, g1, g2⟩ := h.s
  have hz := hc.size
  refine ⟨h.r, ⟨v2, g1, fun k hk => ?_⟩, hc.trans h.c (fun k hk => ?_)⟩
  · rcases g2 k hk with e | e
    · exact hs k e
    · exact Or.inr (by omega)
  · rcases hk with e | e
    · exact Or.inl (Or.inl e)
    · rcases hs k e with e | e
      · exact Or.inl (Or.inr e)
      · exact Or.inr e
/-- the list is stored -/
theorem refs_stored {w : World} {B R : Nat} {now : Int} {v v' : Value} {l' : List Wh.E} (hc : w.heap[R]? = some (.cells #[.int .u64 now, v] 30 (0, 0))) (hr : RowD w B v' l') (hB : B ≤ R) : RefS (w.setCell ⟨R, 1, none⟩ v') B R now v' l' := by
  have h1 := setCell_block w R 1 _ _ v' hc
  have hne : some R ≠ v'.ownBlock := own_ne hr hc (by decide)
  refine ⟨h1, own_keep hr (fun k hk => Below.heap_setCell _ _ _ _ ?_), hB⟩
  intro e
  exact hne (by rw [hk]; exact congrArg some e.symm)
/-- the tick is stored -/
theorem RefS.ticked {w : World} {B R : Nat} {now now' : Int} {v : Value} {l : List Wh.E} (h : RefS w B R now v l) : RefS (w.setCell ⟨R, 0, none⟩ (.int .u64 now')) B R now' v l := by
  have h1 := setCell_block w R 0 _ _ (.int .u64 now') h.cell
  refine ⟨h1, own_keep h.row (fun k hk => Below.heap_setCell _ _ _ _ ?_), h.base⟩
  intro e
  exact h.ne (by rw [hk]; exact congrArg some e.symm)

set_option maxRecDepth 100000 in
set_option maxHeartbeats 2000000 in
theorem refClearC (k i now : Int) (B R : Nat) (v : Value) (l : List Wh.E) (w : World) (hl : l.length ≤ 1000000) (hn : (l.map (·.1)).Nodup) (hg : Wh.Good l) (h : RefS w B R now v l) :
    Calls Try.prog 23 #[.pointer (some ⟨R, 0, none⟩), .int .i64 k, .int .i64 i] w (RetRS (.bool (atR2 l k i).isSome) B R now v (clearL l k i) w) := by
  obtain ⟨a, cap, rfl, hv⟩ := h.row.view
  have c0 := h.c0
  have c1 := h.c1
  have kf := refFindC now k i a cap l w hl hv
  cases hf : atR2 l k i with
  | none =>
    have hcl : clearL l k i = l := by
      unfold clearL
      unfold atR2 at hf
      by_cases hm : Wh.May k i
      · rw [if_pos hm] at hf ⊢
        exact Wh.without_none hf
      · rw [if_neg hm]
    have hno : ∀ x ∈ l, ¬ (Wh.kd x = k ∧ Wh.nm x = i) := by
      intro x hx hk
      have hm := Wh.may_of hg hx
      rw [hk.1, hk.2] at hm
      unfold atR2 at hf
      rw [if_pos hm] at hf
      exact Wh.find_none.1 hf x hx ((Wh.key_eq hg hx hm).2 hk)
    have kf' : Calls Try.prog 10 #[.agg #[.int .u64 now, .slice a l.length cap], .int .i64 k, .int .i64 i] w (Ret (.int .i64 (-1)) w) := kf.mono fun e w' hr => by
      obtain ⟨r, rfl, ⟨rfl, _⟩ | ⟨j, _, hj, hx⟩⟩ := hr.r
      · exact ⟨rfl, hr.b⟩
      · exact absurd hx (hno _ (List.getElem_mem hj))
    rw [hcl]
    have KF := Lib.hid kf'
    have H := Lib.hid h
    clear kf kf' hf hno hcl h hv hn hg
    go_enter Try.func23, Try.ntmps23
    go_wp2_with (go_at_call 10; (with_reducible refine KF.out.mono ?_); rintro e wA ⟨rfl, hbA⟩)
    go_ret
    exact H.out.asks rfl hbA
  | some t =>
    have hm : Wh.May k i := by
      unfold atR2 at hf
      by_cases hm : Wh.May k i
      · exact hm
      · rw [if_neg hm] at hf; cases hf
    have hfd : Wh.find l (Wh.key k i) = some t := by unfold atR2 at hf; rwa [if_pos hm] at hf
    have hcl : clearL l k i = Wh.without l (Wh.key k i) := by unfold clearL; rw [if_pos hm]
    have hmem := Wh.find_mem hfd
    have kf' : Calls Try.prog 10 #[.agg #[.int .u64 now, .slice a l.length cap], .int .i64 k, .int .i64 i] w fun e wA => ∃ j : Nat, e = .returned (.int .i64 (j : Int)) ∧ wA.cell? ⟨R, 0, none⟩ = some (.int .u64 now) ∧ wA.cell? ⟨R, 1, none⟩ = some (.slice a l.length cap) ∧
        Calls Try.prog 40 #[.agg #[.int .u64 now, .slice a l.length cap], .int .i64 (j : Int)] wA fun e2 wB => ∃ a2 n2 c2, e2 = .returned (.slice a2 n2 c2) ∧ wB.cell? ⟨R, 1, none⟩ = some (.slice a l.length cap) ∧ wB.frozen? ⟨R, 1, none⟩ = false ∧ Hid (RetRS (.bool true) B R now (.slice a l.length cap) (clearL l k i) w (.returned (.bool true)) (wB.setCell ⟨R, 1, none⟩ (.slice a2 n2 c2))) := kf.mono fun e wA hr => by
      obtain ⟨r, rfl, ⟨_, h1⟩ | ⟨j, rfl, hj, hx⟩⟩ := hr.r
      · exact absurd ⟨Wh.kd_key hm, Wh.nm_key hm⟩ (h1 _ hmem)
      · have hA := h.below hr.b
        refine ⟨j, rfl, hA.c0, hA.c1, (refWithoutC now j a cap l wA hl hj (hv.below hr.b)).mono fun e2 wB hr2 => ?_⟩
        obtain ⟨v', rfl, hrow⟩ := hr2.r
        obtain ⟨a2, c2, rfl⟩ := own_some hrow
        have hB := hA.below hr2.b
        have hjk : l[j].1 = Wh.key k i := (Wh.key_eq hg (List.getElem_mem hj) hm).2 hx
        have her : l.eraseIdx j = clearL l k i := by rw [hcl, ← hjk, Wh.without_at hn j hj]
        have hsz : B ≤ wA.heap.size := by have := (hA.lt R (Or.inl rfl)).2; have := h.base; omega
        refine ⟨a2, _, c2, rfl, hB.c1, hB.fr 1, Lib.hid ⟨rfl, ⟨.slice a2 (l.eraseIdx j).length c2, ?_, fun k hk => Or.inr ?_⟩, ?_⟩⟩
        · rw [← her]
          exact refs_stored hB.cell (own_base hrow hsz) h.base
        · have := (World.ownsRow.lt hrow k hk).1
          have := hr.b.size
          omega
        · exact (Chg.of_below (F := RefG R (.slice a l.length cap)) (hr.b.trans (hr2.b.mono hr.b.size))).setCell (Or.inl (Or.inl rfl)) _
    have KF := Lib.hid kf'
    clear kf kf' hf hfd hm hmem hcl h hv hn hg
    generalize clearL l k i = L at *
    go_enter Try.func23, Try.ntmps23
    go_wp2_with (first | (go_at_call 10; (with_reducible refine KF.out.mono ?_); rintro e wA ⟨j, rfl, e0, e1, kw⟩; have KW := Lib.hid kw; clear kw) | (go_at_call 40; (with_reducible refine KW.out.mono ?_); rintro e wB ⟨a2, n2, c2, rfl, e2, g2, hR⟩))
    go_ret
    exact hR.out
end Go.Proofs.Ytmmfmpnkjienfaa
