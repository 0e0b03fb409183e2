/-
  A history: Rows, by a loop over an iterator that goes through the keys from the last one on.
-/
import Derived.Test.YtmdpfinadffcaaaHyD
namespace Go.Proofs.Ytmdpfinadffcaaa
open Go.RowKit Go.Shelf
set_option linter.unusedVariables false
attribute [local go_sem] Oper.semAt_some

theorem HIs.small {w : World} {B T : Nat} {room : Int} {l : List Lr.E} {F : Nat → Prop} (h : HIs w B T room l F) : ∀ e ∈ l, e.1.size ≤ 140737488351232 := by
  obtain ⟨P, F0, _, ⟨m, r, ns, h1, rfl, _⟩, _⟩ := h
  intro e he
  obtain ⟨n, hn, rfl⟩ := List.mem_map.1 he
  exact h1.small n hn
theorem key_small {l : List Lr.E} (h : ∀ e ∈ l, e.1.size ≤ 140737488351232) (i : Nat) : ((Lr.keys l)[i]?.getD .empty).size ≤ 140737488351232 := by
  cases hq : (Lr.keys l)[i]? with
  | none => decide
  | some k =>
    obtain ⟨e, he, rfl⟩ := List.mem_map.1 (List.mem_of_getElem? hq)
    exact h e he
set_option maxRecDepth 100000 in
set_option maxHeartbeats 4000000 in
theorem rowsC (B T : Nat) (room : Int) (l : List Lr.E) (F : Nat → Prop) (w : World) (h : HIs w B T room l F) (hl : l.length ≤ 1000000) :
    Calls Try.prog 24 #[.pointer (some ⟨T, 0, none⟩)] w (RetRows l.reverse w) := by
  obtain ⟨P, F0, h1, h2, h3, h4, h5⟩ := id h
  obtain ⟨WA, hWA⟩ : ∃ WA, WA = (w.alloc (.cells #[.pointer (some ⟨T, 0, none⟩)] 26)).alloc (.cells #[.slice none 0 0] 29) := ⟨_, rfl⟩
  have hbA : Below w.heap.size w WA := by rw [hWA]; exact ((Below.refl _ _).alloc (Nat.le_refl _) _).alloc (by simp) _
  have hzA : WA.heap.size = w.heap.size + 2 := by rw [hWA]; simp
  have htA : Boxed WA w.heap.size 26 (.pointer (some ⟨T, 0, none⟩)) := by rw [hWA]; exact (Boxed.new w _ _).alloc _
  have hvA : Boxed WA (w.heap.size + 1) 29 (.slice none 0 0) := by
    rw [hWA]
    have := Boxed.new (w.alloc (.cells #[.pointer (some ⟨T, 0, none⟩)] 26)) 29 (.slice none 0 0)
    rwa [alloc_size] at this
  have hhA : WA.heap[T]? = some (tabO P) := (hbA.block T (lt_block h1)).trans h1
  have c0 : WA.cell? ⟨T, 0, none⟩ = some (.pointer (some ⟨P, 0, none⟩)) := by rw [cell_of_row _ _ _ _ _ _ hhA]; rfl
  have ct := htA.cell
  have hsm := h.small
  have hg := h.good
  have KK := Lib.hid ((keysC B P room l F0 WA (h2.keep (fun k hk => hbA.block k (h2.lt k hk).2)) hl).mono (R' := fun e w1 => ∃ a cap, e = .returned (.slice a (Lr.keys l).length cap) ∧ Hid (eltS.Row w1 WA.heap.size (.slice a (Lr.keys l).length cap) (Lr.keys l) ∧ Below WA.heap.size WA w1)) fun e w1 hr => by
    obtain ⟨v, rfl, hrow⟩ := hr.r
    obtain ⟨a, cap, rfl⟩ := hrow.slice
    exact ⟨a, cap, rfl, Lib.hid ⟨hrow, hr.b⟩⟩)
  have KB := Lib.hid (fun a n cap W => backC (.slice a n cap) ⟨a, n, cap, rfl⟩ W)
  have H := Lib.hid h
  have HBA := Lib.hid hbA
  have HZA := Lib.hid hzA
  have HTA := Lib.hid htA
  have HVA := Lib.hid hvA
  have HG := Lib.hid hg
  have HSM := Lib.hid hsm
  have HWA := Lib.hid hWA
  rw [hWA] at KK c0 ct
  clear h h1 h2 h3 h4 h5 hbA hzA htA hvA hhA hsm hg hWA
  refine (callsIn_wide (n := 3)).1 ?_
  refine callsIn_of_wp_marks Try.func24 rfl trivial ?_
  simp only [Try.ntmps24, List.size_toArray, List.length_cons, List.length_nil, Nat.reduceAdd, Nat.reduceSub, Array.replicate_succ, Array.replicate_zero, List.push_toArray, List.append_toArray, List.nil_append, List.cons_append]
  gi_wp2_with (first
    | (refine ⟨trivial, ?_⟩; gi_at_call 47; refine (callsIn_wide.2 KK.out).mono ?_; rintro e w1 ⟨a, cap, rfl, h1⟩)
    | (refine ⟨trivial, ?_⟩; gi_at_call 46; refine (callsIn_wide.2 (KB.out _ _ _ _)).mono ?_; rintro e w2 ⟨rfl, rfl⟩))
  rw [← HWA.out] at h1
  have hrow := h1.out.1
  have hb1 := h1.out.2
  have hrow0 := hrow.below ((Below.refl w1.heap.size w1).alloc (Nat.le_refl _) (.cells #[.slice a (Lr.keys l).length cap] 91))
  have hB0 : (w1.alloc (.cells #[.slice a (Lr.keys l).length cap] 91)).heap[w1.heap.size]? = some (.cells #[.slice a (Lr.keys l).length cap] 91) := heap_alloc_new _ _
  have hb0 : Below WA.heap.size WA (w1.alloc (.cells #[.slice a (Lr.keys l).length cap] 91)) := hb1.alloc hb1.size _
  have hzb : WA.heap.size ≤ w1.heap.size := hb1.size
  generalize hW0 : w1.alloc (.cells #[.slice a (Lr.keys l).length cap] 91) = W0 at *
  have hflat : eltS.Flat W0 a (Lr.keys l) := by
    obtain ⟨a', c', e, hf⟩ := hrow0.flat
    cases e
    exact hf
  have hw0 : Below w.heap.size w W0 := HBA.out.trans (hb0.mono HBA.out.size)
  have hzz : w.heap.size + 2 ≤ W0.heap.size := by have := hb0.size; have := HZA.out; omega
  have hlt0 : w1.heap.size < W0.heap.size := lt_block hB0
  obtain ⟨G, hGd⟩ : ∃ G : Nat → Prop, G = fun k => k = w1.heap.size ∨ ∃ g, a = some ⟨g, 0, none⟩ ∧ k = g := ⟨_, rfl⟩
  have hGT : ∀ k, G k → k ≠ w.heap.size + 1 ∧ ∃ cur t, W0.heap[k]? = some (.cells cur t (0, 0)) ∧ 58 ≠ t := by
    rw [hGd]
    rintro k (rfl | ⟨g, rfl, rfl⟩)
    · exact ⟨by have := HZA.out; omega, _, _, hB0, by decide⟩
    · obtain ⟨_, ⟨e, _⟩ | ⟨g2, c2, cur, e, hg2, hc2, _⟩⟩ := hrow0
      · cases e
      · cases e
        exact ⟨by have := HZA.out; omega, _, _, hc2, by decide⟩
  have hGL : ∀ k, G k → k < W0.heap.size := fun k hk => by
    obtain ⟨_, cur, t, h, _⟩ := hGT k hk
    exact lt_block h
  have HGT := Lib.hid hGT
  have HGL := Lib.hid hGL
  have HW0 := Lib.hid hw0
  have hkl : (Lr.keys l).length ≤ 1000000 := by simpa [Lr.keys] using hl
  have hst := back1_stops Fence.wide (3 - 1) trivial rfl (by omega) w1.heap.size (Lr.keys l) hkl a cap W0 hB0 hflat
  rw [← hGd] at hst
  have hinit : RwI T G w W0 l [] W0 := ⟨.slice none 0 0, ⟨(hb0.block _ HVA.out.lt).trans HVA.out, Elt.Row.nil W0 _⟩, ⟨(hb0.block _ HTA.out.lt).trans HTA.out, fun _ _ => rfl, hw0, Nat.le_refl _⟩⟩
  have K0 := Lib.hid (fun key (hk : key.size ≤ 140737488351232) W (q : RwQ T G w W0 W) => histC B T room l F key W (H.out.below q.b) hk)
  clear hW0 hGd hB0 hrow hrow0 hb0 hflat hGT KK KB
  refine wpIn_rangeFunc_ownF rfl (by omega) (gf := 54) (lb := #[.pointer (some ⟨w1.heap.size, 0, none⟩)]) rfl trivial (enters_of Try.func54 (by kernel_rfl) rfl)
    hst (fun h g => stayG_t h g) (fun W l o o' => stayG_b hGL W l o o') (Below.refl _ _) (fun _ => rfl) (RwI T G w W0 l) (fun _ _ _ => False) (rwI_own hGL (by omega)) (fun _ _ _ _ _ hs _ _ => hs) hinit ?a1 ?assign ?body ?done ?stop
  case assign =>
    intro l' x W K hK
    gi_wp2
    exact hK
  case body =>
    rintro l' pre x W ⟨v, hV, hQ⟩ hlen
    have hks := key_small HSM.out x.1
    have hsn := rowsI_snoc l pre x
    have hrl : (rowsI l pre).length ≤ 1000000 := by simp [rowsI]; omega
    have hI : ∀ W' v', RwV w W' v' (rowsI l pre ++ [((Lr.keys l)[x.1]?.getD .empty, Hy.valOf l ((Lr.keys l)[x.1]?.getD .empty))]) → RwQ T G w W0 W' → RwI T G w W0 l (pre ++ [x]) W' := fun W' v' g1 g2 => ⟨v', by rw [hsn]; exact g1, g2⟩
    generalize (Lr.keys l)[x.1]?.getD .empty = key at *
    have K1 := Lib.hid (fun W (q : RwQ T G w W0 W) => K0.out key hks W q)
    generalize Hy.valOf l key = u at *
    generalize rowsI l pre = rows at *
    obtain ⟨a', c', rfl⟩ := hV.2.slice
    have QD : Hid (RwQ T G w W0 W.drew) := Lib.hid (hQ.next hGL (Below.refl _ _).drew)
    have VD : Hid (RwV w W.drew (.slice a' rows.length c') rows) := Lib.hid (hV.next (Below.refl _ _).drew)
    have hc1 := VD.out.1.cell
    have FIN := Lib.hid (fun wA v' w' (hb : Below W.heap.size W wA) (e : RwEnd T G w W0 wA v' (rows ++ [(key, u)]) w') => (show KeepsOthers W w' ∧ StayG G W w' ∧ RwI T G w W0 l (pre ++ [x]) w' from ⟨(ko_below hb).trans e.k, stayG_t (fun k hk => hb.block k (Nat.lt_of_lt_of_le (HGL.out k hk) hQ.z)) e.g, hI _ _ e.v e.q⟩))
    have hS := QD.out.t
    clear hst hinit hGL hw0 hV hsn hI hlen hb1 hzb hzz hlt0
    refine wpIn_block ?_
    refine regionIn_of_plain l' _ (by kernel_rfl) (by kernel_rfl) (by rintro ⟨a, w, h⟩; exact h) ?_
    refine wpAny_of_held (S := fun W => Boxed W w.heap.size 26 (.pointer (some ⟨T, 0, none⟩))) _ _ _ _ ?_
    refine takeH 1 17 ?_ rfl rfl (by kernel_rfl) (by kernel_rfl) (by kernel_rfl) (fun _ _ _ h => h) (Or.inl ⟨by kernel_rfl, ?_⟩) hS ?_; rotate_left; (intro w' hw; first | (go_simp; done) | (go_simp; with_reducible rfl)); rotate_left
    try simp only [List.setIfInBounds_toArray, List.set_cons_zero, List.set_cons_succ]
    refine takeH 3 19 ?_ rfl rfl (by kernel_rfl) (by kernel_rfl) (by kernel_rfl) (fun _ _ _ h => h) (Or.inl ⟨by kernel_rfl, ?_⟩) hS ?_; rotate_left; (intro w' hw; first | (go_simp; done) | (go_simp; with_reducible rfl)); rotate_left
    try simp only [List.setIfInBounds_toArray, List.set_cons_zero, List.set_cons_succ]
    refine takeH 2 18 ?_ rfl rfl (by kernel_rfl) (by kernel_rfl) (by kernel_rfl) (fun _ _ _ h => h) (Or.inl ⟨by kernel_rfl, ?_⟩) hS ?_; rotate_left; (intro w' hw; have hc0 : w'.cell? ⟨w.heap.size, 0, none⟩ = some (.pointer (some ⟨T, 0, none⟩)) := hw.cell; first | (go_simp; done) | (go_simp; with_reducible rfl)); rotate_left
    try simp only [List.setIfInBounds_toArray, List.set_cons_zero, List.set_cons_succ]
    refine wpAnyH_ready (rs := [0, 4]) (by kernel_rfl) (by simp) ?_; refine AllReadyH.cons rfl (fun K4 hK => ?_) (AllReadyH.cons rfl (fun K4 hK => ?_) AllReadyH.nil)
    · go_simp; refine hK.out _ _ ?_ (fun _ => ?_); (exact hS); clear hK K4
      refine wpAnyH_ready (rs := [4]) (by kernel_rfl) (by simp) ?_; refine AllReadyH.cons rfl (fun K4 hK => ?_) AllReadyH.nil
      go_simp; go_wp2_with (go_at_call 18; (with_reducible refine (K1.out _ QD.out).mono ?_); rintro e wA ⟨rfl, hbA⟩); have QA := Lib.hid (QD.out.next HGL.out hbA); have VA := Lib.hid (VD.out.next hbA); have HBA := Lib.hid ((Below.refl W.heap.size W).drew.trans hbA); clear hbA; replace hS := QA.out.t; have hcA := VA.out.1.cell; refine hK.out _ _ ?_ (fun _ => ?_); (exact hS); clear hK K4
      refine takeH 5 21 ?_ rfl rfl (by kernel_rfl) (by kernel_rfl) (by kernel_rfl) (fun _ _ _ h => h) (Or.inl ⟨by kernel_rfl, ?_⟩) hS ?_; rotate_left; (intro w' hw; refine yieldRow (x := .tmp 17) (y := .tmp 20) (k := key) (v := u) ?_ ?_ ?_ <;> rfl); rotate_left
      try simp only [List.setIfInBounds_toArray, List.set_cons_zero, List.set_cons_succ]
      refine wpAnyH_ready (rs := [6]) (by kernel_rfl) (by simp) ?_; refine AllReadyH.cons rfl (fun K4 hK => ?_) AllReadyH.nil
      refine stepOne _ rfl rfl key u rfl ?_; replace hS := (QA.out.t.alloc (.cells (entC key u) 58)); have hcB := (VA.out.1.alloc (.cells (entC key u) 58)).cell; refine hK.out _ _ ?_ (fun _ => ?_); (exact hS); clear hK K4
      refine wpAnyH_ready (rs := [7]) (by kernel_rfl) (by simp) ?_; refine AllReadyH.cons rfl (fun K4 hK => ?_) AllReadyH.nil; refine eltR.stepApp wA rfl (.tmp 16) (.tmp 22) rfl w.heap.size (.slice a' rows.length c') rows rfl VA.out.2 (entC key u) 1 rfl (key, u) rfl (by omega) QA.out.b.size ?_; intro v' w2 hrow hb2 hkeep; obtain ⟨a2, c2, rfl⟩ := hrow.slice; replace hrow : eltR.Row w2 w.heap.size (.slice a2 (rows.length + 1) c2) (rows ++ [(key, u)]) := (by simpa using hrow); have hfin := rows_step QA.out HGT.out VA.out.1 VA.out.2 hrow hb2 hkeep; replace hS := hfin.1.t; have hc2 := hfin.1.c; have hf2 := hfin.1.f; refine hK.out _ _ ?_ (fun _ => ?_); (exact hS); clear hK K4
      refine wpAnyH_ready (rs := [8]) (by kernel_rfl) (by simp) ?_; refine AllReadyH.cons rfl (fun K4 hK => ?_) AllReadyH.nil; go_simp; refine hK.out _ _ ?_ (fun _ => ?_); (exact hfin.2.t); clear hK K4
      refine wpAnyH_done (by kernel_rfl) ?_ _
      exact FIN.out _ _ _ HBA.out hfin.2
    · go_simp; go_wp2_with (go_at_call 18; (with_reducible refine (K1.out _ QD.out).mono ?_); rintro e wA ⟨rfl, hbA⟩); have QA := Lib.hid (QD.out.next HGL.out hbA); have VA := Lib.hid (VD.out.next hbA); have HBA := Lib.hid ((Below.refl W.heap.size W).drew.trans hbA); clear hbA; replace hS := QA.out.t; have hcA := VA.out.1.cell; refine hK.out _ _ ?_ (fun _ => ?_); (exact hS); clear hK K4
      refine takeH 5 21 ?_ rfl rfl (by kernel_rfl) (by kernel_rfl) (by kernel_rfl) (fun _ _ _ h => h) (Or.inl ⟨by kernel_rfl, ?_⟩) hS ?_; rotate_left; (intro w' hw; refine yieldRow (x := .tmp 17) (y := .tmp 20) (k := key) (v := u) ?_ ?_ ?_ <;> rfl); rotate_left
      try simp only [List.setIfInBounds_toArray, List.set_cons_zero, List.set_cons_succ]
      refine wpAnyH_ready (rs := [0, 6]) (by kernel_rfl) (by simp) ?_; refine AllReadyH.cons rfl (fun K4 hK => ?_) (AllReadyH.cons rfl (fun K4 hK => ?_) AllReadyH.nil)
      · go_simp; refine hK.out _ _ ?_ (fun _ => ?_); (exact hS); clear hK K4
        refine wpAnyH_ready (rs := [6]) (by kernel_rfl) (by simp) ?_; refine AllReadyH.cons rfl (fun K4 hK => ?_) AllReadyH.nil
        refine stepOne _ rfl rfl key u rfl ?_; replace hS := (QA.out.t.alloc (.cells (entC key u) 58)); have hcB := (VA.out.1.alloc (.cells (entC key u) 58)).cell; refine hK.out _ _ ?_ (fun _ => ?_); (exact hS); clear hK K4
        refine wpAnyH_ready (rs := [7]) (by kernel_rfl) (by simp) ?_; refine AllReadyH.cons rfl (fun K4 hK => ?_) AllReadyH.nil; refine eltR.stepApp wA rfl (.tmp 16) (.tmp 22) rfl w.heap.size (.slice a' rows.length c') rows rfl VA.out.2 (entC key u) 1 rfl (key, u) rfl (by omega) QA.out.b.size ?_; intro v' w2 hrow hb2 hkeep; obtain ⟨a2, c2, rfl⟩ := hrow.slice; replace hrow : eltR.Row w2 w.heap.size (.slice a2 (rows.length + 1) c2) (rows ++ [(key, u)]) := (by simpa using hrow); have hfin := rows_step QA.out HGT.out VA.out.1 VA.out.2 hrow hb2 hkeep; replace hS := hfin.1.t; have hc2 := hfin.1.c; have hf2 := hfin.1.f; refine hK.out _ _ ?_ (fun _ => ?_); (exact hS); clear hK K4
        refine wpAnyH_ready (rs := [8]) (by kernel_rfl) (by simp) ?_; refine AllReadyH.cons rfl (fun K4 hK => ?_) AllReadyH.nil; go_simp; refine hK.out _ _ ?_ (fun _ => ?_); (exact hfin.2.t); clear hK K4
        refine wpAnyH_done (by kernel_rfl) ?_ _
        exact FIN.out _ _ _ HBA.out hfin.2
      · refine stepOne _ rfl rfl key u rfl ?_; replace hS := (QA.out.t.alloc (.cells (entC key u) 58)); have hcB := (VA.out.1.alloc (.cells (entC key u) 58)).cell; refine hK.out _ _ ?_ (fun _ => ?_); (exact hS); clear hK K4
        refine wpAnyH_ready (rs := [0]) (by kernel_rfl) (by simp) ?_; refine AllReadyH.cons rfl (fun K4 hK => ?_) AllReadyH.nil
        go_simp; refine hK.out _ _ ?_ (fun _ => ?_); (exact hS); clear hK K4
        refine wpAnyH_ready (rs := [7]) (by kernel_rfl) (by simp) ?_; refine AllReadyH.cons rfl (fun K4 hK => ?_) AllReadyH.nil; refine eltR.stepApp wA rfl (.tmp 16) (.tmp 22) rfl w.heap.size (.slice a' rows.length c') rows rfl VA.out.2 (entC key u) 1 rfl (key, u) rfl (by omega) QA.out.b.size ?_; intro v' w2 hrow hb2 hkeep; obtain ⟨a2, c2, rfl⟩ := hrow.slice; replace hrow : eltR.Row w2 w.heap.size (.slice a2 (rows.length + 1) c2) (rows ++ [(key, u)]) := (by simpa using hrow); have hfin := rows_step QA.out HGT.out VA.out.1 VA.out.2 hrow hb2 hkeep; replace hS := hfin.1.t; have hc2 := hfin.1.c; have hf2 := hfin.1.f; refine hK.out _ _ ?_ (fun _ => ?_); (exact hS); clear hK K4
        refine wpAnyH_ready (rs := [8]) (by kernel_rfl) (by simp) ?_; refine AllReadyH.cons rfl (fun K4 hK => ?_) AllReadyH.nil; go_simp; refine hK.out _ _ ?_ (fun _ => ?_); (exact hfin.2.t); clear hK K4
        refine wpAnyH_done (by kernel_rfl) ?_ _
        exact FIN.out _ _ _ HBA.out hfin.2
  case done =>
    rintro D xs W hD hxs ⟨v, hV, hQ⟩ hK
    have hrw := rowsI_all HG.out hxs
    have hI2 := (rwI_own HGL.out (by omega)).putObj (.deferred none) ⟨v, hV, hQ⟩ hD hK rfl
    obtain ⟨v2, hV2, hQ2⟩ := hI2
    have hc := hV.1.cell
    have he : v2 = v := by
      have h1 := hV2.1
      have h2 : (W.putObj D (.deferred none)).heap[w.heap.size + 1]? = W.heap[w.heap.size + 1]? := World.putObj_heap_other (by omega)
      rw [show (W.putObj D (.deferred none)).heap[w.heap.size + 1]? = _ from h1, show W.heap[w.heap.size + 1]? = _ from hV.1] at h2
      cases h2
      rfl
    subst he
    have HF : Hid (RetRows l.reverse w (.returned v2) (W.putObj D (.deferred none))) := Lib.hid ⟨⟨v2, rfl, by rw [← hrw]; exact hV2.2⟩, hQ2.b⟩
    clear hV hQ hV2 hQ2 hrw
    gi_wp2
    refine ⟨by simp, .inl ⟨_, _, rfl, run_takeDeferred hK, ?_⟩⟩
    refine ⟨v2, ?_, HF.out⟩
    refine Eq.trans (results_tmp (t := 2) ?_ _ _ _) ?_ <;> rfl
  case stop =>
    rintro D c pre W _ _ h _
    exact h.elim
end Go.Proofs.Ytmdpfinadffcaaa
