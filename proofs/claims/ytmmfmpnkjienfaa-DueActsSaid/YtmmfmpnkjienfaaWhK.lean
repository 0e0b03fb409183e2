/-
  The program's place: an element goes into its slot.
-/
import Derived.Test.YtmmfmpnkjienfaaWhJ
namespace Go.Proofs.Ytmmfmpnkjienfaa
open Go.RowKit
set_option linter.unusedVariables false

/-- an element has been laid into its slot -/
structure Placed (w : World) (B P : Nat) (now : Int) (lt ls : List Wh.E) (T : Nat) (sl : Nat → Option Nat) (x : Wh.E) (e : Ending) (w' : World) : Prop where
  e : e = .returned (.tuple #[])
  s : ∃ sl', WAt w' B P now lt (ls ++ [x]) T sl' ∧ ∀ k, WF P T sl' k → WF P T sl k ∨ w.heap.size ≤ k
  c : Chg (WF P T sl) w w'

theorem find_atP {now : Int} {ls : List Wh.E} {id : Int} (j : Nat) (h : Wh.find ls id = none) : Wh.find (atP now ls j) id = none :=
  Wh.find_none.2 (fun e he => Wh.find_none.1 h e (atP_mem.1 he).1)
theorem Wf.snoc {ls : List Wh.E} {id a : Int} (h : Wf ls) (hid : (Lit.int .i64 id).wf = true) (ha : (Lit.int .u64 a).wf = true) : Wf (ls ++ [(id, a)]) := by
  intro e he
  rcases List.mem_append.1 he with he | he
  · exact h e he
  · obtain rfl : e = (id, a) := by simpa using he
    exact ⟨hid, ha⟩
section
variable {w W w' : World} {B P T j : Nat} {now id a : Int} {lt ls : List Wh.E} {sl : Nat → Option Nat}
theorem snoc_at (hj : pl now a = j) : atP now (ls ++ [(id, a)]) j = atP now ls j ++ [(id, a)] := by rw [atP_snoc, if_pos hj]
theorem snoc_other (hj : pl now a = j) (i : Nat) (hi : i ≠ j) : atP now (ls ++ [(id, a)]) i = atP now ls i := by
  rw [atP_snoc, if_neg]
  show ¬ pl now a = i
  omega
/-- the slot has a map -/
theorem placed_some (h : WAt w B P now lt ls T sl) (hW : W.heap = w.heap) (hb0 : Below w.heap.size w W) (hid : (Lit.int .i64 id).wf = true) (ha : (Lit.int .u64 a).wf = true) (hj : pl now a = j) (hj2 : j < 256) {b : Nat} (hb : sl j = some b)
    (hM : MapE w' b (atP now ls j ++ [(id, a)])) (hc : Chg (fun k => k = b) W w') : Placed w B P now lt ls T sl (id, a) (.returned (.tuple #[])) w' := by
  have h1 : WAt W B P now lt ls T sl := h.keep (fun k _ => by rw [hW])
  refine ⟨rfl, ⟨sl, h1.writeSlot j hj2 b hb _ (by rw [snoc_at hj]; exact hM) hc (fun i _ hi => snoc_other hj i hi) (h.wf.snoc hid ha), fun k hk => Or.inl hk⟩, ?_⟩
  exact (Chg.of_below hb0).trans hc (fun k hk => Or.inl (by subst hk; exact Or.inr (Or.inr ⟨j, hj2, hb⟩)))
/-- the slot has none yet -/
theorem fresh_slot (h : WAt w B P now lt ls T sl) (hB : B ≤ w.heap.size) (hj2 : j < 256) (hb : sl j = none) (hW : W = (w.alloc (.map #[] 0)).setCell ⟨P, j + 2, none⟩ (.map (some w.heap.size))) :
    WAt W B P now lt ls T (fun i => if i = j then some w.heap.size else sl i) ∧ MapE W w.heap.size (atP now ls j) := by
  have hold : ∀ k, WF P T sl k → (w.alloc (.map #[] 0)).heap[k]? = w.heap[k]? := fun k hk => Lib.alloc_old _ _ _ (h.bounds k hk).2
  have h1 : WAt (w.alloc (.map #[] 0)) B P now lt ls T sl := h.keep hold
  have hP := (h.bounds P (Or.inl rfl)).2
  have hT := (h.bounds T (Or.inr (Or.inl rfl))).2
  have hM : MapE W w.heap.size (atP now ls j) := by
    rw [h.sn j hj2 hb, hW]
    exact (MapE.made w).keep (Below.heap_setCell _ _ _ _ (by show w.heap.size ≠ P; omega))
  refine ⟨h1.setSlot j hj2 (some w.heap.size) ls hW (fun b hb' => ?_) (fun hn => by cases hn) (fun i _ _ => rfl) h.wf, hM⟩
  cases hb'
  refine ⟨?_, hB, by omega, fun i hi _ hs => ?_⟩
  · rw [h.sn j hj2 hb]
    exact MapE.made w
  · have := (h.bounds _ (Or.inr (Or.inr ⟨i, hi, hs⟩))).2
    omega
theorem placed_none (h : WAt w B P now lt ls T sl) (hB : B ≤ w.heap.size) (hid : (Lit.int .i64 id).wf = true) (ha : (Lit.int .u64 a).wf = true) (hj : pl now a = j) (hj2 : j < 256) (hb : sl j = none) (hW : W = (w.alloc (.map #[] 0)).setCell ⟨P, j + 2, none⟩ (.map (some w.heap.size)))
    (hM : MapE w' w.heap.size (atP now ls j ++ [(id, a)])) (hc : Chg (fun k => k = w.heap.size) W w') : Placed w B P now lt ls T sl (id, a) (.returned (.tuple #[])) w' := by
  obtain ⟨h1, _⟩ := fresh_slot h hB hj2 hb hW
  refine ⟨rfl, ⟨_, h1.writeSlot j hj2 w.heap.size (by simp) _ (by rw [snoc_at hj]; exact hM) hc (fun i _ hi => snoc_other hj i hi) (h.wf.snoc hid ha), fun k hk => ?_⟩, ?_⟩
  · rcases hk with rfl | rfl | ⟨i, hi, hs⟩
    · exact Or.inl (Or.inl rfl)
    · exact Or.inl (Or.inr (Or.inl rfl))
    · by_cases e : i = j
      · simp only [e, if_true] at hs
        cases hs
        exact Or.inr (Nat.le_refl _)
      · simp only [e, if_false] at hs
        exact Or.inl (Or.inr (Or.inr ⟨i, hi, hs⟩))
  · have c1 : Chg (WF P T sl) w (w.alloc (.map #[] 0)) := Chg.of_below ((Below.refl _ _).alloc (Nat.le_refl _) _)
    have c2 : Chg (WF P T sl) w W := by rw [hW]; exact c1.setCell (Or.inl (Or.inl rfl)) _
    exact c2.trans hc (fun k hk => Or.inr (by omega))
end

set_option maxRecDepth 100000 in
set_option maxHeartbeats 1000000 in
theorem placeC (id a : Int) (w : World) (B P : Nat) (now : Int) (lt ls : List Wh.E) (T : Nat) (sl : Nat → Option Nat) (h : WAt w B P now lt ls T sl) (hid : (Lit.int .i64 id).wf = true) (ha : (Lit.int .u64 a).wf = true) (hn : Wh.find ls id = none) (hl : ls.length ≤ 1000) :
    Calls Try.prog 50 #[.pointer (some ⟨P, 0, none⟩), .int .i64 id, .int .u64 a] w (Placed w B P now lt ls T sl (id, a)) := by
  have k1 := findC now a P w h.now ha h.now0
  obtain ⟨L, hL⟩ : ∃ L, L = Wh.lev now.toNat (max a.toNat now.toNat) := ⟨_, rfl⟩
  obtain ⟨D, hD⟩ : ∃ D, D = Wh.dig now.toNat (max a.toNat now.toNat) := ⟨_, rfl⟩
  have hj : pl now a = 16 * L + D := by unfold pl Wh.plc; rw [hL, hD]
  have hL16 : L < 16 := by
    rw [hL]
    obtain ⟨h1, h2⟩ := wf_u64 h.now
    obtain ⟨h3, h4⟩ := wf_u64 ha
    exact Wh.lev_lt (by omega) (by omega)
  have hD16 : D < 16 := by rw [hD]; exact Wh.dig_lt _ _
  rw [← hL, ← hD] at k1
  clear hL hD
  have K0 := Lib.hid k1; clear k1
  have c := h.slot (16 * L + D) (by omega)
  rw [show 16 * L + D + 2 = 2 + L * 16 + D by omega] at c
  have f := h.frozen (2 + L * 16 + D)
  have H := Lib.hid h; clear h
  have HJ := Lib.hid hj; clear hj
  have HI := Lib.hid hid; clear hid
  have HA := Lib.hid ha; clear ha
  have HN := Lib.hid hn; clear hn
  have HL := Lib.hid hl; clear hl
  have he := fun W r => run_eql_map_nil (P := Try.prog) W 69 3 22 r Try.underlying69
  cases hx : sl (16 * L + D) with
  | some b =>
    rw [hx] at c
    have HX := Lib.hid hx; clear hx
    have hM : ∀ q, MapE (w.drewN q) b (atP now ls (16 * L + D)) := fun q => (H.out.sm _ (by omega) b HX.out).keep rfl
    have HM := Lib.hid hM; clear hM
    go_enter Try.func50, Try.ntmps50
    go_wp2_with (first | (go_at_call 51; (with_reducible refine K0.out.mono ?_); rintro e w1 ⟨rfl, q, rfl⟩) | (at_mapUpdate; refine wpPutE _ rfl _ _ _ _ rfl Try.underlying69 b _ rfl (HM.out _) id a rfl rfl HI.out HA.out ?_ ?_ ?_))
    · exact Nat.le_trans (List.length_filter_le _ _) (Nat.le_trans HL.out (by decide))
    · exact find_atP _ HN.out
    · intro w2 hM2 hc2 hs2
      go_end0
      exact placed_some (W := w.drewN q) H.out rfl (below_drewN (Below.refl _ _) _) HI.out HA.out HJ.out (by omega) HX.out hM2 hc2
  | none =>
    rw [hx] at c
    have HX := Lib.hid hx; clear hx
    have hmm := @run_makeMap Try.prog
    have hlt := (H.out.bounds P (Or.inl rfl)).2
    have c' : ∀ q, ((w.drewN q).alloc (.map #[] 0)).cell? ⟨P, 2 + L * 16 + D, none⟩ = some (.map none) := fun q => (below_cells ((Below.refl (w.drewN q).heap.size _).alloc (Nat.le_refl _) _) P hlt).1 _ |>.trans c
    have f' : ∀ q, ((w.drewN q).alloc (.map #[] 0)).frozen? ⟨P, 2 + L * 16 + D, none⟩ = false := fun q => (below_cells ((Below.refl (w.drewN q).heap.size _).alloc (Nat.le_refl _) _) P hlt).2 _ |>.trans f
    have hfr : ∀ q, _ := fun q => fresh_slot (w := w.drewN q) (j := 16 * L + D) (H.out.keep (fun _ _ => rfl)) (Nat.le_trans H.out.bP (Nat.le_of_lt hlt)) (by omega) HX.out rfl
    rw [show 16 * L + D + 2 = 2 + L * 16 + D by omega] at hfr
    have HF := Lib.hid hfr; clear hfr hlt
    go_enter Try.func50, Try.ntmps50
    go_wp2_with (first | (go_at_call 51; (with_reducible refine K0.out.mono ?_); rintro e w1 ⟨rfl, q, rfl⟩) | (at_mapUpdate; refine wpPutE _ rfl _ _ _ _ rfl Try.underlying69 w.heap.size _ rfl (HF.out _).2 id a rfl rfl HI.out HA.out ?_ ?_ ?_))
    · exact Nat.le_trans (List.length_filter_le _ _) (Nat.le_trans HL.out (by decide))
    · exact find_atP _ HN.out
    · intro w2 hM2 hc2 hs2
      go_end0
      have h0 := placed_none (w := w.drewN q) (j := 16 * L + D) (H.out.keep (fun _ _ => rfl)) (Nat.le_trans H.out.bP (Nat.le_of_lt (H.out.bounds P (Or.inl rfl)).2)) HI.out HA.out HJ.out (by omega) HX.out (by rw [show 16 * L + D + 2 = 2 + L * 16 + D by omega]; rfl) hM2 hc2
      exact ⟨rfl, h0.s, ⟨h0.c.os, h0.c.tape, h0.c.output, h0.c.size, h0.c.block⟩⟩
end Go.Proofs.Ytmmfmpnkjienfaa
