/-
  The law's rows and back: rows as the document has them, and as the program has them.
  A ring of flows beside the document's, one lemma a call.
  The law's same, on the two.
-/
import Derived.Test.YtgeoebodlcbebaaRfT
import Derived.Test.YtgeoebodlcbebaaFlT
namespace Go.Proofs.Ytgeoebodlcbebaa
open Go.RowKit
set_option linter.unusedVariables false
set_option linter.unusedSimpArgs false

theorem rows_atR {w : World} {a : Option Addr} {l : List DR} (h : eltR.View w a l) (h0 : 0 < l.length) : ∃ g off, a = some ⟨g, off, none⟩ ∧ g < w.heap.size ∧ ∀ j (hj : j < l.length), w.cell? ⟨g, off + j * 4, none⟩ = some (.int .i64 l[j].r.f) ∧ w.cell? ⟨g, off + j * 4 + 1, none⟩ = some (.int .i64 l[j].r.w) ∧ w.cell? ⟨g, off + j * 4 + 2, none⟩ = some (.int .i64 l[j].r.d) ∧ w.cell? ⟨g, off + j * 4 + 3, none⟩ = some (.slice l[j].a l[j].r.its.length l[j].cap) := by
  obtain ⟨g, off, ha, hg, hc⟩ := h.is h0
  exact ⟨g, off, ha, hg, fun j hj => ⟨hc j hj 0 _ rfl, hc j hj 1 _ rfl, hc j hj 2 _ rfl, hc j hj 3 _ rfl⟩⟩
/-- it returns a slice of these rows, as the document has them -/
structure RetRowsD (l : List Fl.Rw) (w : World) (e : Ending) (w' : World) : Prop where
  r : ∃ a c ds, e = .returned (.slice a ds.length c) ∧ eltD.View w' a ds ∧ ds.map DR.r = l ∧ ∀ d ∈ ds, DOk w' d
  b : Below w.heap.size w w'
set_option maxRecDepth 100000 in
set_option maxHeartbeats 8000000 in
theorem rowsLC (P : Nat) (l : List Fl.Rw) (w : World) (hl : l.length ≤ 100000) (KR : Calls Try.prog 20 #[.pointer (some ⟨P, 0, none⟩)] w (RetRows l w)) :
    Calls Try.prog 31 #[.pointer (some ⟨P, 0, none⟩)] w (RetRowsD l w) := by
  have K := Lib.hid (KR.mono (R' := fun e w1 => ∃ a c ds, e = .returned (.slice a ds.length c) ∧ Hid (eltR.View w1 a ds ∧ ds.map DR.r = l ∧ (∀ d ∈ ds, DOk w1 d) ∧ Below w.heap.size w w1)) fun e w1 hr => by
    obtain ⟨v, ds, rfl, hrow, h2, h3⟩ := hr.r
    obtain ⟨a, c, rfl, hf⟩ := hrow.flat
    exact ⟨a, c, ds, rfl, Lib.hid ⟨hf.view, h2, h3, hr.b⟩⟩)
  clear KR
  go_enter Try.func31, Try.ntmps31
  go_wp2_with (go_at_call 20; (with_reducible refine K.out.mono ?_); rintro e wA ⟨aS, cS, ds, rfl, hA⟩)
  have HV := Lib.hid hA.out.1
  have HA := Lib.hid hA.out.2
  have hdl : ds.length ≤ 100000 := by have := HA.out.1; have h2 := congrArg List.length this; simp at h2; omega
  have HROW0 : Hid (eltD.Row (wA.alloc (.cells #[] 37)) wA.heap.size (.slice (some ⟨wA.heap.size, 0, none⟩) 0 0) []) := Lib.hid (Elt.Row.lit wA wA.heap.size (Nat.le_refl _))
  have HB0 : Hid (Below wA.heap.size wA (wA.alloc (.cells #[] 37))) := Lib.hid ((Below.refl _ _).alloc (Nat.le_refl _) _)
  clear hA
  go_loopw [4, 5] (fun o i wr => ∃ k : Nat, k ≤ ds.length ∧ i = .int .i64 (k : Int) ∧ Hid (eltD.Row wr wA.heap.size o (ds.take k)) ∧ Hid (Below wA.heap.size wA wr)) (fun _ i _ => ds.length - (intOf i).toNat)
  case atStart => exact ⟨0, by omega, rfl, Lib.hid (by simpa using HROW0.out), Lib.hid HB0.out⟩
  case round =>
    obtain ⟨k, hk, rfl, hrow, hb⟩ := hrel
    obtain ⟨ao, co, rfl⟩ := hrow.out.slice
    by_cases hlt : k < ds.length
    · obtain ⟨g, off, rfl, hg, hc⟩ := rows_atR HV.out (by omega)
      obtain ⟨e0, e1, e2, e3⟩ := hc k hlt
      have HTK := Lib.hid (take_snoc hlt)
      have HS1 := Lib.hid (fun W (hW : Below wA.heap.size wA W) => (show W.cell? ⟨g, off + k * 4, none⟩ = some (.int .i64 ds[k].r.f) ∧ W.cell? ⟨g, off + k * 4 + 1, none⟩ = some (.int .i64 ds[k].r.w) ∧ W.cell? ⟨g, off + k * 4 + 2, none⟩ = some (.int .i64 ds[k].r.d) ∧ W.cell? ⟨g, off + k * 4 + 3, none⟩ = some (.slice ds[k].a ds[k].r.its.length ds[k].cap) from
        ⟨(hW.cell (p := ⟨g, _, none⟩) hg).trans e0, (hW.cell (p := ⟨g, _, none⟩) hg).trans e1, (hW.cell (p := ⟨g, _, none⟩) hg).trans e2, (hW.cell (p := ⟨g, _, none⟩) hg).trans e3⟩))
      clear hc e0 e1 e2 e3
      have HPV : Hid ((#[.int .i64 ds[k].r.f, .int .i64 ds[k].r.w, .int .i64 ds[k].r.d, .slice ds[k].a ds[k].r.its.length ds[k].cap] : Array Value).toList = eltD.pv ds[k]) := Lib.hid rfl
      generalize ds[k].r.f = vf at *
      generalize ds[k].r.w = vw at *
      generalize ds[k].r.d = vd at *
      generalize ds[k].r.its.length = M at *
      generalize ds[k].a = a1 at *
      generalize ds[k].cap = c1 at *
      generalize ds[k] = dk at *
      have htl : (ds.take k).length ≤ 1000000 := by simp; omega
      obtain ⟨wD, hwD⟩ : ∃ wD, wD = wr.drew := ⟨_, rfl⟩
      have hS : Below wA.heap.size wA wD := by rw [hwD]; exact hb.out.drew
      have HR0 := Lib.hid (show eltD.Row wD wA.heap.size (.slice ao (ds.take k).length co) (ds.take k) from by rw [hwD]; exact hrow.out.below (Below.refl _ _).drew)
      have HWD := Lib.hid hwD
      generalize hT : ds.take k = tk at *
      have HT := Lib.hid hT
      clear hrow hb hwD HROW0 HB0 hT
      go_upto_region 6 with fail
      refine wp_region_any (by kernel_rfl) ?_
      change wpAny _ _ _ _ _ _ _ (World.drew _)
      rw [← HWD.out]
      refine wpAny_of_held (S := fun W => Below wA.heap.size wA W) _ _ _ _ ?_
      refine takeH 0 15 ?_ rfl rfl (by kernel_rfl) (by kernel_rfl) (by kernel_rfl) (fun _ _ _ h => h) (Or.inl ⟨by kernel_rfl, ?_⟩) hS ?_; rotate_left; (intro w' hw; skip; first | (go_simp; done) | (go_simp; with_reducible rfl)); rotate_left
      try simp only [List.setIfInBounds_toArray, List.set_cons_zero, List.set_cons_succ]
      refine takeH 1 16 ?_ rfl rfl (by kernel_rfl) (by kernel_rfl) (by kernel_rfl) (fun _ _ _ h => h) (Or.inl ⟨by kernel_rfl, ?_⟩) hS ?_; rotate_left; (intro w' hw; skip; first | (go_simp; done) | (go_simp; with_reducible rfl)); rotate_left
      try simp only [List.setIfInBounds_toArray, List.set_cons_zero, List.set_cons_succ]
      refine takeH 2 17 ?_ rfl rfl (by kernel_rfl) (by kernel_rfl) (by kernel_rfl) (fun _ _ _ h => h) (Or.inl ⟨by kernel_rfl, ?_⟩) hS ?_; rotate_left; (intro w' hw; skip; first | (go_simp; done) | (go_simp; with_reducible rfl)); rotate_left
      try simp only [List.setIfInBounds_toArray, List.set_cons_zero, List.set_cons_succ]
      refine takeH 3 18 ?_ rfl rfl (by kernel_rfl) (by kernel_rfl) (by kernel_rfl) (fun _ _ _ h => h) (Or.inl ⟨by kernel_rfl, ?_⟩) hS ?_; rotate_left; (intro w' hw; skip; first | (go_simp; done) | (go_simp; with_reducible rfl)); rotate_left
      try simp only [List.setIfInBounds_toArray, List.set_cons_zero, List.set_cons_succ]
      refine takeH 4 19 ?_ rfl rfl (by kernel_rfl) (by kernel_rfl) (by kernel_rfl) (fun _ _ _ h => h) (Or.inl ⟨by kernel_rfl, ?_⟩) hS ?_; rotate_left; (intro w' hw; skip; first | (go_simp; done) | (go_simp; with_reducible rfl)); rotate_left
      try simp only [List.setIfInBounds_toArray, List.set_cons_zero, List.set_cons_succ]
      refine takeH 5 20 ?_ rfl rfl (by kernel_rfl) (by kernel_rfl) (by kernel_rfl) (fun _ _ _ h => h) (Or.inl ⟨by kernel_rfl, ?_⟩) hS ?_; rotate_left; (intro w' hw; obtain ⟨z0, z1, z2, z3⟩ := HS1.out _ hw; first | (go_simp; done) | (go_simp; with_reducible rfl)); rotate_left
      try simp only [List.setIfInBounds_toArray, List.set_cons_zero, List.set_cons_succ]
      refine takeH 6 21 ?_ rfl rfl (by kernel_rfl) (by kernel_rfl) (by kernel_rfl) (fun _ _ _ h => h) (Or.inl ⟨by kernel_rfl, ?_⟩) hS ?_; rotate_left; (intro w' hw; skip; first | (go_simp; done) | (go_simp; with_reducible rfl)); rotate_left
      try simp only [List.setIfInBounds_toArray, List.set_cons_zero, List.set_cons_succ]
      refine takeH 7 22 ?_ rfl rfl (by kernel_rfl) (by kernel_rfl) (by kernel_rfl) (fun _ _ _ h => h) (Or.inl ⟨by kernel_rfl, ?_⟩) hS ?_; rotate_left; (intro w' hw; skip; first | (go_simp; done) | (go_simp; with_reducible rfl)); rotate_left
      try simp only [List.setIfInBounds_toArray, List.set_cons_zero, List.set_cons_succ]
      refine takeH 8 23 ?_ rfl rfl (by kernel_rfl) (by kernel_rfl) (by kernel_rfl) (fun _ _ _ h => h) (Or.inl ⟨by kernel_rfl, ?_⟩) hS ?_; rotate_left; (intro w' hw; skip; first | (go_simp; done) | (go_simp; with_reducible rfl)); rotate_left
      try simp only [List.setIfInBounds_toArray, List.set_cons_zero, List.set_cons_succ]
      refine takeH 9 24 ?_ rfl rfl (by kernel_rfl) (by kernel_rfl) (by kernel_rfl) (fun _ _ _ h => h) (Or.inl ⟨by kernel_rfl, ?_⟩) hS ?_; rotate_left; (intro w' hw; skip; first | (go_simp; done) | (go_simp; with_reducible rfl)); rotate_left
      try simp only [List.setIfInBounds_toArray, List.set_cons_zero, List.set_cons_succ]
      refine takeH 10 25 ?_ rfl rfl (by kernel_rfl) (by kernel_rfl) (by kernel_rfl) (fun _ _ _ h => h) (Or.inl ⟨by kernel_rfl, ?_⟩) hS ?_; rotate_left; (intro w' hw; obtain ⟨z0, z1, z2, z3⟩ := HS1.out _ hw; first | (go_simp; done) | (go_simp; with_reducible rfl)); rotate_left
      try simp only [List.setIfInBounds_toArray, List.set_cons_zero, List.set_cons_succ]
      refine takeH 11 26 ?_ rfl rfl (by kernel_rfl) (by kernel_rfl) (by kernel_rfl) (fun _ _ _ h => h) (Or.inl ⟨by kernel_rfl, ?_⟩) hS ?_; rotate_left; (intro w' hw; skip; first | (go_simp; done) | (go_simp; with_reducible rfl)); rotate_left
      try simp only [List.setIfInBounds_toArray, List.set_cons_zero, List.set_cons_succ]
      refine takeH 12 27 ?_ rfl rfl (by kernel_rfl) (by kernel_rfl) (by kernel_rfl) (fun _ _ _ h => h) (Or.inl ⟨by kernel_rfl, ?_⟩) hS ?_; rotate_left; (intro w' hw; skip; first | (go_simp; done) | (go_simp; with_reducible rfl)); rotate_left
      try simp only [List.setIfInBounds_toArray, List.set_cons_zero, List.set_cons_succ]
      refine takeH 13 28 ?_ rfl rfl (by kernel_rfl) (by kernel_rfl) (by kernel_rfl) (fun _ _ _ h => h) (Or.inl ⟨by kernel_rfl, ?_⟩) hS ?_; rotate_left; (intro w' hw; skip; first | (go_simp; done) | (go_simp; with_reducible rfl)); rotate_left
      try simp only [List.setIfInBounds_toArray, List.set_cons_zero, List.set_cons_succ]
      refine takeH 14 29 ?_ rfl rfl (by kernel_rfl) (by kernel_rfl) (by kernel_rfl) (fun _ _ _ h => h) (Or.inl ⟨by kernel_rfl, ?_⟩) hS ?_; rotate_left; (intro w' hw; skip; first | (go_simp; done) | (go_simp; with_reducible rfl)); rotate_left
      try simp only [List.setIfInBounds_toArray, List.set_cons_zero, List.set_cons_succ]
      refine takeH 15 30 ?_ rfl rfl (by kernel_rfl) (by kernel_rfl) (by kernel_rfl) (fun _ _ _ h => h) (Or.inl ⟨by kernel_rfl, ?_⟩) hS ?_; rotate_left; (intro w' hw; obtain ⟨z0, z1, z2, z3⟩ := HS1.out _ hw; first | (go_simp; done) | (go_simp; with_reducible rfl)); rotate_left
      try simp only [List.setIfInBounds_toArray, List.set_cons_zero, List.set_cons_succ]
      refine takeH 16 31 ?_ rfl rfl (by kernel_rfl) (by kernel_rfl) (by kernel_rfl) (fun _ _ _ h => h) (Or.inl ⟨by kernel_rfl, ?_⟩) hS ?_; rotate_left; (intro w' hw; skip; first | (go_simp; done) | (go_simp; with_reducible rfl)); rotate_left
      try simp only [List.setIfInBounds_toArray, List.set_cons_zero, List.set_cons_succ]
      refine takeH 17 32 ?_ rfl rfl (by kernel_rfl) (by kernel_rfl) (by kernel_rfl) (fun _ _ _ h => h) (Or.inl ⟨by kernel_rfl, ?_⟩) hS ?_; rotate_left; (intro w' hw; skip; first | (go_simp; done) | (go_simp; with_reducible rfl)); rotate_left
      try simp only [List.setIfInBounds_toArray, List.set_cons_zero, List.set_cons_succ]
      refine takeH 18 33 ?_ rfl rfl (by kernel_rfl) (by kernel_rfl) (by kernel_rfl) (fun _ _ _ h => h) (Or.inl ⟨by kernel_rfl, ?_⟩) hS ?_; rotate_left; (intro w' hw; skip; first | (go_simp; done) | (go_simp; with_reducible rfl)); rotate_left
      try simp only [List.setIfInBounds_toArray, List.set_cons_zero, List.set_cons_succ]
      refine takeH 19 34 ?_ rfl rfl (by kernel_rfl) (by kernel_rfl) (by kernel_rfl) (fun _ _ _ h => h) (Or.inl ⟨by kernel_rfl, ?_⟩) hS ?_; rotate_left; (intro w' hw; skip; first | (go_simp; done) | (go_simp; with_reducible rfl)); rotate_left
      try simp only [List.setIfInBounds_toArray, List.set_cons_zero, List.set_cons_succ]
      refine takeH 20 35 ?_ rfl rfl (by kernel_rfl) (by kernel_rfl) (by kernel_rfl) (fun _ _ _ h => h) (Or.inl ⟨by kernel_rfl, ?_⟩) hS ?_; rotate_left; (intro w' hw; obtain ⟨z0, z1, z2, z3⟩ := HS1.out _ hw; first | (go_simp; done) | (go_simp; with_reducible rfl)); rotate_left
      try simp only [List.setIfInBounds_toArray, List.set_cons_zero, List.set_cons_succ]
      refine takeH 21 36 ?_ rfl rfl (by kernel_rfl) (by kernel_rfl) (by kernel_rfl) (fun _ _ _ h => h) (Or.inl ⟨by kernel_rfl, ?_⟩) hS ?_; rotate_left; (intro w' hw; skip; first | (go_simp; done) | (go_simp; with_reducible rfl)); rotate_left
      try simp only [List.setIfInBounds_toArray, List.set_cons_zero, List.set_cons_succ]
      refine wpAnyH_ready (rs := [22]) (by kernel_rfl) (by simp) ?_; refine AllReadyH.cons rfl (fun K2 hK => ?_) AllReadyH.nil; go_simp; have hS1 := hS.alloc hS.size (.cells #[.int .i64 vf, .int .i64 vw, .int .i64 vd, .slice a1 M c1] 37); refine hK.out _ _ ?_ (fun _ => ?_); (exact hS1); clear hK K2
      refine wpAnyH_ready (rs := [23]) (by kernel_rfl) (by simp) ?_; refine AllReadyH.cons rfl (fun K2 hK => ?_) AllReadyH.nil; refine eltD.stepApp wD rfl (.tmp 15) (.tmp 37) rfl wA.heap.size (.slice ao tk.length co) tk rfl HR0.out #[.int .i64 vf, .int .i64 vw, .int .i64 vd, .slice a1 M c1] 1 rfl dk HPV.out (by omega) hS.size ?_; intro v2 w2 hrow2 hb2 hkeep2; obtain ⟨a2, c2, rfl⟩ := hrow2.slice; have hS2 := hS.trans hb2; have HR2 := Lib.hid (And.intro hrow2 hS2); refine hK.out _ _ ?_ (fun _ => ?_); (exact hS2); clear hK K2 hS hS1 hrow2 hb2 hkeep2; have hS := hS2; clear hS2
      refine wpAnyH_ready (rs := [24]) (by kernel_rfl) (by simp) ?_; refine AllReadyH.cons rfl (fun K2 hK => ?_) AllReadyH.nil; go_simp; refine hK.out _ _ ?_ (fun _ => ?_); (exact hS); clear hK K2
      refine wpAnyH_done (by kernel_rfl) ?_ _
      clear hS HS1 HR0 HPV
      go_wp2
      go_roundw
      case rel => exact ⟨k + 1, by omega, by go_num, Lib.hid (by rw [HTK.out]; simpa using HR2.out.1), Lib.hid HR2.out.2⟩
      case measure => simp [intOf]; omega
    · obtain rfl : k = ds.length := by omega
      have HE := Lib.hid (And.intro hrow.out hb.out)
      clear hrow hb HROW0 HB0
      go_wp2
      go_ret
      obtain ⟨h1, h2⟩ := HE.out
      obtain ⟨av, cv, hav, hf⟩ := h1.flat
      rw [List.take_length] at hav hf
      have hbb := HA.out.2.2
      rw [List.take_length, hav]
      exact ⟨⟨av, cv, ds, rfl, hf.view, HA.out.1, fun d hd => (HA.out.2.1 d hd).below h2⟩, hbb.trans (h2.mono hbb.size)⟩
set_option maxRecDepth 100000 in
set_option maxHeartbeats 8000000 in
theorem backC (a : Option Addr) (c : Nat) (ds : List DR) (w : World) (hl : ds.length ≤ 100000) (hv : eltD.View w a ds) :
    Calls Try.prog 23 #[.slice a ds.length c] w fun e w' => ∃ a' c', e = .returned (.slice a' ds.length c') ∧ eltR.View w' a' ds ∧ Below w.heap.size w w' := by
  have HV := Lib.hid hv
  have hdl := hl
  have HROW0 : Hid (eltR.Row (w.alloc (.cells #[] 56)) w.heap.size (.slice (some ⟨w.heap.size, 0, none⟩) 0 0) []) := Lib.hid (Elt.Row.lit w w.heap.size (Nat.le_refl _))
  have HB0 : Hid (Below w.heap.size w (w.alloc (.cells #[] 56))) := Lib.hid ((Below.refl _ _).alloc (Nat.le_refl _) _)
  clear hv hl
  go_enter Try.func23, Try.ntmps23
  go_wp2
  go_loopw [3, 4] (fun o i wr => ∃ k : Nat, k ≤ ds.length ∧ i = .int .i64 (k : Int) ∧ Hid (eltR.Row wr w.heap.size o (ds.take k)) ∧ Hid (Below w.heap.size w wr)) (fun _ i _ => ds.length - (intOf i).toNat)
  case atStart => exact ⟨0, by omega, rfl, Lib.hid (by simpa using HROW0.out), Lib.hid HB0.out⟩
  case round =>
    obtain ⟨k, hk, rfl, hrow, hb⟩ := hrel
    obtain ⟨ao, co, rfl⟩ := hrow.out.slice
    by_cases hlt : k < ds.length
    · obtain ⟨g, off, rfl, hg, hc⟩ := rows_at HV.out (by omega)
      obtain ⟨e0, e1, e2, e3⟩ := hc k hlt
      have HTK := Lib.hid (take_snoc hlt)
      have HS1 := Lib.hid (fun W (hW : Below w.heap.size w W) => (show W.cell? ⟨g, off + k * 4, none⟩ = some (.int .i64 ds[k].r.f) ∧ W.cell? ⟨g, off + k * 4 + 1, none⟩ = some (.int .i64 ds[k].r.w) ∧ W.cell? ⟨g, off + k * 4 + 2, none⟩ = some (.int .i64 ds[k].r.d) ∧ W.cell? ⟨g, off + k * 4 + 3, none⟩ = some (.slice ds[k].a ds[k].r.its.length ds[k].cap) from
        ⟨(hW.cell (p := ⟨g, _, none⟩) hg).trans e0, (hW.cell (p := ⟨g, _, none⟩) hg).trans e1, (hW.cell (p := ⟨g, _, none⟩) hg).trans e2, (hW.cell (p := ⟨g, _, none⟩) hg).trans e3⟩))
      clear hc e0 e1 e2 e3
      have HPV : Hid ((#[.int .i64 ds[k].r.f, .int .i64 ds[k].r.w, .int .i64 ds[k].r.d, .slice ds[k].a ds[k].r.its.length ds[k].cap] : Array Value).toList = eltR.pv ds[k]) := Lib.hid rfl
      generalize ds[k].r.f = vf at *
      generalize ds[k].r.w = vw at *
      generalize ds[k].r.d = vd at *
      generalize ds[k].r.its.length = M at *
      generalize ds[k].a = a1 at *
      generalize ds[k].cap = c1 at *
      generalize ds[k] = dk at *
      have htl : (ds.take k).length ≤ 1000000 := by simp; omega
      obtain ⟨wD, hwD⟩ : ∃ wD, wD = wr.drew := ⟨_, rfl⟩
      have hS : Below w.heap.size w wD := by rw [hwD]; exact hb.out.drew
      have HR0 := Lib.hid (show eltR.Row wD w.heap.size (.slice ao (ds.take k).length co) (ds.take k) from by rw [hwD]; exact hrow.out.below (Below.refl _ _).drew)
      have HWD := Lib.hid hwD
      generalize hT : ds.take k = tk at *
      have HT := Lib.hid hT
      clear hrow hb hwD HROW0 HB0 hT
      go_upto_region 5 with fail
      refine wp_region_any (by kernel_rfl) ?_
      change wpAny _ _ _ _ _ _ _ (World.drew _)
      rw [← HWD.out]
      refine wpAny_of_held (S := fun W => Below w.heap.size w W) _ _ _ _ ?_
      refine takeH 0 12 ?_ rfl rfl (by kernel_rfl) (by kernel_rfl) (by kernel_rfl) (fun _ _ _ h => h) (Or.inl ⟨by kernel_rfl, ?_⟩) hS ?_; rotate_left; (intro w' hw; skip; first | (go_simp; done) | (go_simp; with_reducible rfl)); rotate_left
      try simp only [List.setIfInBounds_toArray, List.set_cons_zero, List.set_cons_succ]
      refine takeH 1 13 ?_ rfl rfl (by kernel_rfl) (by kernel_rfl) (by kernel_rfl) (fun _ _ _ h => h) (Or.inl ⟨by kernel_rfl, ?_⟩) hS ?_; rotate_left; (intro w' hw; skip; first | (go_simp; done) | (go_simp; with_reducible rfl)); rotate_left
      try simp only [List.setIfInBounds_toArray, List.set_cons_zero, List.set_cons_succ]
      refine takeH 2 14 ?_ rfl rfl (by kernel_rfl) (by kernel_rfl) (by kernel_rfl) (fun _ _ _ h => h) (Or.inl ⟨by kernel_rfl, ?_⟩) hS ?_; rotate_left; (intro w' hw; skip; first | (go_simp; done) | (go_simp; with_reducible rfl)); rotate_left
      try simp only [List.setIfInBounds_toArray, List.set_cons_zero, List.set_cons_succ]
      refine takeH 3 15 ?_ rfl rfl (by kernel_rfl) (by kernel_rfl) (by kernel_rfl) (fun _ _ _ h => h) (Or.inl ⟨by kernel_rfl, ?_⟩) hS ?_; rotate_left; (intro w' hw; skip; first | (go_simp; done) | (go_simp; with_reducible rfl)); rotate_left
      try simp only [List.setIfInBounds_toArray, List.set_cons_zero, List.set_cons_succ]
      refine takeH 4 16 ?_ rfl rfl (by kernel_rfl) (by kernel_rfl) (by kernel_rfl) (fun _ _ _ h => h) (Or.inl ⟨by kernel_rfl, ?_⟩) hS ?_; rotate_left; (intro w' hw; skip; first | (go_simp; done) | (go_simp; with_reducible rfl)); rotate_left
      try simp only [List.setIfInBounds_toArray, List.set_cons_zero, List.set_cons_succ]
      refine takeH 5 17 ?_ rfl rfl (by kernel_rfl) (by kernel_rfl) (by kernel_rfl) (fun _ _ _ h => h) (Or.inl ⟨by kernel_rfl, ?_⟩) hS ?_; rotate_left; (intro w' hw; obtain ⟨z0, z1, z2, z3⟩ := HS1.out _ hw; first | (go_simp; done) | (go_simp; with_reducible rfl)); rotate_left
      try simp only [List.setIfInBounds_toArray, List.set_cons_zero, List.set_cons_succ]
      refine takeH 6 18 ?_ rfl rfl (by kernel_rfl) (by kernel_rfl) (by kernel_rfl) (fun _ _ _ h => h) (Or.inl ⟨by kernel_rfl, ?_⟩) hS ?_; rotate_left; (intro w' hw; skip; first | (go_simp; done) | (go_simp; with_reducible rfl)); rotate_left
      try simp only [List.setIfInBounds_toArray, List.set_cons_zero, List.set_cons_succ]
      refine takeH 7 19 ?_ rfl rfl (by kernel_rfl) (by kernel_rfl) (by kernel_rfl) (fun _ _ _ h => h) (Or.inl ⟨by kernel_rfl, ?_⟩) hS ?_; rotate_left; (intro w' hw; skip; first | (go_simp; done) | (go_simp; with_reducible rfl)); rotate_left
      try simp only [List.setIfInBounds_toArray, List.set_cons_zero, List.set_cons_succ]
      refine takeH 8 20 ?_ rfl rfl (by kernel_rfl) (by kernel_rfl) (by kernel_rfl) (fun _ _ _ h => h) (Or.inl ⟨by kernel_rfl, ?_⟩) hS ?_; rotate_left; (intro w' hw; skip; first | (go_simp; done) | (go_simp; with_reducible rfl)); rotate_left
      try simp only [List.setIfInBounds_toArray, List.set_cons_zero, List.set_cons_succ]
      refine takeH 9 21 ?_ rfl rfl (by kernel_rfl) (by kernel_rfl) (by kernel_rfl) (fun _ _ _ h => h) (Or.inl ⟨by kernel_rfl, ?_⟩) hS ?_; rotate_left; (intro w' hw; skip; first | (go_simp; done) | (go_simp; with_reducible rfl)); rotate_left
      try simp only [List.setIfInBounds_toArray, List.set_cons_zero, List.set_cons_succ]
      refine takeH 10 22 ?_ rfl rfl (by kernel_rfl) (by kernel_rfl) (by kernel_rfl) (fun _ _ _ h => h) (Or.inl ⟨by kernel_rfl, ?_⟩) hS ?_; rotate_left; (intro w' hw; obtain ⟨z0, z1, z2, z3⟩ := HS1.out _ hw; first | (go_simp; done) | (go_simp; with_reducible rfl)); rotate_left
      try simp only [List.setIfInBounds_toArray, List.set_cons_zero, List.set_cons_succ]
      refine takeH 11 23 ?_ rfl rfl (by kernel_rfl) (by kernel_rfl) (by kernel_rfl) (fun _ _ _ h => h) (Or.inl ⟨by kernel_rfl, ?_⟩) hS ?_; rotate_left; (intro w' hw; skip; first | (go_simp; done) | (go_simp; with_reducible rfl)); rotate_left
      try simp only [List.setIfInBounds_toArray, List.set_cons_zero, List.set_cons_succ]
      refine takeH 12 24 ?_ rfl rfl (by kernel_rfl) (by kernel_rfl) (by kernel_rfl) (fun _ _ _ h => h) (Or.inl ⟨by kernel_rfl, ?_⟩) hS ?_; rotate_left; (intro w' hw; skip; first | (go_simp; done) | (go_simp; with_reducible rfl)); rotate_left
      try simp only [List.setIfInBounds_toArray, List.set_cons_zero, List.set_cons_succ]
      refine takeH 13 25 ?_ rfl rfl (by kernel_rfl) (by kernel_rfl) (by kernel_rfl) (fun _ _ _ h => h) (Or.inl ⟨by kernel_rfl, ?_⟩) hS ?_; rotate_left; (intro w' hw; skip; first | (go_simp; done) | (go_simp; with_reducible rfl)); rotate_left
      try simp only [List.setIfInBounds_toArray, List.set_cons_zero, List.set_cons_succ]
      refine takeH 14 26 ?_ rfl rfl (by kernel_rfl) (by kernel_rfl) (by kernel_rfl) (fun _ _ _ h => h) (Or.inl ⟨by kernel_rfl, ?_⟩) hS ?_; rotate_left; (intro w' hw; skip; first | (go_simp; done) | (go_simp; with_reducible rfl)); rotate_left
      try simp only [List.setIfInBounds_toArray, List.set_cons_zero, List.set_cons_succ]
      refine takeH 15 27 ?_ rfl rfl (by kernel_rfl) (by kernel_rfl) (by kernel_rfl) (fun _ _ _ h => h) (Or.inl ⟨by kernel_rfl, ?_⟩) hS ?_; rotate_left; (intro w' hw; obtain ⟨z0, z1, z2, z3⟩ := HS1.out _ hw; first | (go_simp; done) | (go_simp; with_reducible rfl)); rotate_left
      try simp only [List.setIfInBounds_toArray, List.set_cons_zero, List.set_cons_succ]
      refine takeH 16 28 ?_ rfl rfl (by kernel_rfl) (by kernel_rfl) (by kernel_rfl) (fun _ _ _ h => h) (Or.inl ⟨by kernel_rfl, ?_⟩) hS ?_; rotate_left; (intro w' hw; skip; first | (go_simp; done) | (go_simp; with_reducible rfl)); rotate_left
      try simp only [List.setIfInBounds_toArray, List.set_cons_zero, List.set_cons_succ]
      refine takeH 17 29 ?_ rfl rfl (by kernel_rfl) (by kernel_rfl) (by kernel_rfl) (fun _ _ _ h => h) (Or.inl ⟨by kernel_rfl, ?_⟩) hS ?_; rotate_left; (intro w' hw; skip; first | (go_simp; done) | (go_simp; with_reducible rfl)); rotate_left
      try simp only [List.setIfInBounds_toArray, List.set_cons_zero, List.set_cons_succ]
      refine takeH 18 30 ?_ rfl rfl (by kernel_rfl) (by kernel_rfl) (by kernel_rfl) (fun _ _ _ h => h) (Or.inl ⟨by kernel_rfl, ?_⟩) hS ?_; rotate_left; (intro w' hw; skip; first | (go_simp; done) | (go_simp; with_reducible rfl)); rotate_left
      try simp only [List.setIfInBounds_toArray, List.set_cons_zero, List.set_cons_succ]
      refine takeH 19 31 ?_ rfl rfl (by kernel_rfl) (by kernel_rfl) (by kernel_rfl) (fun _ _ _ h => h) (Or.inl ⟨by kernel_rfl, ?_⟩) hS ?_; rotate_left; (intro w' hw; skip; first | (go_simp; done) | (go_simp; with_reducible rfl)); rotate_left
      try simp only [List.setIfInBounds_toArray, List.set_cons_zero, List.set_cons_succ]
      refine takeH 20 32 ?_ rfl rfl (by kernel_rfl) (by kernel_rfl) (by kernel_rfl) (fun _ _ _ h => h) (Or.inl ⟨by kernel_rfl, ?_⟩) hS ?_; rotate_left; (intro w' hw; obtain ⟨z0, z1, z2, z3⟩ := HS1.out _ hw; first | (go_simp; done) | (go_simp; with_reducible rfl)); rotate_left
      try simp only [List.setIfInBounds_toArray, List.set_cons_zero, List.set_cons_succ]
      refine takeH 21 33 ?_ rfl rfl (by kernel_rfl) (by kernel_rfl) (by kernel_rfl) (fun _ _ _ h => h) (Or.inl ⟨by kernel_rfl, ?_⟩) hS ?_; rotate_left; (intro w' hw; skip; first | (go_simp; done) | (go_simp; with_reducible rfl)); rotate_left
      try simp only [List.setIfInBounds_toArray, List.set_cons_zero, List.set_cons_succ]
      refine wpAnyH_ready (rs := [22]) (by kernel_rfl) (by simp) ?_; refine AllReadyH.cons rfl (fun K2 hK => ?_) AllReadyH.nil; go_simp; have hS1 := hS.alloc hS.size (.cells #[.int .i64 vf, .int .i64 vw, .int .i64 vd, .slice a1 M c1] 56); refine hK.out _ _ ?_ (fun _ => ?_); (exact hS1); clear hK K2
      refine wpAnyH_ready (rs := [23]) (by kernel_rfl) (by simp) ?_; refine AllReadyH.cons rfl (fun K2 hK => ?_) AllReadyH.nil; refine eltR.stepApp wD rfl (.tmp 12) (.tmp 34) rfl w.heap.size (.slice ao tk.length co) tk rfl HR0.out #[.int .i64 vf, .int .i64 vw, .int .i64 vd, .slice a1 M c1] 1 rfl dk HPV.out (by omega) hS.size ?_; intro v2 w2 hrow2 hb2 hkeep2; obtain ⟨a2, c2, rfl⟩ := hrow2.slice; have hS2 := hS.trans hb2; have HR2 := Lib.hid (And.intro hrow2 hS2); refine hK.out _ _ ?_ (fun _ => ?_); (exact hS2); clear hK K2 hS hS1 hrow2 hb2 hkeep2; have hS := hS2; clear hS2
      refine wpAnyH_ready (rs := [24]) (by kernel_rfl) (by simp) ?_; refine AllReadyH.cons rfl (fun K2 hK => ?_) AllReadyH.nil; go_simp; refine hK.out _ _ ?_ (fun _ => ?_); (exact hS); clear hK K2
      refine wpAnyH_done (by kernel_rfl) ?_ _
      clear hS HS1 HR0 HPV
      go_wp2
      go_roundw
      case rel => exact ⟨k + 1, by omega, by go_num, Lib.hid (by rw [HTK.out]; simpa using HR2.out.1), Lib.hid HR2.out.2⟩
      case measure => simp [intOf]; omega
    · obtain rfl : k = ds.length := by omega
      have HE := Lib.hid (And.intro hrow.out hb.out)
      clear hrow hb HROW0 HB0
      go_wp2
      go_ret
      obtain ⟨h1, h2⟩ := HE.out
      obtain ⟨av, cv, hav, hf⟩ := h1.flat
      rw [List.take_length] at hav hf
      rw [List.take_length, hav]
      exact ⟨av, cv, rfl, hf.view, h2⟩
end Go.Proofs.Ytgeoebodlcbebaa

namespace Go.Proofs.Ytgeoebodlcbebaa
open Go.RowKit
open Rb (Nd)
set_option linter.unusedVariables false

/-- a state within bounds -/
structure OkS (n : Nat) (s : Fl.St) : Prop where
  g : Fl.Good s
  l : Fl.Lim 64 s
  z : Fl.Small n s
section
variable {n : Nat} {s : Fl.St}
theorem OkS.mono {m : Nat} (h : OkS n s) (hm : n ≤ m) : OkS m s := ⟨h.g, h.l, h.z.mono hm⟩
theorem OkS.push (h : OkS n s) {f id : Int} (wt co : Int) (hf : (Lit.int .i64 f).wf = true) (hid : (Lit.int .i64 id).wf = true) : OkS (n + 1) (s.push f wt id co) := ⟨h.g.push (wf_i64 hf).2 (wf_i64 hid).2, h.l.push h.g (by decide) pushE_co, h.z.push h.g f wt id co⟩
theorem OkS.pick (h : OkS n s) : OkS n s.pick := ⟨(h.g.pick h.l).1, (h.g.pick h.l).2.1, h.z.pick h.g h.l⟩
theorem OkS.take (h : OkS n s) : OkS n s.take := ⟨h.g.take h.l, h.l.take h.g h.l, h.z.take h.g h.l⟩
theorem OkS.drop (h : OkS n s) (f id : Int) : OkS n (s.drop f id) := ⟨h.g.drop f id, h.l.drop h.g f id, h.z.drop f id⟩
theorem OkS.act (h : OkS n s) (a : Fl.Ac) (hf : (Lit.int .i64 a.f).wf = true) (hid : (Lit.int .i64 a.id).wf = true) : OkS (n + 1) (s.act a) := by
  unfold Fl.St.act
  split
  · exact h.push _ _ hf hid
  · split
    · exact h.take.mono (Nat.le_succ _)
    · split
      · exact h.pick.mono (Nat.le_succ _)
      · exact (h.drop _ _).mono (Nat.le_succ _)
end
/-- the two, apart, beside boxes -/
structure TwoR (w0 : World) (P V : Nat) (sp sr : Fl.St) (bx : List (Nat × Obj)) (W : World) : Prop where
  st : ∃ F D, FIs W w0.heap.size P sp F ∧ RfIs W V sr D ∧ (∀ k, D k → ¬ F k) ∧ ∀ p ∈ bx, W.heap[p.1]? = some p.2 ∧ ¬ F p.1 ∧ p.1 ≠ V
  b : Below w0.heap.size w0 W
  v : w0.heap.size ≤ V
section
variable {w0 W W' : World} {P V : Nat} {sp sr sp' sr' : Fl.St} {bx : List (Nat × Obj)}
theorem TwoR.below (h : TwoR w0 P V sp sr bx W) (hb : Below W.heap.size W W') : TwoR w0 P V sp sr bx W' := by
  obtain ⟨F, D, h1, h2, h3, h4⟩ := h.st
  exact ⟨⟨F, D, h1.below hb, h2.below hb, h3, fun p hp => ⟨(hb.block p.1 (lt_block (h4 p hp).1)).trans (h4 p hp).1, (h4 p hp).2⟩⟩, h.b.trans (hb.mono h.b.size), h.v⟩
theorem TwoR.did {r : Value} {F D : Nat → Prop} {e : Ending} (h : TwoR w0 P V sp sr bx W) (h1 : FIs W w0.heap.size P sp F) (h2 : RfIs W V sr D) (h3 : ∀ k, D k → ¬ F k) (h4 : ∀ p ∈ bx, W.heap[p.1]? = some p.2 ∧ ¬ F p.1 ∧ p.1 ≠ V) (hr : RetF r w0.heap.size P sp' F W e W') : e = .returned r ∧ TwoR w0 P V sp' sr bx W' := by
  obtain ⟨F', g1, g2⟩ := hr.s
  have hn : ∀ k, k < W.heap.size → ¬ F k → ¬ F' k := fun k hk hf hf' => by
    rcases g2 k hf' with e | e
    · exact hf e
    · omega
  exact ⟨hr.r, ⟨F', D, g1, h2.keep hr.c.size (fun k hk => hr.c.block k (h2.lt k hk) (h3 k hk)), fun k hk => hn k (h2.lt k hk) (h3 k hk), fun p hp => ⟨hr.c.keep (h4 p hp).1 (h4 p hp).2.1, hn _ (lt_block (h4 p hp).1) (h4 p hp).2.1, (h4 p hp).2.2⟩⟩, h.b.trans (hr.c.below (fun k hk => (h1.lt k hk).1) h.b.size), h.v⟩
theorem TwoR.didR {r : Value} {F D : Nat → Prop} {e : Ending} (h : TwoR w0 P V sp sr bx W) (h1 : FIs W w0.heap.size P sp F) (h2 : RfIs W V sr D) (h3 : ∀ k, D k → ¬ F k) (h4 : ∀ p ∈ bx, W.heap[p.1]? = some p.2 ∧ ¬ F p.1 ∧ p.1 ≠ V) (hr : RetRf r V sr' D W e W') : e = .returned r ∧ TwoR w0 P V sp sr' bx W' := by
  obtain ⟨D', g1, g2⟩ := hr.s
  have hV : ¬ F V := h3 V h2.v.1
  refine ⟨hr.r, ⟨F, D', h1.keep (fun k hk => hr.c.block k (h1.lt k hk).2 (fun e => ?_)), g1, fun k hk hf => ?_, fun p hp => ⟨hr.c.keep (h4 p hp).1 (h4 p hp).2.2, (h4 p hp).2⟩⟩, h.b.trans (hr.c.below (fun k hk => ?_) h.b.size), h.v⟩
  · have e : k = V := e
    subst e; exact hV hk
  · rcases g2 k hk with e | e
    · exact h3 k e hf
    · have := (h1.lt k hf).2; omega
  · have e : k = V := hk
    subst e; exact h.v
theorem TwoR.box (h : TwoR w0 P V sp sr bx W) (o : Obj) : TwoR w0 P V sp sr ((W.heap.size, o) :: bx) (W.alloc o) := by
  have hb : Below W.heap.size W (W.alloc o) := (Below.refl _ _).alloc (Nat.le_refl _) _
  have h' := h.below hb
  obtain ⟨F, D, h1, h2, h3, h4⟩ := h.st
  refine ⟨⟨F, D, h1.below hb, h2.below hb, h3, fun p hp => ?_⟩, h'.b, h.v⟩
  rcases List.mem_cons.1 hp with e | hp
  · subst e
    exact ⟨heap_alloc_new _ _, fun hf => by have := (h1.lt _ hf).2; omega, fun e => by have := h2.v.2; omega⟩
  · exact ⟨(hb.block p.1 (lt_block (h4 p hp).1)).trans (h4 p hp).1, (h4 p hp).2⟩
theorem TwoR.at_ (h : TwoR w0 P V sp sr bx W) {k : Nat} {o : Obj} (hm : (k, o) ∈ bx) : W.heap[k]? = some o := by
  obtain ⟨F, D, h1, h2, h3, h4⟩ := h.st
  exact (h4 _ hm).1
theorem TwoR.fewer {bx' : List (Nat × Obj)} (h : TwoR w0 P V sp sr bx W) (hs : ∀ p ∈ bx', p ∈ bx) : TwoR w0 P V sp sr bx' W := by
  obtain ⟨F, D, h1, h2, h3, h4⟩ := h.st
  exact ⟨⟨F, D, h1, h2, h3, fun p hp => h4 p (hs p hp)⟩, h.b, h.v⟩
theorem TwoR.ref (h : TwoR w0 P V sp sr bx W) : ∃ a cap ds, RfAt W V sr a cap ds := by
  obtain ⟨F, D, h1, ⟨a, cap, ds, h2, _⟩, h3, h4⟩ := h.st
  exact ⟨a, cap, ds, h2⟩
end
section
variable {w0 : World} {P V n : Nat} {sp sr : Fl.St} {bx : List (Nat × Obj)}
theorem two_push (f wt id co : Int) (W : World) (h : TwoR w0 P V sp sr bx W) (hk : OkS n sp) (hf : (Lit.int .i64 f).wf = true) (hid : (Lit.int .i64 id).wf = true) (hn : n ≤ 1000) :
    Calls Try.prog 15 #[.pointer (some ⟨P, 0, none⟩), .int .i64 f, .int .i64 wt, .agg #[.int .i64 id, .int .i64 co]] W fun e W' => e = .returned (.int .i64 (sp.pushE f wt id co)) ∧ TwoR w0 P V (sp.push f wt id co) sr bx W' := by
  obtain ⟨F, D, h1, h2, h3, h4⟩ := h.st
  exact (flPushC _ P sp F f wt id co W h1 hk.g (hk.z.mono (by omega)) h.b.size hf hid).mono fun e W' hr => h.did h1 h2 h3 h4 hr
theorem two_pick (W : World) (h : TwoR w0 P V sp sr bx W) (hk : OkS n sp) (hn : n ≤ 1000) :
    Calls Try.prog 17 #[.pointer (some ⟨P, 0, none⟩)] W fun e W' => e = .returned (tkV sp.takeV) ∧ TwoR w0 P V sp.pick sr bx W' := by
  obtain ⟨F, D, h1, h2, h3, h4⟩ := h.st
  exact (flPickC _ P sp F W h1 hk.g hk.l (hk.z.mono (by omega))).mono fun e W' hr => h.did h1 h2 h3 h4 hr
theorem two_take (W : World) (h : TwoR w0 P V sp sr bx W) (hk : OkS n sp) (hn : n ≤ 1000) :
    Calls Try.prog 16 #[.pointer (some ⟨P, 0, none⟩)] W fun e W' => e = .returned (tkV sp.takeV) ∧ TwoR w0 P V sp.take sr bx W' := by
  obtain ⟨F, D, h1, h2, h3, h4⟩ := h.st
  exact (flTakeC _ P sp F W h1 hk.g hk.l (hk.z.mono (by omega)) h.b.size).mono fun e W' hr => h.did h1 h2 h3 h4 hr
theorem two_drop (f id : Int) (W : World) (h : TwoR w0 P V sp sr bx W) (hk : OkS n sp) (hf : (Lit.int .i64 f).wf = true) (hid : (Lit.int .i64 id).wf = true) (hn : n ≤ 1000) :
    Calls Try.prog 18 #[.pointer (some ⟨P, 0, none⟩), .int .i64 f, .int .i64 id] W fun e W' => e = .returned (.bool (sp.dropB f id)) ∧ TwoR w0 P V (sp.drop f id) sr bx W' := by
  obtain ⟨F, D, h1, h2, h3, h4⟩ := h.st
  exact (flDropC _ P sp F f id W h1 hk.g (hk.z.mono (by omega)) h.b.size hf hid).mono fun e W' hr => h.did h1 h2 h3 h4 hr
theorem two_len (f : Int) (W : World) (h : TwoR w0 P V sp sr bx W) (hk : OkS n sp) (hf : (Lit.int .i64 f).wf = true) (hn : n ≤ 1000) :
    Calls Try.prog 12 #[.pointer (some ⟨P, 0, none⟩), .int .i64 f] W (Ret (.int .i64 (lenOf sp.l f)) W) := by
  obtain ⟨F, D, h1, h2, h3, h4⟩ := h.st
  exact flLenC _ P sp F f W h1 hf (hk.z.mono (by omega))
theorem two_def (f : Int) (W : World) (h : TwoR w0 P V sp sr bx W) (hf : (Lit.int .i64 f).wf = true) :
    Calls Try.prog 13 #[.pointer (some ⟨P, 0, none⟩), .int .i64 f] W (Ret (.int .i64 (defOf sp.l f)) W) := by
  obtain ⟨F, D, h1, h2, h3, h4⟩ := h.st
  exact flDefC _ P sp F f W h1 hf
theorem two_rows (W : World) (h : TwoR w0 P V sp sr bx W) (hk : OkS n sp) (hn : n ≤ 1000) :
    Calls Try.prog 31 #[.pointer (some ⟨P, 0, none⟩)] W (RetRowsD sp.l W) := by
  obtain ⟨F, D, h1, h2, h3, h4⟩ := h.st
  exact rowsLC P sp.l W (by have := hk.z.l; omega) (flRowsC _ P sp F W h1 (hk.z.mono (by omega)))
theorem two_given (W : World) (h : TwoR w0 P V sp sr bx W) :
    Calls Try.prog 21 #[.pointer (some ⟨P, 0, none⟩)] W (Same (.bool sp.g) W) := by
  obtain ⟨F, D, h1, h2, h3, h4⟩ := h.st
  exact flGivenC _ P sp F W h1
theorem ref_push (f wt id co : Int) (W : World) (h : TwoR w0 P V sp sr bx W) (hk : OkS n sr) (hn : n ≤ 1000) :
    Calls Try.prog 26 #[.pointer (some ⟨V, 0, none⟩), .int .i64 f, .int .i64 wt, .agg #[.int .i64 id, .int .i64 co]] W fun e W' => e = .returned (.int .i64 (sr.pushE f wt id co)) ∧ TwoR w0 P V sp (sr.push f wt id co) bx W' := by
  obtain ⟨F, D, h1, h2, h3, h4⟩ := h.st
  exact (refPushFC V sr D f wt id co W h2 hk.g (hk.z.mono (by omega))).mono fun e W' hr => h.didR h1 h2 h3 h4 hr
theorem ref_pick (W : World) (h : TwoR w0 P V sp sr bx W) (hk : OkS n sr) (hn : n ≤ 1000) :
    Calls Try.prog 28 #[.pointer (some ⟨V, 0, none⟩)] W fun e W' => e = .returned (.bool sr.takeV.isSome) ∧ TwoR w0 P V sp sr.pick bx W' := by
  obtain ⟨F, D, h1, h2, h3, h4⟩ := h.st
  exact (refPickC V sr D W h2 hk.g hk.l (hk.z.mono (by omega))).mono fun e W' hr => h.didR h1 h2 h3 h4 hr
theorem ref_take (W : World) (h : TwoR w0 P V sp sr bx W) (hk : OkS n sr) (hn : n ≤ 1000) :
    Calls Try.prog 27 #[.pointer (some ⟨V, 0, none⟩)] W fun e W' => e = .returned (tkV sr.takeV) ∧ TwoR w0 P V sp sr.take bx W' := by
  obtain ⟨F, D, h1, h2, h3, h4⟩ := h.st
  exact (refTakeC V sr D W h2 hk.g hk.l (hk.z.mono (by omega))).mono fun e W' hr => h.didR h1 h2 h3 h4 hr
theorem ref_drop (f id : Int) (W : World) (h : TwoR w0 P V sp sr bx W) (hk : OkS n sr) (hn : n ≤ 1000) :
    Calls Try.prog 29 #[.pointer (some ⟨V, 0, none⟩), .int .i64 f, .int .i64 id] W fun e W' => e = .returned (.bool (sr.dropB f id)) ∧ TwoR w0 P V sp (sr.drop f id) bx W' := by
  obtain ⟨F, D, h1, h2, h3, h4⟩ := h.st
  exact (refDropFC V sr D f id W h2 hk.g (hk.z.mono (by omega))).mono fun e W' hr => h.didR h1 h2 h3 h4 hr
end
end Go.Proofs.Ytgeoebodlcbebaa

namespace Go.Proofs.Ytgeoebodlcbebaa
open Go.RowKit
set_option linter.unusedVariables false
set_option linter.unusedSimpArgs false

set_option maxRecDepth 100000 in
set_option maxHeartbeats 8000000 in
theorem sameC {w0 : World} {P V n : Nat} {s : Fl.St} {bx : List (Nat × Obj)} (a : Option Addr) (c : Nat) (ds : List DR) (W : World) (h : TwoR w0 P V s s bx W) (hk : OkS n s) (hn : n ≤ 1000) (hr : RfAt W V s a c ds) :
    Calls Try.prog 10 #[.pointer (some ⟨P, 0, none⟩), .agg #[.int .i64 s.q, .slice a ds.length c, .bool s.g]] W (Ret (.bool true) W) := by
  have hdl : ds.length ≤ 1000 := by have := hk.z.l; rw [← hr.l] at this; simp at this; omega
  have hb1 : Below W.heap.size W (W.alloc (refO s.q a ds.length c s.g)) := (Below.refl _ _).alloc (Nat.le_refl _) _
  have hx1 : (W.alloc (refO s.q a ds.length c s.g)).heap[W.heap.size]? = some (refO s.q a ds.length c s.g) := heap_alloc_new _ _
  obtain ⟨W1, hW1⟩ : ∃ W1, W1 = W.alloc (.cells #[.int .i64 s.q, .slice a ds.length c, .bool s.g] 29) := ⟨_, rfl⟩
  have HW1 := Lib.hid hW1
  rw [← hW1] at hb1 hx1
  replace h := h.below hb1
  replace hr := hr.below hb1
  have KR := Lib.hid (fun W' (hW : Below W1.heap.size W1 W') => (two_rows W' (h.below hW) hk hn).mono (R' := fun e w1 => ∃ aA cA dA, e = .returned (.slice aA dA.length cA) ∧ Hid (eltD.View w1 aA dA ∧ dA.map DR.r = s.l ∧ (∀ d ∈ dA, DOk w1 d) ∧ Below W'.heap.size W' w1)) fun e w1 hr => by
    obtain ⟨aA, cA, dA, rfl, g1, g2, g3⟩ := hr.r
    exact ⟨aA, cA, dA, rfl, Lib.hid ⟨g1, g2, g3, hr.b⟩⟩)
  have KS := Lib.hid (fun W' aA cA dA W0 (hW : Below W1.heap.size W1 W') (hA : Hid (eltD.View W' aA dA ∧ dA.map DR.r = s.l ∧ (∀ d ∈ dA, DOk W' d) ∧ Below W0.heap.size W0 W')) => refSameRC aA a cA c dA ds W' (by have := congrArg List.length hA.out.2.1; have h2 := hk.z.l; simp at this; omega) (hA.out.2.1.trans hr.l.symm) (fun d hd => by have h2 := hk.z.its d.r (by rw [← hA.out.2.1]; exact List.mem_map_of_mem hd); omega) hA.out.1 (hr.below hW).v hA.out.2.2.1 (hr.below hW).d)
  have KG := Lib.hid (fun W' (hW : Below W1.heap.size W1 W') => two_given W' (h.below hW))
  have HS1 := Lib.hid (fun W' (hW : Below W1.heap.size W1 W') => by
    have hx := (hW.block W.heap.size (lt_block hx1)).trans hx1
    exact (show W'.cell? ⟨W.heap.size, 0, none⟩ = some (.int .i64 s.q) ∧ W'.cell? ⟨W.heap.size, 1, none⟩ = some (.slice a ds.length c) ∧ W'.cell? ⟨W.heap.size, 2, none⟩ = some (.bool s.g) from ⟨by rw [cell_of_row _ _ _ _ _ _ hx]; rfl, by rw [cell_of_row _ _ _ _ _ _ hx]; rfl, by rw [cell_of_row _ _ _ _ _ _ hx]; rfl⟩))
  have HB1 := Lib.hid hb1
  clear h hk hn hr hW1 hb1 hx1
  generalize s.q = q at *
  generalize s.g = g at *
  generalize ds.length = N at *
  go_enter Try.func10, Try.ntmps10
  go_upto_region 1 with fail
  rw [← HW1.out]
  have hS : Below W1.heap.size W1 W1.drew := (Below.refl _ _).drew
  refine wp_region_any (by kernel_rfl) ?_
  change wpAny _ _ _ _ _ _ _ (World.drew _)
  refine wpAny_of_held (S := fun W' => Below W1.heap.size W1 W') _ _ _ _ ?_
  refine takeH 0 5 ?_ rfl rfl (by kernel_rfl) (by kernel_rfl) (by kernel_rfl) (fun _ _ _ h => h) (Or.inl ⟨by kernel_rfl, ?_⟩) hS ?_; rotate_left; (intro w' hw; skip; first | (go_simp; done) | (go_simp; with_reducible rfl)); rotate_left
  try simp only [List.setIfInBounds_toArray, List.set_cons_zero, List.set_cons_succ]
  refine takeH 2 7 ?_ rfl rfl (by kernel_rfl) (by kernel_rfl) (by kernel_rfl) (fun _ _ _ h => h) (Or.inl ⟨by kernel_rfl, ?_⟩) hS ?_; rotate_left; (intro w' hw; skip; first | (go_simp; done) | (go_simp; with_reducible rfl)); rotate_left
  try simp only [List.setIfInBounds_toArray, List.set_cons_zero, List.set_cons_succ]
  refine takeH 3 8 ?_ rfl rfl (by kernel_rfl) (by kernel_rfl) (by kernel_rfl) (fun _ _ _ h => h) (Or.inl ⟨by kernel_rfl, ?_⟩) hS ?_; rotate_left; (intro w' hw; obtain ⟨z0, z1, z2⟩ := HS1.out _ hw; first | (go_simp; done) | (go_simp; with_reducible rfl)); rotate_left
  try simp only [List.setIfInBounds_toArray, List.set_cons_zero, List.set_cons_succ]
  refine wpAnyH_ready (rs := [1]) (by kernel_rfl) (by simp) ?_; refine AllReadyH.cons rfl (fun K2 hK => ?_) AllReadyH.nil; go_simp; go_wp2_with (go_at_call 31; (with_reducible refine (KR.out _ hS).mono ?_); rintro e wA ⟨aA, cA, dA, rfl, hA⟩); have hS1 := hS.trans (hA.out.2.2.2.mono hS.size); refine hK.out _ _ ?_ (fun _ => ?_); (exact hS1); clear hK K2 hS; have hS := hS1; clear hS1
  refine wpAnyH_ready (rs := [4]) (by kernel_rfl) (by simp) ?_; refine AllReadyH.cons rfl (fun K2 hK => ?_) AllReadyH.nil; go_simp; go_wp2_with (go_at_call 30; (with_reducible refine (KS.out _ _ _ _ _ hS hA).mono ?_); rintro e wB ⟨rfl, hB⟩); have hS1 := hS.trans (hB.mono hS.size); refine hK.out _ _ ?_ (fun _ => ?_); (exact hS1); clear hK K2 hS; have hS := hS1; clear hS1
  refine takeH 5 10 (.bool true) rfl rfl (by kernel_rfl) (by kernel_rfl) (by kernel_rfl) (fun _ _ _ h => h) (Or.inl ⟨by kernel_rfl, ?_⟩) hS ?_; focus (intro w' hw; skip; first | (go_simp; done) | (go_simp; with_reducible rfl))
  try simp only [List.setIfInBounds_toArray, List.set_cons_zero, List.set_cons_succ]
  refine takeH 6 11 ?_ rfl rfl (by kernel_rfl) (by kernel_rfl) (by kernel_rfl) (fun _ _ _ h => h) (Or.inl ⟨by kernel_rfl, ?_⟩) hS ?_; rotate_left; (intro w' hw; skip; first | (go_simp; done) | (go_simp; with_reducible rfl)); rotate_left
  try simp only [List.setIfInBounds_toArray, List.set_cons_zero, List.set_cons_succ]
  refine takeH 8 13 ?_ rfl rfl (by kernel_rfl) (by kernel_rfl) (by kernel_rfl) (fun _ _ _ h => h) (Or.inl ⟨by kernel_rfl, ?_⟩) hS ?_; rotate_left; (intro w' hw; skip; first | (go_simp; done) | (go_simp; with_reducible rfl)); rotate_left
  try simp only [List.setIfInBounds_toArray, List.set_cons_zero, List.set_cons_succ]
  refine takeH 9 14 ?_ rfl rfl (by kernel_rfl) (by kernel_rfl) (by kernel_rfl) (fun _ _ _ h => h) (Or.inl ⟨by kernel_rfl, ?_⟩) hS ?_; rotate_left; (intro w' hw; obtain ⟨z0, z1, z2⟩ := HS1.out _ hw; first | (go_simp; done) | (go_simp; with_reducible rfl)); rotate_left
  try simp only [List.setIfInBounds_toArray, List.set_cons_zero, List.set_cons_succ]
  refine wpAnyH_ready (rs := [7]) (by kernel_rfl) (by simp) ?_; refine AllReadyH.cons rfl (fun K2 hK => ?_) AllReadyH.nil; go_simp; go_wp2_with (go_at_call 21; (with_reducible refine (KG.out _ hS).mono ?_); rintro e wC ⟨rfl, rfl⟩); have hS1 := hS; refine hK.out _ _ ?_ (fun _ => ?_); (exact hS1); clear hK K2 hS; have hS := hS1; clear hS1
  refine takeH 10 15 (.bool true) rfl rfl (by kernel_rfl) (by kernel_rfl) (by kernel_rfl) (fun _ _ _ h => h) (Or.inl ⟨by kernel_rfl, ?_⟩) hS ?_; focus (intro w' hw; skip; first | (go_simp; done) | (go_simp; with_reducible rfl))
  try simp only [List.setIfInBounds_toArray, List.set_cons_zero, List.set_cons_succ]
  refine takeH 11 16 (.bool true) rfl rfl (by kernel_rfl) (by kernel_rfl) (by kernel_rfl) (fun _ _ _ h => h) (Or.inl ⟨by kernel_rfl, ?_⟩) hS ?_; focus (intro w' hw; skip; first | (go_simp; done) | (go_simp; with_reducible rfl))
  try simp only [List.setIfInBounds_toArray, List.set_cons_zero, List.set_cons_succ]
  refine takeH 12 4 ?_ rfl rfl (by kernel_rfl) (by kernel_rfl) (by kernel_rfl) (fun _ _ _ h => h) (Or.inl ⟨by kernel_rfl, ?_⟩) hS ?_; rotate_left; (intro w' hw; skip; first | (go_simp; done) | (go_simp; with_reducible rfl)); rotate_left
  try simp only [List.setIfInBounds_toArray, List.set_cons_zero, List.set_cons_succ]
  refine wpAnyH_done (by kernel_rfl) ?_ _
  have HE := Lib.hid (HB1.out.trans (hS.mono HB1.out.size))
  clear hS KR KS KG HS1
  go_wp2
  go_ret
  exact ⟨rfl, HE.out⟩
end Go.Proofs.Ytgeoebodlcbebaa
