/-
  A ring of flows: Rows.
-/
import Derived.Test.YtgeoebodlcbebaaFlD
namespace Go.Proofs.Ytgeoebodlcbebaa
open Go.RowKit
open Rb (Nd)
set_option linter.unusedVariables false

theorem cell_eq' {w w' : World} {g : Nat} (h : w'.heap[g]? = w.heap[g]?) (o : Nat) : w'.cell? ⟨g, o, none⟩ = w.cell? ⟨g, o, none⟩ := by
  simp [World.cell?, h]
/-- a row as it lies in a slice: its items in a slice -/
structure DR where
  r : Fl.Rw
  a : Option Addr
  cap : Nat
def eltR : Elt Try.prog DR where
  st := 54
  e := 56
  z := .agg #[.int .i64 0, .int .i64 0, .int .i64 0, .slice none 0 0]
  size := 4
  bytes := 48
  pv := fun d => [.int .i64 d.r.f, .int .i64 d.r.w, .int .i64 d.r.d, .slice d.a d.r.its.length d.cap]
  ht := Try.underlying54
  info := by kernel_rfl
  hz := rfl
  pos := by decide
  le := by decide
  len := fun _ => rfl
  one := fun s u hu => by simp at hu; rcases hu with rfl | rfl | rfl | rfl <;> rfl
/-- its items are there -/
structure DOk (w : World) (d : DR) : Prop where
  v : eltI.View w d.a d.r.its
  z : d.a = none → d.cap = 0
/-- .. and their block is a block of items -/
structure DOkT (w : World) (d : DR) : Prop where
  o : DOk w d
  t : ∀ g off sp, d.a = some ⟨g, off, sp⟩ → ∃ cur, w.heap[g]? = some (.cells cur 48)
theorem DOk.below {w w' : World} {d : DR} (h : DOk w d) (hb : Below w.heap.size w w') : DOk w' d := ⟨h.v.below hb, h.z⟩
theorem dok_of_row {w : World} {B : Nat} {r : Fl.Rw} {v : Value} (h : eltI.Row w B v r.its) : ∃ a c, v = .slice a r.its.length c ∧ DOkT w ⟨r, a, c⟩ := by
  obtain ⟨a, c, e, hf, hz⟩ := h.flat0
  refine ⟨a, c, e, ⟨⟨hf.view, hz⟩, fun g off sp ha => ?_⟩⟩
  obtain ⟨_, ⟨hv, h0⟩ | ⟨g', c2, cur, hv, hg, hc, _⟩⟩ := h
  · rw [hv] at e
    have ha : a = some ⟨g, off, sp⟩ := ha
    rw [ha] at e
    cases e
  · rw [hv] at e
    have ha : a = some ⟨g, off, sp⟩ := ha
    rw [ha] at e
    injection e with e1
    injection e1 with e1
    injection e1 with e1 e2 e3
    exact ⟨cur, by rw [← e1]; exact hc⟩
theorem Elt.Row.type {α : Type} {E : Elt Try.prog α} {w : World} {B : Nat} {v : Value} {l : List α} (h : E.Row w B v l) : ∀ k, v.ownBlock = some k → ∃ cur, w.heap[k]? = some (.cells cur E.e) := fun k hk => by
  obtain ⟨_, ⟨hv, h0⟩ | ⟨g', c2, cur, hv, hg, hc, _⟩⟩ := h
  · rw [hv] at hk; cases hk
  · rw [hv] at hk
    simp [Value.ownBlock] at hk
    exact ⟨cur, by rw [← hk]; exact hc⟩
/-- what an append to the row of rows keeps -/
theorem DOkT.keep {w w' : World} {d : DR} (h : DOkT w d) (hz : w.heap.size ≤ w'.heap.size) (hk : ∀ g off sp, d.a = some ⟨g, off, sp⟩ → g < w.heap.size → w'.heap[g]? = w.heap[g]?) : DOkT w' d := by
  refine ⟨⟨⟨fun h0 => ?_⟩, h.o.z⟩, fun g off sp ha => ?_⟩
  · obtain ⟨g, off, ha, hg, hc⟩ := h.o.v.is h0
    have hb := hk g off none ha hg
    exact ⟨g, off, ha, by omega, fun j hj i u hu => (cell_eq' hb _).trans (hc j hj i u hu)⟩
  · obtain ⟨cur, hc⟩ := h.t g off sp ha
    exact ⟨cur, (hk g off sp ha (lt_block hc)).trans hc⟩
theorem DOkT.below {w w' : World} {d : DR} (h : DOkT w d) (hb : Below w.heap.size w w') : DOkT w' d := h.keep hb.size (fun g off sp _ hg => hb.block g hg)
/-- it returns a row of one's own of these rows -/
structure RetRows (l : List Fl.Rw) (w : World) (e : Ending) (w' : World) : Prop where
  r : ∃ v ds, e = .returned v ∧ eltR.Row w' w.heap.size v ds ∧ ds.map DR.r = l ∧ ∀ d ∈ ds, DOk w' d
  b : Below w.heap.size w w'
theorem flows_at {w : World} {a : Option Addr} {l : List Nd} (h : eltW.View w a l) (h0 : 0 < l.length) : ∃ g off, a = some ⟨g, off, none⟩ ∧ g < w.heap.size ∧ ∀ j (hj : j < l.length), w.cell? ⟨g, off + j * 4, none⟩ = some (.iface l[j].t (.pointer (some ⟨l[j].q, 0, none⟩))) ∧ w.cell? ⟨g, off + j * 4 + 1, none⟩ = some (.int .i64 l[j].r.f) ∧ w.cell? ⟨g, off + j * 4 + 2, none⟩ = some (.int .i64 l[j].r.w) ∧ w.cell? ⟨g, off + j * 4 + 3, none⟩ = some (.int .i64 l[j].r.d) := by
  obtain ⟨g, off, ha, hg, hc⟩ := h.is h0
  exact ⟨g, off, ha, hg, fun j hj => ⟨hc j hj 0 _ rfl, hc j hj 1 _ rfl, hc j hj 2 _ rfl, hc j hj 3 _ rfl⟩⟩
theorem take_snoc {α : Type} {l : List α} {k : Nat} (h : k < l.length) : l.take (k + 1) = l.take k ++ [l[k]] := by
  rw [List.take_add_one, List.getElem?_eq_getElem h]; rfl
set_option maxRecDepth 100000 in
set_option maxHeartbeats 16000000 in
theorem flRowsC (B P : Nat) (s : Fl.St) (F : Nat → Prop) (w : World) (h : FIs w B P s F) (hS : Fl.Small 90000 s) :
    Calls Try.prog 20 #[.pointer (some ⟨P, 0, none⟩)] w (RetRows s.l w) := by
  obtain ⟨R, m, ns, x, y, h1, h2, h3⟩ := h
  have hln : ns.length ≤ 90000 := by have := hS.l; rw [← h2] at this; simpa using this
  have c0 := h1.c0
  have K := Lib.hid ((flowsC B R m _ _ ns x y w h1.r (by omega)).mono (R' := fun e w' => ∃ a c, e = .returned (.slice a ns.length c) ∧ Hid (eltW.View w' a ns ∧ Below w.heap.size w w')) fun e w' hr => by
    obtain ⟨v, rfl, hv⟩ := hr.r
    obtain ⟨a, c, rfl, hf⟩ := hv.flat
    exact ⟨a, c, rfl, Lib.hid ⟨hf.view, hr.b⟩⟩)
  have HH := Lib.hid h1
  have HL := Lib.hid h2
  have HSM := Lib.hid hS
  clear h1 h2 h3 hS
  go_enter Try.func20, Try.ntmps20
  go_wp2_with (go_at_call 44; (with_reducible refine K.out.mono ?_); rintro e wF ⟨af, cf, rfl, hFl⟩)
  go_loopg [3, 14] ns.length (fun gk u i wr => ∃ (k : Nat) (ds : List DR), k ≤ ns.length ∧ gk = ns.length - k ∧ i = .int .i64 ((k : Nat) : Int) ∧ Hid (Below wF.heap.size wF wr ∧ eltR.Row wr wF.heap.size u ds ∧ ds.map DR.r = (ns.take k).map (·.r) ∧ ∀ d ∈ ds, DOkT wr d))
  case atStart => exact ⟨0, [], by omega, by omega, rfl, Lib.hid ⟨Below.refl _ _, Elt.Row.nil _ _, rfl, fun d hd => by simp at hd⟩⟩
  case round =>
    obtain ⟨k, ds, hk, rfl, rfl, hst⟩ := hrel
    clear c0 K
    obtain ⟨hb, hrow, hdr, hok⟩ := hst.out
    obtain ⟨ad, cp, rfl⟩ := hrow.slice
    by_cases hlt : k < ns.length
    · obtain ⟨g, off, rfl, hg, hc⟩ := flows_at hFl.out.1 (by omega)
      obtain ⟨d0, d1, d2, d3⟩ := hc k hlt
      replace d0 := (hb.cell (p := ⟨g, off + k * 4, none⟩) hg).trans d0
      replace d1 := (hb.cell (p := ⟨g, off + k * 4 + 1, none⟩) hg).trans d1
      replace d2 := (hb.cell (p := ⟨g, off + k * 4 + 2, none⟩) hg).trans d2
      replace d3 := (hb.cell (p := ⟨g, off + k * 4 + 3, none⟩) hg).trans d3
      have hn : ns[k] ∈ ns := List.getElem_mem hlt
      have htk := take_snoc hlt
      have HTK := Lib.hid htk
      have hmem : ns[k].r ∈ s.l := by rw [← HL.out]; exact List.mem_map.2 ⟨_, hn, rfl⟩
      have hli := HSM.out.its _ hmem
      have hbw : Below w.heap.size w wr := hFl.out.2.trans (hb.mono hFl.out.2.size)
      generalize ns[k] = n at *
      obtain ⟨X, hX⟩ : ∃ X, X = wr.heap.size := ⟨_, rfl⟩
      have hx0 : (wr.alloc (.cells #[.iface n.t (.pointer (some ⟨n.q, 0, none⟩)), .int .i64 n.r.f, .int .i64 n.r.w, .int .i64 n.r.d] 75)).drew.heap[X]? = some (.cells #[.iface n.t (.pointer (some ⟨n.q, 0, none⟩)), .int .i64 n.r.f, .int .i64 n.r.w, .int .i64 n.r.d] 75) := by rw [hX]; exact heap_alloc_new _ _
      have hb0 : Below wr.heap.size wr (wr.alloc (.cells #[.iface n.t (.pointer (some ⟨n.q, 0, none⟩)), .int .i64 n.r.f, .int .i64 n.r.w, .int .i64 n.r.d] 75)).drew := ((Below.refl _ _).alloc (Nat.le_refl _) _).drew
      obtain ⟨L, hL⟩ : ∃ L, L = n.r.its.length := ⟨_, rfl⟩
      have HLEN := Lib.hid hL
      have KQ := Lib.hid (fun W (hW : Below wr.heap.size wr W) => queueYes B P R m _ _ ns x y n W (HH.out.below (hbw.trans (hW.mono hbw.size))) hn)
      have KA := Lib.hid (fun W (hW : Below wr.heap.size wr W) => (allC B n.q n.r.its n.F W ((HH.out.r.qs.q n hn).below (hbw.trans (hW.mono hbw.size))) (by omega)).mono (R' := fun e w' => ∃ a c, e = .returned (.slice a L c) ∧ Hid (DOkT w' ⟨n.r, a, c⟩ ∧ Below W.heap.size W w')) fun e w' hr => by
        obtain ⟨v, rfl, hv⟩ := hr.r
        obtain ⟨a, c, rfl, hd⟩ := dok_of_row hv
        exact ⟨a, c, by rw [hL], Lib.hid ⟨hd, hr.b⟩⟩)
      have HS1 := Lib.hid (fun (W : World) (hW : W.heap[X]? = some (.cells #[.iface n.t (.pointer (some ⟨n.q, 0, none⟩)), .int .i64 n.r.f, .int .i64 n.r.w, .int .i64 n.r.d] 75)) => fl_cells hW)
      have HKS2 := Lib.hid (fun (W W' : World) (hW : W.heap[X]? = some (.cells #[.iface n.t (.pointer (some ⟨n.q, 0, none⟩)), .int .i64 n.r.f, .int .i64 n.r.w, .int .i64 n.r.d] 75)) (hb : Below W.heap.size W W') => (hb.block X (lt_block hW)).trans hW)
      have HKS := Lib.hid (fun (W' : World) (hb : Below (wr.alloc (.cells #[.iface n.t (.pointer (some ⟨n.q, 0, none⟩)), .int .i64 n.r.f, .int .i64 n.r.w, .int .i64 n.r.d] 75)).drew.heap.size (wr.alloc (.cells #[.iface n.t (.pointer (some ⟨n.q, 0, none⟩)), .int .i64 n.r.f, .int .i64 n.r.w, .int .i64 n.r.d] 75)).drew W') => (hb.block X (lt_block hx0)).trans hx0)
      have hlds : ds.length = k := by have := congrArg List.length hdr; simpa [Nat.min_eq_left hk] using this
      have hld : ds.length ≤ 9223372036 := by omega
      have HROWB := Lib.hid (fun (W : World) {WA : World} (hb2 : Below WA.heap.size WA W) (hW : Below wr.heap.size wr WA) => hrow.below (hW.trans (hb2.mono hW.size)))
      have HBB := Lib.hid (fun (W : World) {WA : World} (hb2 : Below WA.heap.size WA W) (hW : Below wr.heap.size wr WA) => hb.trans ((hW.trans (hb2.mono hW.size)).mono hb.size))
      have HBX := Lib.hid hb0
      have hS := hx0
      have HST := Lib.hid hst.out
      have hend : ∀ (WA WB w2 : World) (av : Option Addr) (cv : Nat) (v2 : Value), Below wr.heap.size wr WA → (DOkT WB ⟨n.r, av, cv⟩ ∧ Below WA.heap.size WA WB) → WB.heap[X]? = some (.cells #[.iface n.t (.pointer (some ⟨n.q, 0, none⟩)), .int .i64 n.r.f, .int .i64 n.r.w, .int .i64 n.r.d] 75) → eltR.Row w2 wF.heap.size v2 (ds ++ [⟨n.r, av, cv⟩]) → Below wF.heap.size WB w2 → (∀ k, k < WB.heap.size → some k ≠ (Value.slice ad ds.length cp).ownBlock → w2.heap[k]? = WB.heap[k]?) → w2.heap[X]? = some (.cells #[.iface n.t (.pointer (some ⟨n.q, 0, none⟩)), .int .i64 n.r.f, .int .i64 n.r.w, .int .i64 n.r.d] 75) ∧ (Below wF.heap.size wF w2 ∧ eltR.Row w2 wF.heap.size v2 (ds ++ [⟨n.r, av, cv⟩]) ∧ (ds ++ [(⟨n.r, av, cv⟩ : DR)]).map DR.r = (ns.take (k + 1)).map (·.r) ∧ ∀ d ∈ ds ++ [(⟨n.r, av, cv⟩ : DR)], DOkT w2 d) := fun WA WB w2 av cv v2 hA hB hXB hr2 hb2 hk2 => by
        have hAB : Below wr.heap.size wr WB := hA.trans (hB.2.mono hA.size)
        have hrB := hrow.below hAB
        have hty := hrB.type
        have hne : ∀ k cur t, WB.heap[k]? = some (.cells cur t) → t ≠ 56 → some k ≠ (Value.slice ad ds.length cp).ownBlock := fun k cur t hc ht he => by
          obtain ⟨cur2, hc2⟩ := hty k he.symm
          rw [hc] at hc2
          injection hc2 with hc2
          injection hc2 with _ hc2
          exact ht hc2
        refine ⟨(hk2 X (lt_block hXB) (hne X _ _ hXB (by decide))).trans hXB, ?_, hr2, ?_, fun d hd => ?_⟩
        · exact (hb.trans (hAB.mono hb.size)).trans hb2
        · rw [List.map_append, hdr, HTK.out, List.map_append]; rfl
        · have hkk : ∀ d, DOkT WB d → DOkT w2 d := fun d hd => hd.keep hb2.size (fun g off sp ha hg => by
            obtain ⟨cur, hc⟩ := hd.t g off sp ha
            exact hk2 g hg (hne g _ _ hc (by decide)))
          rcases List.mem_append.1 hd with h | h
          · exact hkk d ((hok d h).below hAB)
          · obtain rfl : d = ⟨n.r, av, cv⟩ := by simpa using h
            exact hkk _ hB.1
      have HEND := Lib.hid hend
      have HX := Lib.hid hX
      clear hst hb hrow hdr hok hc hn htk hmem hli hbw hx0 hb0 hL hlds hX hFl
      go_upto_region 7 with fail
      rw [← HX.out]
      refine wp_region_any (by kernel_rfl) ?_
      change wpAny _ _ _ _ _ _ _ (World.drew _)
      refine wpAny_of_held (S := fun W => W.heap[X]? = some (.cells #[.iface n.t (.pointer (some ⟨n.q, 0, none⟩)), .int .i64 n.r.f, .int .i64 n.r.w, .int .i64 n.r.d] 75)) _ _ _ _ ?_
      refine takeH 0 18 ?_ rfl rfl (by kernel_rfl) (by kernel_rfl) (by kernel_rfl) (fun _ _ _ h => h) (Or.inl ⟨by kernel_rfl, ?_⟩) hS ?_; rotate_left; (intro w' hw; skip; first | (go_simp; done) | (go_simp; with_reducible rfl)); rotate_left
      try simp only [List.setIfInBounds_toArray, List.set_cons_zero, List.set_cons_succ]
      refine takeH 1 19 ?_ rfl rfl (by kernel_rfl) (by kernel_rfl) (by kernel_rfl) (fun _ _ _ h => h) (Or.inl ⟨by kernel_rfl, ?_⟩) hS ?_; rotate_left; (intro w' hw; skip; first | (go_simp; done) | (go_simp; with_reducible rfl)); rotate_left
      try simp only [List.setIfInBounds_toArray, List.set_cons_zero, List.set_cons_succ]
      refine takeH 2 20 ?_ rfl rfl (by kernel_rfl) (by kernel_rfl) (by kernel_rfl) (fun _ _ _ h => h) (Or.inl ⟨by kernel_rfl, ?_⟩) hS ?_; rotate_left; (intro w' hw; obtain ⟨z0, z1, z2, z3⟩ := HS1.out _ hw; first | (go_simp; done) | (go_simp; with_reducible rfl)); rotate_left
      try simp only [List.setIfInBounds_toArray, List.set_cons_zero, List.set_cons_succ]
      refine takeH 3 21 ?_ rfl rfl (by kernel_rfl) (by kernel_rfl) (by kernel_rfl) (fun _ _ _ h => h) (Or.inl ⟨by kernel_rfl, ?_⟩) hS ?_; rotate_left; (intro w' hw; skip; first | (go_simp; done) | (go_simp; with_reducible rfl)); rotate_left
      try simp only [List.setIfInBounds_toArray, List.set_cons_zero, List.set_cons_succ]
      refine takeH 4 22 ?_ rfl rfl (by kernel_rfl) (by kernel_rfl) (by kernel_rfl) (fun _ _ _ h => h) (Or.inl ⟨by kernel_rfl, ?_⟩) hS ?_; rotate_left; (intro w' hw; obtain ⟨z0, z1, z2, z3⟩ := HS1.out _ hw; first | (go_simp; done) | (go_simp; with_reducible rfl)); rotate_left
      try simp only [List.setIfInBounds_toArray, List.set_cons_zero, List.set_cons_succ]
      refine takeH 5 23 ?_ rfl rfl (by kernel_rfl) (by kernel_rfl) (by kernel_rfl) (fun _ _ _ h => h) (Or.inl ⟨by kernel_rfl, ?_⟩) hS ?_; rotate_left; (intro w' hw; skip; first | (go_simp; done) | (go_simp; with_reducible rfl)); rotate_left
      try simp only [List.setIfInBounds_toArray, List.set_cons_zero, List.set_cons_succ]
      refine takeH 6 24 ?_ rfl rfl (by kernel_rfl) (by kernel_rfl) (by kernel_rfl) (fun _ _ _ h => h) (Or.inl ⟨by kernel_rfl, ?_⟩) hS ?_; rotate_left; (intro w' hw; obtain ⟨z0, z1, z2, z3⟩ := HS1.out _ hw; first | (go_simp; done) | (go_simp; with_reducible rfl)); rotate_left
      try simp only [List.setIfInBounds_toArray, List.set_cons_zero, List.set_cons_succ]
      refine takeH 7 25 ?_ rfl rfl (by kernel_rfl) (by kernel_rfl) (by kernel_rfl) (fun _ _ _ h => h) (Or.inl ⟨by kernel_rfl, ?_⟩) hS ?_; rotate_left; (intro w' hw; skip; first | (go_simp; done) | (go_simp; with_reducible rfl)); rotate_left
      try simp only [List.setIfInBounds_toArray, List.set_cons_zero, List.set_cons_succ]
      refine takeH 8 26 ?_ rfl rfl (by kernel_rfl) (by kernel_rfl) (by kernel_rfl) (fun _ _ _ h => h) (Or.inl ⟨by kernel_rfl, ?_⟩) hS ?_; rotate_left; (intro w' hw; skip; first | (go_simp; done) | (go_simp; with_reducible rfl)); rotate_left
      try simp only [List.setIfInBounds_toArray, List.set_cons_zero, List.set_cons_succ]
      refine takeH 9 27 ?_ rfl rfl (by kernel_rfl) (by kernel_rfl) (by kernel_rfl) (fun _ _ _ h => h) (Or.inl ⟨by kernel_rfl, ?_⟩) hS ?_; rotate_left; (intro w' hw; obtain ⟨z0, z1, z2, z3⟩ := HS1.out _ hw; first | (go_simp; done) | (go_simp; with_reducible rfl)); rotate_left
      try simp only [List.setIfInBounds_toArray, List.set_cons_zero, List.set_cons_succ]
      refine wpAnyH_ready (rs := [10]) (by kernel_rfl) (by simp) ?_; refine AllReadyH.cons rfl (fun K2 hK => ?_) AllReadyH.nil; go_simp; go_wp2_with (go_at_call 32; (with_reducible refine (KQ.out _ HBX.out).mono ?_); rintro e wA ⟨rfl, hA⟩); have HA := Lib.hid (HBX.out.trans (hA.mono HBX.out.size)); replace hS := HKS.out _ hA; clear hA; refine hK.out _ _ ?_ (fun _ => ?_); (exact hS); clear hK K2
      refine wpAnyH_ready (rs := [11]) (by kernel_rfl) (by simp) ?_; refine AllReadyH.cons rfl (fun K2 hK => ?_) AllReadyH.nil; go_simp; go_wp2_with (go_at_call 45; (with_reducible refine (KA.out _ HA.out).mono ?_); rintro e wB ⟨av, cv, rfl, hB⟩); replace hS := HKS2.out _ _ hS hB.out.2; have HXB := Lib.hid hS; refine hK.out _ _ ?_ (fun _ => ?_); (exact hS); clear hK K2
      refine takeH 12 30 ?_ rfl rfl (by kernel_rfl) (by kernel_rfl) (by kernel_rfl) (fun _ _ _ h => h) (Or.inl ⟨by kernel_rfl, ?_⟩) hS ?_; rotate_left; (intro w' hw; skip; first | (go_simp; done) | (go_simp; with_reducible rfl)); rotate_left
      try simp only [List.setIfInBounds_toArray, List.set_cons_zero, List.set_cons_succ]
      refine wpAnyH_ready (rs := [13]) (by kernel_rfl) (by simp) ?_; refine AllReadyH.cons rfl (fun K2 hK => ?_) AllReadyH.nil; go_simp; replace hS := HKS2.out _ _ hS ((Below.refl _ _).alloc (Nat.le_refl _) (.cells #[.int .i64 n.r.f, .int .i64 n.r.w, .int .i64 n.r.d, .slice av L cv] 56)); refine hK.out _ _ ?_ (fun _ => ?_); (exact hS); clear hK K2
      refine wpAnyH_ready (rs := [14]) (by kernel_rfl) (by simp) ?_; refine AllReadyH.cons rfl (fun K2 hK => ?_) AllReadyH.nil; refine eltR.stepApp wB rfl (.tmp 18) (.tmp 31) rfl wF.heap.size (.slice ad ds.length cp) ds rfl (HROWB.out _ hB.out.2 HA.out) #[.int .i64 n.r.f, .int .i64 n.r.w, .int .i64 n.r.d, .slice av L cv] 1 rfl ⟨n.r, av, cv⟩ (by rw [HLEN.out]; rfl) hld (HBB.out _ hB.out.2 HA.out).size ?_; intro v2 w2 hrow2 hb2 hkeep2; obtain ⟨a2, c2, rfl⟩ := hrow2.slice; have HFIN := Lib.hid (HEND.out _ _ _ _ _ _ HA.out hB.out HXB.out hrow2 hb2 hkeep2); replace hS := HFIN.out.1; refine hK.out _ _ ?_ (fun _ => ?_); (exact hS); clear hK K2
      refine wpAnyH_ready (rs := [15]) (by kernel_rfl) (by simp) ?_; refine AllReadyH.cons rfl (fun K2 hK => ?_) AllReadyH.nil; go_simp; refine hK.out _ _ ?_ (fun _ => ?_); (exact hS); clear hK K2
      refine wpAnyH_done (by kernel_rfl) ?_ _
      have HREL : Hid (Below wF.heap.size wF w2 ∧ eltR.Row w2 wF.heap.size (.slice a2 (ds.length + 1) c2) (ds ++ [⟨n.r, av, cv⟩]) ∧ (ds ++ [(⟨n.r, av, cv⟩ : DR)]).map DR.r = (ns.take (k + 1)).map (·.r) ∧ ∀ d ∈ ds ++ [(⟨n.r, av, cv⟩ : DR)], DOkT w2 d) := Lib.hid (by have := HFIN.out.2; simpa using this)
      clear HFIN hS HXB hrow2 hb2 hkeep2
      go_wp2
      go_roundg (ns.length - (k + 1))
      case rel => exact ⟨k + 1, ds ++ [⟨n.r, av, cv⟩], by omega, rfl, by go_num, HREL⟩
      case measure => omega
    · obtain rfl : k = ns.length := by omega
      have HF : Hid (RetRows s.l w (.returned (.slice ad ds.length cp)) wr) := Lib.hid ⟨⟨_, ds, rfl, hrow.base hFl.out.2.size, by rw [hdr, List.take_length, HL.out], fun d hd => (hok d hd).o⟩, hFl.out.2.trans (hb.mono hFl.out.2.size)⟩
      clear hst hb hrow hdr hok
      go_wp2
      go_ret
      exact HF.out
end Go.Proofs.Ytgeoebodlcbebaa
