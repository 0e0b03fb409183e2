/-
  The law FlowLoads.
-/
import Derived.Test.YtgeoebodlcbebaaFbE
import Derived.Test.YtgeoebodlcbebaaFaD
import Derived.Test.YtgeoebodlcbebaaFlZ
namespace Bil
open Go Go.ChangeShapes Go.WideShapes Go.Deep
/-- 'slice_cells' at a cell that holds a slice, nil told apart -/
theorem slice_cells3 {H : Type} {enc : TypeId × Value → H} {P : Program} {w : World} {t e : TypeId} {fs : Array Field} {n : Nat} {v : Value} {y : DataW H × List MemPlace}
    (ht : P.underlying t = some (.slice e)) (he : P.underlying e = some (.struct fs)) (hone : oneCellFields P fs = true) (hC : P.cellsOf e = fs.size)
    (h : DataW.trod enc P w 0 (fun _ => true) true n t [v] = some y) :
    v = .slice none 0 0 ∨ ∃ (x : Addr) (len cap : Nat), v = .slice (some x) len cap ∧ len ≤ cap ∧ cap ≤ maxLen ∧
      ∀ i, i < cap → ∀ (j : Nat) (f : Field), fs[j]? = some f → ∃ (v : Value) (n : Nat) (y : DataW H × List MemPlace), w.cell? (x.add (i * fs.size + j)) = some v ∧ DataW.trod enc P w 0 (fun _ => true) true n f.type [v] = some y := by
  rcases open_slice ht h with ⟨hcs, _⟩ | ⟨x, l, c, m, n, D, Pl, hcs, _, hl, hm, hmm, _, hi⟩
  · simp at hcs
    exact Or.inl hcs
  · simp at hcs
    subst hcs
    simp at hmm
    subst hmm
    refine Or.inr ⟨x, l, m, rfl, hl, hm, fun i hic j f hj => ?_⟩
    obtain ⟨cs', hc, htr⟩ := hi i hic
    rw [hC] at hc
    obtain ⟨xs, k, _, _, hlen, hxl, hfd⟩ := DataW.trod_struct he htr
    obtain ⟨_, hcl, hat⟩ := World.cells?_some hc
    obtain ⟨ho, hk⟩ := hone_of hone j f hj
    have hjl : j < fs.size := (Array.getElem?_eq_some_iff.1 hj).1
    have h1 := hfd j f hj
    rw [ho, hk, List.drop_eq_getElem_cons (by omega)] at h1
    have hx : xs[j]? = some (xs[j]'(by omega)) := List.getElem?_eq_getElem (by omega)
    rw [hx] at h1
    refine ⟨cs'[j]'(by omega), k, _, ?_, h1⟩
    rw [← Go.Deep.add_add, hat j hjl]
    exact List.getElem?_eq_getElem (by omega)
end Bil
namespace Go.Proofs.Ytgeoebodlcbebaa
open Go.RowKit Go.ChangeShapes Go.WideShapes Go.Deep
open Rb (Nd)
set_option linter.unusedVariables false
set_option linter.unusedSimpArgs false

/-- rows that came in -/
structure RowsIn (w : World) (a : Option Addr) (cap : Nat) (ds : List DR) : Prop where
  v : eltD.View w a ds
  d : ∀ d ∈ ds, DOk w d
  z : a = none → cap = 0
  le : ds.length ≤ cap
  wf : ∀ d ∈ ds, (Lit.int .i64 d.r.f).wf = true
  wi : ∀ d ∈ ds, ∀ e ∈ d.r.its, (Lit.int .i64 e.1).wf = true
/-- items that came in -/
theorem items_of {H : Type} {enc : TypeId × Value → H} {w : World} {n : Nat} {v : Value} {y : DataW H × List MemPlace} (h : DataW.trod enc Try.prog w 0 (fun _ => true) true n 35 [v] = some y) :
    ∃ (a : Option Addr) (c : Nat) (l : List Ff.E), v = .slice a l.length c ∧ eltI.View w a l ∧ (a = none → c = 0) ∧ ∀ e ∈ l, (Lit.int .i64 e.1).wf = true := by
  rcases Bil.slice_cells3 Try.underlying35 Try.underlying48 (by kernel_rfl) (by kernel_rfl) h with rfl | ⟨x, len, cap, rfl, hl, hm, hc⟩
  · exact ⟨none, 0, [], rfl, ⟨fun h0 => absurd h0 (by simp)⟩, fun _ => rfl, (fun e he => by simp at he)⟩
  · by_cases h0 : len = 0
    · subst h0
      exact ⟨some x, cap, [], rfl, ⟨fun h0 => absurd h0 (by simp)⟩, nofun, (fun e he => by simp at he)⟩
    obtain ⟨b, off, spot⟩ := x
    have hone : ∀ i, i < cap → ∃ e : Ff.E, w.cell? ((⟨b, off, spot⟩ : Addr).add (i * 2 + 0)) = some (.int .i64 e.1) ∧ w.cell? ((⟨b, off, spot⟩ : Addr).add (i * 2 + 1)) = some (.int .i64 e.2) ∧ (Lit.int .i64 e.1).wf = true := by
      intro i hi
      obtain ⟨v0, n0, y0, hc0, ht0⟩ := hc i hi 0 _ rfl
      obtain ⟨v1, n1, y1, hc1, ht1⟩ := hc i hi 1 _ rfl
      obtain ⟨s0, e0, _, w0⟩ := DataW.trod_int Try.underlying3 ht0
      obtain ⟨s1, e1, _, _⟩ := DataW.trod_int Try.underlying3 ht1
      simp at e0 e1
      subst e0 e1
      exact ⟨(s0, s1), hc0, hc1, w0⟩
    have hsp : spot = none := by
      obtain ⟨e, hc0, _⟩ := hone 0 (by omega)
      have := World.cell?_spot hc0
      simpa [Addr.add] using this
    subst hsp
    have hb : b < w.heap.size := by
      obtain ⟨e, hc0, _⟩ := hone 0 (by omega)
      have := block_lt_of_cell hc0
      simpa [Addr.add] using this
    have hex : ∀ i, ∃ e : Ff.E, i < len → w.cell? ⟨b, off + i * 2, none⟩ = some (.int .i64 e.1) ∧ w.cell? ⟨b, off + i * 2 + 1, none⟩ = some (.int .i64 e.2) ∧ (Lit.int .i64 e.1).wf = true := by
      intro i
      by_cases hi : i < len
      · obtain ⟨e, g0, g1, g2⟩ := hone i (by omega)
        rw [Bil.add_off] at g0 g1
        exact ⟨e, fun _ => ⟨by simpa using g0, by simpa [Nat.add_assoc] using g1, g2⟩⟩
      · exact ⟨(0, 0), fun h => absurd h hi⟩
    refine ⟨some ⟨b, off, none⟩, cap, (List.range len).map (fun i => Classical.choose (hex i)), by simp, ⟨fun _ => ⟨b, off, rfl, hb, fun j hj i u hu => ?_⟩⟩, nofun, fun e he => ?_⟩
    · have hj2 : j < len := by simpa using hj
      have hs := Classical.choose_spec (hex j) hj2
      simp only [List.getElem_map, List.getElem_range] at hu
      generalize Classical.choose (hex j) = e at *
      show w.cell? ⟨b, off + j * 2 + i, none⟩ = some u
      have hu' : ([.int .i64 e.1, .int .i64 e.2] : List Value)[i]? = some u := hu
      rcases i with _ | _ | i
      · simp at hu'; subst hu'; exact hs.1
      · simp at hu'; subst hu'; exact hs.2.1
      · simp at hu'
    · obtain ⟨i, hi, rfl⟩ := List.mem_map.1 he
      exact (Classical.choose_spec (hex i) (by simpa using hi)).2.2
/-- the rows -/
theorem flRows_of {H : Type} {enc : TypeId × Value → H} {w : World} {a : Option Addr} {len cap : Nat} {d : DataW H} {p : List MemPlace}
    (h : DataW.Trod enc Try.prog w 0 (fun _ => true) true 27 (.slice a len cap) d p) : ∃ ds, len = ds.length ∧ RowsIn w a cap ds := by
  obtain ⟨fuel, hf⟩ := h
  have hf' : DataW.trod enc Try.prog w 0 (fun _ => true) true fuel 27 [.slice a len cap] = some (d, p) := hf
  rcases Bil.slice_cells3 Try.underlying27 Try.underlying37 (by kernel_rfl) (by kernel_rfl) hf' with e | ⟨x, len', cap', e, hl, hm, hc⟩
  · cases e
    exact ⟨[], rfl, ⟨fun h0 => absurd h0 (by simp)⟩, (fun e he => by simp at he), fun _ => rfl, Nat.le_refl _, (fun e he => by simp at he), (fun e he => by simp at he)⟩
  · cases e
    by_cases h0 : len = 0
    · subst h0
      exact ⟨[], rfl, ⟨fun h0 => absurd h0 (by simp)⟩, (fun e he => by simp at he), nofun, Nat.zero_le _, (fun e he => by simp at he), (fun e he => by simp at he)⟩
    obtain ⟨b, off, spot⟩ := x
    have hone : ∀ i, i < cap → ∃ d : DR, w.cell? ((⟨b, off, spot⟩ : Addr).add (i * 4 + 0)) = some (.int .i64 d.r.f) ∧ w.cell? ((⟨b, off, spot⟩ : Addr).add (i * 4 + 1)) = some (.int .i64 d.r.w) ∧ w.cell? ((⟨b, off, spot⟩ : Addr).add (i * 4 + 2)) = some (.int .i64 d.r.d) ∧ w.cell? ((⟨b, off, spot⟩ : Addr).add (i * 4 + 3)) = some (.slice d.a d.r.its.length d.cap) ∧ DOk w d ∧ (Lit.int .i64 d.r.f).wf = true ∧ ∀ e ∈ d.r.its, (Lit.int .i64 e.1).wf = true := by
      intro i hi
      obtain ⟨v0, n0, y0, hc0, ht0⟩ := hc i hi 0 _ rfl
      obtain ⟨v1, n1, y1, hc1, ht1⟩ := hc i hi 1 _ rfl
      obtain ⟨v2, n2, y2, hc2, ht2⟩ := hc i hi 2 _ rfl
      obtain ⟨v3, n3, y3, hc3, ht3⟩ := hc i hi 3 _ rfl
      obtain ⟨s0, e0, _, w0⟩ := DataW.trod_int Try.underlying3 ht0
      obtain ⟨s1, e1, _, _⟩ := DataW.trod_int Try.underlying3 ht1
      obtain ⟨s2, e2, _, _⟩ := DataW.trod_int Try.underlying3 ht2
      obtain ⟨a3, c3, l3, rfl, hv3, hz3, hw3⟩ := items_of ht3
      simp at e0 e1 e2
      subst e0 e1 e2
      exact ⟨⟨⟨s0, s1, s2, l3⟩, a3, c3⟩, hc0, hc1, hc2, hc3, ⟨hv3, hz3⟩, w0, hw3⟩
    have hsp : spot = none := by
      obtain ⟨e, hc0, _⟩ := hone 0 (by omega)
      have := World.cell?_spot hc0
      simpa [Addr.add] using this
    subst hsp
    have hb : b < w.heap.size := by
      obtain ⟨e, hc0, _⟩ := hone 0 (by omega)
      have := block_lt_of_cell hc0
      simpa [Addr.add] using this
    have hex : ∀ i, ∃ d : DR, i < len → w.cell? ⟨b, off + i * 4, none⟩ = some (.int .i64 d.r.f) ∧ w.cell? ⟨b, off + i * 4 + 1, none⟩ = some (.int .i64 d.r.w) ∧ w.cell? ⟨b, off + i * 4 + 2, none⟩ = some (.int .i64 d.r.d) ∧ w.cell? ⟨b, off + i * 4 + 3, none⟩ = some (.slice d.a d.r.its.length d.cap) ∧ DOk w d ∧ (Lit.int .i64 d.r.f).wf = true ∧ ∀ e ∈ d.r.its, (Lit.int .i64 e.1).wf = true := by
      intro i
      by_cases hi : i < len
      · obtain ⟨d, g0, g1, g2, g3, g4⟩ := hone i (by omega)
        rw [Bil.add_off] at g0 g1 g2 g3
        exact ⟨d, fun _ => ⟨by simpa using g0, by simpa [Nat.add_assoc] using g1, by simpa [Nat.add_assoc] using g2, by simpa [Nat.add_assoc] using g3, g4⟩⟩
      · exact ⟨⟨⟨0, 0, 0, []⟩, none, 0⟩, fun h => absurd h hi⟩
    have hmem : ∀ d ∈ (List.range len).map (fun i => Classical.choose (hex i)), DOk w d ∧ (Lit.int .i64 d.r.f).wf = true ∧ ∀ e ∈ d.r.its, (Lit.int .i64 e.1).wf = true := fun d hd => by
      obtain ⟨i, hi, rfl⟩ := List.mem_map.1 hd
      exact (Classical.choose_spec (hex i) (by simpa using hi)).2.2.2.2
    refine ⟨(List.range len).map (fun i => Classical.choose (hex i)), by simp, ⟨fun _ => ⟨b, off, rfl, hb, fun j hj i u hu => ?_⟩⟩, fun d hd => (hmem d hd).1, nofun, by simpa using hl, fun d hd => (hmem d hd).2.1, fun d hd => (hmem d hd).2.2⟩
    have hj2 : j < len := by simpa using hj
    have hs := Classical.choose_spec (hex j) hj2
    simp only [List.getElem_map, List.getElem_range] at hu
    generalize Classical.choose (hex j) = d at *
    show w.cell? ⟨b, off + j * 4 + i, none⟩ = some u
    have hu' : ([.int .i64 d.r.f, .int .i64 d.r.w, .int .i64 d.r.d, .slice d.a d.r.its.length d.cap] : List Value)[i]? = some u := hu
    rcases i with _ | _ | _ | _ | i
    · simp at hu'; subst hu'; exact hs.1
    · simp at hu'; subst hu'; exact hs.2.1
    · simp at hu'; subst hu'; exact hs.2.2.1
    · simp at hu'; subst hu'; exact hs.2.2.2.1
    · simp at hu'
theorem RowsIn.below {w w' : World} {a : Option Addr} {cap : Nat} {ds : List DR} (h : RowsIn w a cap ds) (hb : Below w.heap.size w w') : RowsIn w' a cap ds :=
  ⟨h.v.below hb, fun d hd => (h.d d hd).below hb, h.z, h.le, h.wf, h.wi⟩
/-- the rows' blocks are those that came in -/
theorem RowsIn.old {w : World} {a : Option Addr} {cap : Nat} {ds : List DR} (h : RowsIn w a cap ds) {k : Nat} (hk : rfB a ds k) : k < w.heap.size := by
  rcases hk with ⟨h0, off, sp, ha⟩ | ⟨d, hd, h0, off, sp, ha⟩
  · obtain ⟨g, off', ha', hg, _⟩ := h.v.is h0
    rw [ha] at ha'; cases ha'; exact hg
  · obtain ⟨g, off', ha', hg, _⟩ := (h.d d hd).v.is h0
    rw [ha] at ha'; cases ha'; exact hg
/-- a loaded ring beside the document's of the very rows -/
theorem two_loaded {w W : World} {P : Nat} {q : Int} {g : Bool} {a : Option Addr} {cap : Nat} {ds : List DR} {F : Nat → Prop} (hb : Below w.heap.size w W) (hr : RowsIn w a cap ds) {B : Nat} (hB : w.heap.size ≤ B) (hf : FIs W B P ⟨q, ds.map DR.r, g⟩ F) :
    TwoR w P W.heap.size ⟨q, ds.map DR.r, g⟩ ⟨q, ds.map DR.r, g⟩ [] (W.alloc (refO q a ds.length cap g)) := by
  have hbb : Below W.heap.size W (W.alloc (refO q a ds.length cap g)) := (Below.refl _ _).alloc (Nat.le_refl _) _
  have hw : Below w.heap.size w (W.alloc (refO q a ds.length cap g)) := hb.trans (hbb.mono hb.size)
  have hr2 := hr.below hw
  refine ⟨⟨F, rfD W.heap.size a ds, (hf.base hB).below hbb, ⟨a, cap, ds, ⟨heap_alloc_new _ _, hr2.v, rfl, hr2.d, hr.z, hr.le, fun k hk => ?_⟩, fun k => Iff.rfl⟩, fun k hk hfk => ?_, fun p hp => by simp at hp⟩, hw, hb.size⟩
  · have := hr.old hk
    have := hb.size
    omega
  · have h1 := hf.lt k hfk
    rcases hk with e | e
    · omega
    · have := hr.old e
      omega
end Go.Proofs.Ytgeoebodlcbebaa
