/-
  What comes in: acts.
-/
import Derived.Test.YtgeoebodlcbebaaFlT
import Derived.Test.YtgeoebodlcbebaaRows2
namespace Go.Proofs.Ytgeoebodlcbebaa
open Go.RowKit Go.ChangeShapes Go.WideShapes Go.Deep
set_option linter.unusedVariables false

theorem acts_of {H : Type} {enc : TypeId × Value → H} {w : World} {a : Option Addr} {len cap : Nat} {d : DataW H} {p : List MemPlace}
    (h : DataW.Trod enc Try.prog w 0 (fun _ => true) true 22 (.slice a len cap) d p) : ∃ t, ActAt w a len t := by
  obtain ⟨hm, h0 | ⟨x, rfl, hl, _, hc⟩⟩ := Bil.slice_cells Try.underlying22 Try.underlying32 (by kernel_rfl) (by kernel_rfl) h
  · exact ⟨fun _ => ⟨0, 0, 0, 0, 0⟩, Or.inl h0⟩
  · by_cases h0 : len = 0
    · exact ⟨fun _ => ⟨0, 0, 0, 0, 0⟩, Or.inl h0⟩
    obtain ⟨b, off, spot⟩ := x
    have hone : ∀ i, i < cap → ∃ (c : Fl.Ac), w.cell? ((⟨b, off, spot⟩ : Addr).add (i * 5 + 0)) = some (.int .i64 c.kd) ∧ w.cell? ((⟨b, off, spot⟩ : Addr).add (i * 5 + 1)) = some (.int .i64 c.f) ∧ w.cell? ((⟨b, off, spot⟩ : Addr).add (i * 5 + 2)) = some (.int .i64 c.w) ∧ w.cell? ((⟨b, off, spot⟩ : Addr).add (i * 5 + 3)) = some (.int .i64 c.id) ∧ w.cell? ((⟨b, off, spot⟩ : Addr).add (i * 5 + 4)) = some (.int .i64 c.co) ∧ (Lit.int .i64 c.f).wf = true ∧ (Lit.int .i64 c.id).wf = true := by
      intro i hi
      obtain ⟨v0, n0, y0, hc0, ht0⟩ := hc i hi 0 _ rfl
      obtain ⟨v1, n1, y1, hc1, ht1⟩ := hc i hi 1 _ rfl
      obtain ⟨v2, n2, y2, hc2, ht2⟩ := hc i hi 2 _ rfl
      obtain ⟨v3, n3, y3, hc3, ht3⟩ := hc i hi 3 _ rfl
      obtain ⟨v4, n4, y4, hc4, ht4⟩ := hc i hi 4 _ rfl
      obtain ⟨s0, e0, _, _⟩ := DataW.trod_int Try.underlying3 ht0
      obtain ⟨s1, e1, _, w1⟩ := DataW.trod_int Try.underlying3 ht1
      obtain ⟨s2, e2, _, _⟩ := DataW.trod_int Try.underlying3 ht2
      obtain ⟨s3, e3, _, w3⟩ := DataW.trod_int Try.underlying3 ht3
      obtain ⟨s4, e4, _, _⟩ := DataW.trod_int Try.underlying3 ht4
      simp at e0 e1 e2 e3 e4
      subst e0 e1 e2 e3 e4
      exact ⟨⟨s0, s1, s2, s3, s4⟩, hc0, hc1, hc2, hc3, hc4, w1, w3⟩
    have hsp : spot = none := by
      obtain ⟨c, hc0, _⟩ := hone 0 (by omega)
      have := World.cell?_spot hc0
      simpa [Addr.add] using this
    subst hsp
    have hb : b < w.heap.size := by
      obtain ⟨c, hc0, _⟩ := hone 0 (by omega)
      have := block_lt_of_cell hc0
      simpa [Addr.add] using this
    have hex : ∀ i, ∃ c : Fl.Ac, i < len → w.cell? ⟨b, off + i * 5, none⟩ = some (.int .i64 c.kd) ∧ w.cell? ⟨b, off + i * 5 + 1, none⟩ = some (.int .i64 c.f) ∧ w.cell? ⟨b, off + i * 5 + 2, none⟩ = some (.int .i64 c.w) ∧ w.cell? ⟨b, off + i * 5 + 3, none⟩ = some (.int .i64 c.id) ∧ w.cell? ⟨b, off + i * 5 + 4, none⟩ = some (.int .i64 c.co) ∧ (Lit.int .i64 c.f).wf = true ∧ (Lit.int .i64 c.id).wf = true := by
      intro i
      by_cases hi : i < len
      · obtain ⟨c, g0, g1, g2, g3, g4, g5, g6⟩ := hone i (by omega)
        rw [Bil.add_off] at g0 g1 g2 g3 g4
        exact ⟨c, fun _ => ⟨by simpa using g0, by simpa [Nat.add_assoc] using g1, by simpa [Nat.add_assoc] using g2, by simpa [Nat.add_assoc] using g3, by simpa [Nat.add_assoc] using g4, g5, g6⟩⟩
      · exact ⟨⟨0, 0, 0, 0, 0⟩, fun h => absurd h hi⟩
    exact ⟨fun i => Classical.choose (hex i), Or.inr ⟨b, off, rfl, hb, fun i hi => Classical.choose_spec (hex i) hi⟩⟩
end Go.Proofs.Ytgeoebodlcbebaa
