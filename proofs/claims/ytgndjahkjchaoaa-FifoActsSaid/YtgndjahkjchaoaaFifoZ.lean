/-
  What comes in: acts; the two laws' walks.
-/
import Derived.Test.YtgndjahkjchaoaaFifoV
import Derived.Test.YtgndjahkjchaoaaRows2
namespace Go.Proofs.Ytgndjahkjchaoaa
open Go.RowKit Go.ChangeShapes Go.WideShapes Go.Deep
set_option linter.unusedVariables false

theorem acts_of {H : Type} {enc : TypeId × Value → H} {w : World} {a : Option Addr} {len cap : Nat} {d : DataW H} {p : List MemPlace}
    (h : DataW.Trod enc Try.prog w 0 (fun _ => true) true 22 (.slice a len cap) d p) : ∃ t, ActAt w a len t := by
  obtain ⟨hm, h0 | ⟨x, rfl, hl, _, hc⟩⟩ := Bil.slice_cells Try.underlying22 Try.underlying28 (by kernel_rfl) (by kernel_rfl) h
  · exact ⟨fun _ => (0, 0, 0), Or.inl h0⟩
  · by_cases h0 : len = 0
    · exact ⟨fun _ => (0, 0, 0), Or.inl h0⟩
    obtain ⟨b, off, spot⟩ := x
    have hone : ∀ i, i < cap → ∃ (s k q : Int), w.cell? ((⟨b, off, spot⟩ : Addr).add (i * 3 + 0)) = some (.int .i64 s) ∧ w.cell? ((⟨b, off, spot⟩ : Addr).add (i * 3 + 1)) = some (.int .i64 k) ∧ w.cell? ((⟨b, off, spot⟩ : Addr).add (i * 3 + 2)) = some (.int .i64 q) ∧ (Lit.int .i64 k).wf = true := by
      intro i hi
      obtain ⟨v0, n0, y0, hc0, ht0⟩ := hc i hi 0 _ rfl
      obtain ⟨v1, n1, y1, hc1, ht1⟩ := hc i hi 1 _ rfl
      obtain ⟨v2, n2, y2, hc2, ht2⟩ := hc i hi 2 _ rfl
      obtain ⟨s, hs, _, _⟩ := DataW.trod_int Try.underlying3 ht0
      obtain ⟨k, hk, _, wk⟩ := DataW.trod_int Try.underlying3 ht1
      obtain ⟨q, hq, _, _⟩ := DataW.trod_int Try.underlying3 ht2
      simp at hs hk hq
      subst hs hk hq
      exact ⟨s, k, q, hc0, hc1, hc2, wk⟩
    have hsp : spot = none := by
      obtain ⟨s, k, q, hc0, _⟩ := hone 0 (by omega)
      have := World.cell?_spot hc0
      simpa [Addr.add] using this
    subst hsp
    have hb : b < w.heap.size := by
      obtain ⟨s, k, q, hc0, _⟩ := hone 0 (by omega)
      have := block_lt_of_cell hc0
      simpa [Addr.add] using this
    have hex : ∀ i, ∃ q : Int × Int × Int, i < len → w.cell? ⟨b, off + i * 3, none⟩ = some (.int .i64 q.1) ∧ w.cell? ⟨b, off + i * 3 + 1, none⟩ = some (.int .i64 q.2.1) ∧ w.cell? ⟨b, off + i * 3 + 2, none⟩ = some (.int .i64 q.2.2) ∧ (Lit.int .i64 q.2.1).wf = true := by
      intro i
      by_cases hi : i < len
      · obtain ⟨s, k, q, g0, g1, g2, g4⟩ := hone i (by omega)
        rw [Bil.add_off] at g0 g1 g2
        exact ⟨(s, k, q), fun _ => ⟨by simpa using g0, by simpa [Nat.add_assoc] using g1, by simpa [Nat.add_assoc] using g2, g4⟩⟩
      · exact ⟨(0, 0, 0), fun h => absurd h hi⟩
    exact ⟨fun i => Classical.choose (hex i), Or.inr ⟨b, off, rfl, hb, fun i hi => Classical.choose_spec (hex i) hi⟩⟩
theorem fifoActs_walk (a : Option Addr) (len cap : Nat) (w : World) (h : ∃ t, ActAt w a len t) : Calls Try.prog 3 #[.slice a len cap] w (Ret (.bool true) w) := by
  by_cases h1 : 200 < len
  · exact fifoActs_many a len cap w h1
  · obtain ⟨t, ht⟩ := h
    exact fifoActs_at a len cap t w (by omega) ht
theorem fifoNil_walk' (id co : Int) (w : World) (hi : (Lit.int .i64 id).wf = true) (hc : (Lit.int .i64 co).wf = true) : Calls Try.prog 4 #[.agg #[.int .i64 id, .int .i64 co]] w (Ret (.bool true) w) := fifoNil_walk id co w hi hc
end Go.Proofs.Ytgndjahkjchaoaa
