/-
  What comes in: acts, cuts; the three laws' walks, for a wheel of which 'WheelC' and 'NilC' are shown.
-/
import Derived.Test.YtmglpjbikknjgaaWhU
import Derived.Test.YtmglpjbikknjgaaWhQ
import Derived.Test.YtmglpjbikknjgaaRows2
import Derived.ChangeSame
namespace Go.Proofs.Ytmglpjbikknjgaa
open Go.RowKit Go.ChangeShapes Go.WideShapes Go.Deep
set_option linter.unusedVariables false

theorem cuts_of {H : Type} {enc : TypeId × Value → H} {w : World} {a : Option Addr} {len cap : Nat} {d : DataW H} {p : List MemPlace}
    (h : DataW.Trod enc Try.prog w 0 (fun _ => true) true 42 (.slice a len cap) d p) : ∃ l, CutAt w a len l := by
  obtain ⟨fuel, hf⟩ := h
  rcases open_slice Try.underlying42 hf with ⟨hcs, _⟩ | ⟨x, n, c, m, f, D, Pl, hcs, _, hl, hm, hmm, _, hi⟩
  · simp [Value.cells] at hcs
    obtain ⟨_, rfl, _⟩ := hcs
    exact ⟨fun _ => 0, Or.inl rfl⟩
  · simp [Value.cells] at hcs
    obtain ⟨rfl, rfl, rfl⟩ := hcs
    simp at hmm
    subst hmm
    by_cases h0 : len = 0
    · exact ⟨fun _ => 0, Or.inl h0⟩
    have hone : ∀ i, i < m → ∃ k : Int, w.cell? (x.add i) = some (.int .u64 k) ∧ (Lit.int .u64 k).wf = true := by
      intro i hic
      obtain ⟨cs', hc, htr⟩ := hi i hic
      rw [show Try.prog.cellsOf 22 = 1 from by kernel_rfl] at hc
      obtain ⟨k, rfl, _, wk⟩ := DataW.trod_int Try.underlying22 htr
      obtain ⟨_, hcl, hat⟩ := World.cells?_some hc
      have := hat 0 (by omega)
      rw [Go.Deep.add_add] at this
      exact ⟨k, by simpa using this, wk⟩
    obtain ⟨b, off, spot⟩ := x
    have hsp : spot = none := by
      obtain ⟨k, hc0, _⟩ := hone 0 (by omega)
      have := World.cell?_spot hc0
      simpa [Addr.add] using this
    subst hsp
    have hb : b < w.heap.size := by
      obtain ⟨k, hc0, _⟩ := hone 0 (by omega)
      have := block_lt_of_cell hc0
      simpa [Addr.add] using this
    have hex : ∀ i, ∃ k : Int, i < len → w.cell? ⟨b, off + i, none⟩ = some (.int .u64 k) ∧ (Lit.int .u64 k).wf = true := by
      intro i
      by_cases hi' : i < len
      · obtain ⟨k, hk, wk⟩ := hone i (by omega)
        rw [Bil.add_off] at hk
        exact ⟨k, fun _ => ⟨hk, wk⟩⟩
      · exact ⟨0, fun h => absurd h hi'⟩
    exact ⟨fun i => Classical.choose (hex i), Or.inr ⟨b, off, rfl, hb, fun i hi' => Classical.choose_spec (hex i) hi'⟩⟩

theorem acts_of {H : Type} {enc : TypeId × Value → H} {w : World} {a : Option Addr} {len cap : Nat} {d : DataW H} {p : List MemPlace}
    (h : DataW.Trod enc Try.prog w 0 (fun _ => true) true 23 (.slice a len cap) d p) : ∃ t, ActAt w a len t := by
  obtain ⟨hm, h0 | ⟨x, rfl, hl, _, hc⟩⟩ := Bil.slice_cells Try.underlying23 Try.underlying32 (by kernel_rfl) (by kernel_rfl) h
  · exact ⟨fun _ => (0, 0, 0), Or.inl h0⟩
  · by_cases h0 : len = 0
    · exact ⟨fun _ => (0, 0, 0), Or.inl h0⟩
    obtain ⟨b, off, spot⟩ := x
    have hone : ∀ i, i < cap → ∃ (s k m : Int), w.cell? ((⟨b, off, spot⟩ : Addr).add (i * 3 + 0)) = some (.int .i64 s) ∧ w.cell? ((⟨b, off, spot⟩ : Addr).add (i * 3 + 1)) = some (.int .i64 k) ∧ w.cell? ((⟨b, off, spot⟩ : Addr).add (i * 3 + 2)) = some (.int .u64 m) ∧ (Lit.int .i64 k).wf = true ∧ (Lit.int .u64 m).wf = true := by
      intro i hi
      obtain ⟨v0, n0, y0, hc0, ht0⟩ := hc i hi 0 _ rfl
      obtain ⟨v1, n1, y1, hc1, ht1⟩ := hc i hi 1 _ rfl
      obtain ⟨v2, n2, y2, hc2, ht2⟩ := hc i hi 2 _ rfl
      obtain ⟨s, hs, _, _⟩ := DataW.trod_int Try.underlying3 ht0
      obtain ⟨k, hk, _, wk⟩ := DataW.trod_int Try.underlying3 ht1
      obtain ⟨m, hm, _, wm⟩ := DataW.trod_int Try.underlying22 ht2
      simp at hs hk hm
      subst hs hk hm
      exact ⟨s, k, m, hc0, hc1, hc2, wk, wm⟩
    have hsp : spot = none := by
      obtain ⟨s, k, m, hc0, _⟩ := hone 0 (by omega)
      have := World.cell?_spot hc0
      simpa [Addr.add] using this
    subst hsp
    have hb : b < w.heap.size := by
      obtain ⟨s, k, m, hc0, _⟩ := hone 0 (by omega)
      have := block_lt_of_cell hc0
      simpa [Addr.add] using this
    have hex : ∀ i, ∃ q : Int × Int × Int, i < len → w.cell? ⟨b, off + i * 3, none⟩ = some (.int .i64 q.1) ∧ w.cell? ⟨b, off + i * 3 + 1, none⟩ = some (.int .i64 q.2.1) ∧ w.cell? ⟨b, off + i * 3 + 2, none⟩ = some (.int .u64 q.2.2) ∧ (Lit.int .i64 q.2.1).wf = true ∧ (Lit.int .u64 q.2.2).wf = true := by
      intro i
      by_cases hi : i < len
      · obtain ⟨s, k, m, g0, g1, g2, g3, g4⟩ := hone i (by omega)
        rw [Bil.add_off] at g0 g1 g2
        exact ⟨(s, k, m), fun _ => ⟨by simpa using g0, by simpa [Nat.add_assoc] using g1, by simpa [Nat.add_assoc] using g2, g3, g4⟩⟩
      · exact ⟨(0, 0, 0), fun h => absurd h hi⟩
    exact ⟨fun i => Classical.choose (hex i), Or.inr ⟨b, off, rfl, hb, fun i hi => Classical.choose_spec (hex i) hi⟩⟩

theorem wheelActs_any {Is : WS} (K : WheelC Is) (now : Int) (a : Option Addr) (len cap : Nat) (w : World) (hw : (Lit.int .u64 now).wf = true) (h : ∃ t, ActAt w a len t) : Calls Try.prog 3 #[.int .u64 now, .slice a len cap] w (Ret (.bool true) w) := by
  obtain ⟨t, h⟩ := h
  by_cases hl : 200 < len
  · exact wheelActs_many K now a len cap w hl
  · exact wheelActs_at K now a len cap t w hw (by omega) h
theorem wheelPieces_any {Is : WS} (K : WheelC Is) (now : Int) (a : Option Addr) (len cap : Nat) (ac : Option Addr) (lenc capc : Nat) (w : World) (hw : (Lit.int .u64 now).wf = true) (h : ∃ t, ActAt w a len t) (hc : ∃ l, CutAt w ac lenc l) :
    Calls Try.prog 4 #[.int .u64 now, .slice a len cap, .slice ac lenc capc] w (Ret (.bool true) w) := by
  obtain ⟨t, h⟩ := h
  obtain ⟨l, hc⟩ := hc
  by_cases hl : 100 < len ∨ lenc < 1 ∨ 60 < lenc
  · exact wheelPieces_out K now a ac len cap lenc capc w hl
  · exact wheelPieces_at K now a ac len cap lenc capc t l w hw (by omega) (by omega) (by omega) h hc
end Go.Proofs.Ytmglpjbikknjgaa
