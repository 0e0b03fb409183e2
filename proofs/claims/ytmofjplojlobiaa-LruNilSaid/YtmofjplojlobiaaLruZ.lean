/-
  What comes in: acts, an act by value; the two laws' walks.
-/
import Derived.Test.YtmofjplojlobiaaLruY
import Derived.Test.YtmofjplojlobiaaRows3
import Derived.ChangeSame
namespace Go.Proofs.Ytmofjplojlobiaa
open Go.RowKit Go.ChangeShapes Go.WideShapes Go.Deep
set_option linter.unusedVariables false

theorem str_sized {H : Type} {enc : TypeId × Value → H} {w : World} {n : Nat} {v : Value} {y : DataW H × List MemPlace} {sp : Nat → Bool} {held : Bool} {base : Nat} (h : DataW.trod enc Try.prog w base sp held n 9 [v] = some y) (hy : ∀ n ∈ y.1.weights Try.prog 9, n ≤ reachBytes) : ∃ s : ByteArray, v = .string s ∧ s.size ≤ 140737488351232 := by
  obtain ⟨s, hs, hy1, hsz⟩ := DataW.trod_string Try.underlying9 h
  simp at hs
  subst hs
  refine ⟨s, rfl, Bil.sized_lit (H := H) (P := Try.prog) (t := 9) ?_⟩
  rw [hy1] at hy
  exact hy
theorem acts_of {H : Type} {enc : TypeId × Value → H} {w : World} {a : Option Addr} {len cap : Nat} {d : DataW H} {p : List MemPlace}
    (h : DataW.Trod enc Try.prog w 0 (fun _ => true) true 22 (.slice a len cap) d p) (hd : ∀ n ∈ d.weights Try.prog 22, n ≤ reachBytes) : ∃ t, ActAt w a len t := by
  obtain ⟨hm, h0 | ⟨x, rfl, hl, _, hc⟩⟩ := Bil.slice_sized Try.underlying22 Try.underlying32 (by kernel_rfl) (by kernel_rfl) h hd
  · exact ⟨fun _ => (0, .empty, 0), Or.inl h0⟩
  · by_cases h0 : len = 0
    · exact ⟨fun _ => (0, .empty, 0), Or.inl h0⟩
    obtain ⟨b, off, spot⟩ := x
    have hone : ∀ i, i < cap → ∃ (k : Int) (s : ByteArray) (m : Int), w.cell? ((⟨b, off, spot⟩ : Addr).add (i * 3 + 0)) = some (.int .i64 k) ∧ w.cell? ((⟨b, off, spot⟩ : Addr).add (i * 3 + 1)) = some (.string s) ∧ w.cell? ((⟨b, off, spot⟩ : Addr).add (i * 3 + 2)) = some (.int .i64 m) ∧ s.size ≤ 140737488351232 := by
      intro i hi
      obtain ⟨v0, n0, y0, hc0, ht0, _⟩ := hc i hi 0 _ rfl
      obtain ⟨v1, n1, y1, hc1, ht1, hs1⟩ := hc i hi 1 _ rfl
      obtain ⟨v2, n2, y2, hc2, ht2, _⟩ := hc i hi 2 _ rfl
      obtain ⟨k, hk, _, _⟩ := DataW.trod_int Try.underlying3 ht0
      obtain ⟨s, rfl, hsz⟩ := str_sized ht1 hs1
      obtain ⟨m, hm, _, _⟩ := DataW.trod_int Try.underlying3 ht2
      simp at hk hm
      subst hk hm
      exact ⟨k, s, m, hc0, hc1, hc2, hsz⟩
    have hsp : spot = none := by
      obtain ⟨k, s, m, hc0, _⟩ := hone 0 (by omega)
      have := World.cell?_spot hc0
      simpa [Addr.add] using this
    subst hsp
    have hb : b < w.heap.size := by
      obtain ⟨k, s, m, hc0, _⟩ := hone 0 (by omega)
      have := block_lt_of_cell hc0
      simpa [Addr.add] using this
    have hex : ∀ i, ∃ q : Int × ByteArray × Int, i < len → w.cell? ⟨b, off + i * 3, none⟩ = some (.int .i64 q.1) ∧ w.cell? ⟨b, off + i * 3 + 1, none⟩ = some (.string q.2.1) ∧ w.cell? ⟨b, off + i * 3 + 2, none⟩ = some (.int .i64 q.2.2) ∧ q.2.1.size ≤ 140737488351232 := by
      intro i
      by_cases hi : i < len
      · obtain ⟨k, s, m, g0, g1, g2, g3⟩ := hone i (by omega)
        rw [Bil.add_off] at g0 g1 g2
        exact ⟨(k, s, m), fun _ => ⟨by simpa using g0, by simpa [Nat.add_assoc] using g1, by simpa [Nat.add_assoc] using g2, g3⟩⟩
      · exact ⟨(0, .empty, 0), fun h => absurd h hi⟩
    exact ⟨fun i => Classical.choose (hex i), Or.inr ⟨b, off, rfl, hb, fun i hi => Classical.choose_spec (hex i) hi⟩⟩
/-- an act as a value -/
structure ActV where
  kd : Int
  key : ByteArray
  x : Int
def ActV.val (c : ActV) : Value := .agg #[.int .i64 c.kd, .string c.key, .int .i64 c.x]
theorem array3 {cs : Array Value} (h : cs.size = 3) : ∃ v0 v1 v2 : Value, cs = #[v0, v1, v2] := by
  obtain ⟨l⟩ := cs
  simp at h
  match l, h with
  | [v0, v1, v2], _ => exact ⟨v0, v1, v2, rfl⟩
theorem act_of {H : Type} {enc : TypeId × Value → H} {w : World} {r : Reach} {b0 : Nat} {v : Value} {d : DataW H} {p : List MemPlace} (hv : Value.okWide Try.prog w r b0 32 v)
    (h : DataW.Trod enc Try.prog w 0 (fun _ => true) true 32 v d p) (hd : ∀ n ∈ d.weights Try.prog 32, n ≤ reachBytes) : ∃ c : ActV, v = c.val ∧ c.key.size ≤ 140737488351232 := by
  obtain ⟨cs, rfl, hsz⟩ := okWide_struct Try.underlying32 hv
  rw [show Try.prog.cellsOf 32 = 3 from by kernel_rfl] at hsz
  obtain ⟨v0, v1, v2, rfl⟩ := array3 hsz
  obtain ⟨fuel, hf⟩ := h
  obtain ⟨k, hF⟩ := Bil.fields_sized Try.underlying32 (by kernel_rfl) (by kernel_rfl) hf hd
  obtain ⟨u0, y0, e0, g0, _⟩ := hF 0 _ rfl
  obtain ⟨u1, y1, e1, g1, s1⟩ := hF 1 _ rfl
  obtain ⟨u2, y2, e2, g2, _⟩ := hF 2 _ rfl
  obtain ⟨k0, w0, _, _⟩ := DataW.trod_int Try.underlying3 g0
  obtain ⟨s, w1, hs⟩ := str_sized g1 s1
  obtain ⟨k2, w2, _, _⟩ := DataW.trod_int Try.underlying3 g2
  simp [Value.cells] at e0 e1 e2 w0 w2
  subst e0 e1 e2 w0 w1 w2
  exact ⟨⟨k0, s, k2⟩, rfl, hs⟩

theorem lruActs_walk (room : Int) (a : Option Addr) (len cap : Nat) (w : World) (hw : (Lit.int .i64 room).wf = true) (h : ∃ t, ActAt w a len t) : Calls Try.prog 3 #[.int .i64 room, .slice a len cap] w (Ret (.bool true) w) := by
  by_cases h0 : room < 1
  · exact lruActs_low room a len cap w h0
  · by_cases h1 : 200 < len
    · exact lruActs_many room a len cap w h0 h1
    · obtain ⟨t, ht⟩ := h
      exact lruActs_at room a len cap t w h0 (by omega) ht
theorem lruLast_walk (room : Int) (a : Option Addr) (len cap : Nat) (c : ActV) (w : World) (hw : (Lit.int .i64 room).wf = true) (h : ∃ t, ActAt w a len t) (hc : c.key.size ≤ 140737488351232) : Calls Try.prog 5 #[.int .i64 room, .slice a len cap, c.val] w (Ret (.bool true) w) := by
  obtain ⟨kd, key, x⟩ := c
  by_cases h0 : room < 1
  · exact lruLast_low room kd x key a len cap w h0
  · by_cases h1 : 100 < len
    · exact lruLast_many room kd x key a len cap w h0 h1
    · obtain ⟨t, ht⟩ := h
      exact lruLast_at room kd x key a len cap t w h0 (by omega) ht hc
end Go.Proofs.Ytmofjplojlobiaa
