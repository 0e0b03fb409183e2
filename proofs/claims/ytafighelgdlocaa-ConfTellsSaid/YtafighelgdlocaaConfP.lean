/-
  What comes in as a configuration: its value, what its slices hold; the two laws' walks.
-/
import Derived.Test.YtafighelgdlocaaConfL
import Derived.Test.YtafighelgdlocaaRows2
import Derived.ChangeSame
namespace Go.Proofs.Ytafighelgdlocaa
open Go.RowKit Go.ChangeShapes Go.WideShapes Go.Deep
set_option linter.unusedVariables false

theorem limits_of {H : Type} {enc : TypeId × Value → H} {w : World} {a : Option Addr} {len cap : Nat} {d : DataW H} {p : List MemPlace}
    (h : DataW.Trod enc Try.prog w 0 (fun _ => true) true 23 (.slice a len cap) d p) : ∃ l, LimAt w a len l := by
  obtain ⟨fuel, hf⟩ := h
  rcases open_slice Try.underlying23 hf with ⟨hcs, _⟩ | ⟨x, n, c, m, f, D, Pl, hcs, _, hl, hm, hmm, _, hi⟩
  · simp [Value.cells] at hcs
    obtain ⟨_, rfl, _⟩ := hcs
    exact ⟨fun _ => 0, Or.inl rfl⟩
  · simp [Value.cells] at hcs
    obtain ⟨rfl, rfl, rfl⟩ := hcs
    simp at hmm
    subst hmm
    by_cases h0 : len = 0
    · exact ⟨fun _ => 0, Or.inl h0⟩
    have hone : ∀ i, i < m → ∃ k : Int, w.cell? (x.add i) = some (.int .i64 k) := by
      intro i hic
      obtain ⟨cs', hc, htr⟩ := hi i hic
      rw [show Try.prog.cellsOf 3 = 1 from by kernel_rfl] at hc
      obtain ⟨k, rfl, _, _⟩ := DataW.trod_int Try.underlying3 htr
      obtain ⟨_, hcl, hat⟩ := World.cells?_some hc
      have := hat 0 (by omega)
      rw [Go.Deep.add_add] at this
      exact ⟨k, by simpa using this⟩
    obtain ⟨b, off, spot⟩ := x
    have hsp : spot = none := by
      obtain ⟨k, hc0⟩ := hone 0 (by omega)
      have := World.cell?_spot hc0
      simpa [Addr.add] using this
    subst hsp
    have hb : b < w.heap.size := by
      obtain ⟨k, hc0⟩ := hone 0 (by omega)
      have := block_lt_of_cell hc0
      simpa [Addr.add] using this
    have hex : ∀ i, ∃ k : Int, i < len → w.cell? ⟨b, off + i, none⟩ = some (.int .i64 k) := by
      intro i
      by_cases hi' : i < len
      · obtain ⟨k, hk⟩ := hone i (by omega)
        rw [Bil.add_off] at hk
        exact ⟨k, fun _ => hk⟩
      · exact ⟨0, fun h => absurd h hi'⟩
    exact ⟨fun i => Classical.choose (hex i), Or.inr ⟨b, off, rfl, hb, fun i hi' => Classical.choose_spec (hex i) hi'⟩⟩

theorem tenants_of {H : Type} {enc : TypeId × Value → H} {w : World} {a : Option Addr} {len cap : Nat} {d : DataW H} {p : List MemPlace}
    (h : DataW.Trod enc Try.prog w 0 (fun _ => true) true 22 (.slice a len cap) d p) : ∃ t, TenAt w a len t := by
  obtain ⟨hm, h0 | ⟨x, rfl, hl, _, hc⟩⟩ := Bil.slice_cells Try.underlying22 Try.underlying47 (by kernel_rfl) (by kernel_rfl) h
  · exact ⟨fun _ => (.empty, 0, 0), Or.inl h0⟩
  · by_cases h0 : len = 0
    · exact ⟨fun _ => (.empty, 0, 0), Or.inl h0⟩
    obtain ⟨b, off, spot⟩ := x
    have hone : ∀ i, i < cap → ∃ (s : ByteArray) (k m : Int), w.cell? ((⟨b, off, spot⟩ : Addr).add (i * 3 + 0)) = some (.string s) ∧ w.cell? ((⟨b, off, spot⟩ : Addr).add (i * 3 + 1)) = some (.int .i64 k) ∧ w.cell? ((⟨b, off, spot⟩ : Addr).add (i * 3 + 2)) = some (.int .i64 m) ∧ s.size ≤ maxLen := by
      intro i hi
      obtain ⟨v0, n0, y0, hc0, ht0⟩ := hc i hi 0 _ rfl
      obtain ⟨v1, n1, y1, hc1, ht1⟩ := hc i hi 1 _ rfl
      obtain ⟨v2, n2, y2, hc2, ht2⟩ := hc i hi 2 _ rfl
      obtain ⟨s, hs, _, hsz⟩ := DataW.trod_string Try.underlying9 ht0
      obtain ⟨k, hk, _, _⟩ := DataW.trod_int Try.underlying3 ht1
      obtain ⟨m, hm, _, _⟩ := DataW.trod_int Try.underlying3 ht2
      simp at hs hk hm
      subst hs hk hm
      exact ⟨s, k, m, hc0, hc1, hc2, hsz⟩
    have hsp : spot = none := by
      obtain ⟨s, k, m, hc0, _⟩ := hone 0 (by omega)
      have := World.cell?_spot hc0
      simpa [Addr.add] using this
    subst hsp
    have hb : b < w.heap.size := by
      obtain ⟨s, k, m, hc0, _⟩ := hone 0 (by omega)
      have := block_lt_of_cell hc0
      simpa [Addr.add] using this
    have hex : ∀ i, ∃ q : Cf.T, i < len → w.cell? ⟨b, off + i * 3, none⟩ = some (.string q.1) ∧ w.cell? ⟨b, off + i * 3 + 1, none⟩ = some (.int .i64 q.2.1) ∧ w.cell? ⟨b, off + i * 3 + 2, none⟩ = some (.int .i64 q.2.2) ∧ q.1.size ≤ 9223372036854775807 := by
      intro i
      by_cases hi : i < len
      · obtain ⟨s, k, m, g0, g1, g2, g3⟩ := hone i (by omega)
        rw [Bil.add_off] at g0 g1 g2
        exact ⟨(s, k, m), fun _ => ⟨by simpa using g0, by simpa [Nat.add_assoc] using g1, by simpa [Nat.add_assoc] using g2, g3⟩⟩
      · exact ⟨(.empty, 0, 0), fun h => absurd h hi⟩
    exact ⟨fun i => Classical.choose (hex i), Or.inr ⟨b, off, rfl, hb, fun i hi => Classical.choose_spec (hex i) hi⟩⟩

/-- a field that reads as a slice is a slice -/
theorem slice_field {H : Type} {enc : TypeId × Value → H} {P : Program} {w : World} {t e : TypeId} {v : Value} {fuel : Nat} {y : DataW H × List MemPlace} (ht : P.underlying t = some (.slice e)) (h : DataW.trod enc P w 0 (fun _ => true) true fuel t [v] = some y) :
    ∃ a len cap, v = .slice a len cap ∧ DataW.Trod enc P w 0 (fun _ => true) true t (.slice a len cap) y.1 y.2 := by
  rcases open_slice ht h with ⟨hcs, _⟩ | ⟨x, n, c, m, f, D, Pl, hcs, _⟩
  · simp at hcs
    subst hcs
    exact ⟨_, _, _, rfl, fuel, by simpa [Value.cells] using h⟩
  · simp at hcs
    subst hcs
    exact ⟨_, _, _, rfl, fuel, by simpa [Value.cells] using h⟩

/-- the fields of a struct, each of one cell -/
theorem struct_fields {H : Type} {enc : TypeId × Value → H} {P : Program} {w : World} {t : TypeId} {fs : Array Field} {fuel : Nat} {cs : List Value} {x : DataW H × List MemPlace} (he : P.underlying t = some (.struct fs)) (hone : oneCellFields P fs = true) (hC : P.cellsOf t = fs.size)
    (h : DataW.trod enc P w 0 (fun _ => true) true fuel t cs = some x) : ∃ k, ∀ (j : Nat) (f : Field) (v : Value), fs[j]? = some f → cs[j]? = some v → ∃ y, DataW.trod enc P w 0 (fun _ => true) true k f.type [v] = some y := by
  obtain ⟨xs, k, _, _, hlen, hxl, hfd⟩ := DataW.trod_struct he h
  refine ⟨k, fun j f v hj hv => ?_⟩
  obtain ⟨ho, hk⟩ := hone_of hone j f hj
  have hjl : j < fs.size := (Array.getElem?_eq_some_iff.1 hj).1
  obtain ⟨hjc, rfl⟩ := List.getElem?_eq_some_iff.1 hv
  have h1 := hfd j f hj
  rw [ho, hk, List.drop_eq_getElem_cons hjc, List.getElem?_eq_getElem (by omega)] at h1
  exact ⟨_, h1⟩

theorem array19 {cs : Array Value} (h : cs.size = 19) : ∃ v0 v1 v2 v3 v4 v5 v6 v7 v8 v9 v10 v11 v12 v13 v14 v15 v16 v17 v18 : Value, cs = #[v0, v1, v2, v3, v4, v5, v6, v7, v8, v9, v10, v11, v12, v13, v14, v15, v16, v17, v18] := by
  obtain ⟨l⟩ := cs
  simp at h
  match l, h with
  | [v0, v1, v2, v3, v4, v5, v6, v7, v8, v9, v10, v11, v12, v13, v14, v15, v16, v17, v18], _ => exact ⟨v0, v1, v2, v3, v4, v5, v6, v7, v8, v9, v10, v11, v12, v13, v14, v15, v16, v17, v18, rfl⟩

/-- a configuration as it comes in -/
theorem cfg_of {H : Type} {enc : TypeId × Value → H} {w : World} {r : Reach} {b0 : Nat} {v : Value} {d : DataW H} {p : List MemPlace} (hv : Value.okWide Try.prog w r b0 25 v)
    (h : DataW.Trod enc Try.prog w 0 (fun _ => true) true 25 v d p) : ∃ c : Cf.C, v = c.val ∧ ∃ t l, TenAt w c.ta c.tl t ∧ LimAt w c.la c.ll l := by
  obtain ⟨cs, rfl, hsz⟩ := okWide_struct Try.underlying25 hv
  rw [show Try.prog.cellsOf 25 = 19 from by kernel_rfl] at hsz
  obtain ⟨v0, v1, v2, v3, v4, v5, v6, v7, v8, v9, v10, v11, v12, v13, v14, v15, v16, v17, v18, rfl⟩ := array19 hsz
  obtain ⟨fuel, hf⟩ := h
  obtain ⟨k, hF⟩ := struct_fields Try.underlying25 (by kernel_rfl) (by kernel_rfl) hf
  obtain ⟨y0, g0⟩ := hF 0 _ v0 rfl rfl
  obtain ⟨ta, tl, tc, rfl, h0⟩ := slice_field Try.underlying22 g0
  obtain ⟨y1, g1⟩ := hF 1 _ v1 rfl rfl
  obtain ⟨la, ll, lc, rfl, h1⟩ := slice_field Try.underlying23 g1
  obtain ⟨y2, g2⟩ := hF 2 _ v2 rfl rfl
  obtain ⟨k2, w2, _, _⟩ := DataW.trod_int Try.underlying3 g2
  obtain rfl : v2 = .int .i64 k2 := by simpa using w2
  obtain ⟨y3, g3⟩ := hF 3 _ v3 rfl rfl
  obtain ⟨k3, w3, _, _⟩ := DataW.trod_int Try.underlying3 g3
  obtain rfl : v3 = .int .i64 k3 := by simpa using w3
  obtain ⟨y4, g4⟩ := hF 4 _ v4 rfl rfl
  obtain ⟨k4, w4, _, _⟩ := DataW.trod_int Try.underlying3 g4
  obtain rfl : v4 = .int .i64 k4 := by simpa using w4
  obtain ⟨y5, g5⟩ := hF 5 _ v5 rfl rfl
  obtain ⟨k5, w5, _, _⟩ := DataW.trod_int Try.underlying3 g5
  obtain rfl : v5 = .int .i64 k5 := by simpa using w5
  obtain ⟨y6, g6⟩ := hF 6 _ v6 rfl rfl
  obtain ⟨k6, w6, _, _⟩ := DataW.trod_int Try.underlying3 g6
  obtain rfl : v6 = .int .i64 k6 := by simpa using w6
  obtain ⟨y7, g7⟩ := hF 7 _ v7 rfl rfl
  obtain ⟨k7, w7, _, _⟩ := DataW.trod_int Try.underlying3 g7
  obtain rfl : v7 = .int .i64 k7 := by simpa using w7
  obtain ⟨y8, g8⟩ := hF 8 _ v8 rfl rfl
  obtain ⟨k8, w8, _, _⟩ := DataW.trod_int Try.underlying3 g8
  obtain rfl : v8 = .int .i64 k8 := by simpa using w8
  obtain ⟨y9, g9⟩ := hF 9 _ v9 rfl rfl
  obtain ⟨k9, w9, _, _⟩ := DataW.trod_int Try.underlying3 g9
  obtain rfl : v9 = .int .i64 k9 := by simpa using w9
  obtain ⟨y10, g10⟩ := hF 10 _ v10 rfl rfl
  obtain ⟨k10, w10, _, _⟩ := DataW.trod_int Try.underlying3 g10
  obtain rfl : v10 = .int .i64 k10 := by simpa using w10
  obtain ⟨y11, g11⟩ := hF 11 _ v11 rfl rfl
  obtain ⟨k11, w11, _, _⟩ := DataW.trod_int Try.underlying3 g11
  obtain rfl : v11 = .int .i64 k11 := by simpa using w11
  obtain ⟨y12, g12⟩ := hF 12 _ v12 rfl rfl
  obtain ⟨k12, w12, _, _⟩ := DataW.trod_int Try.underlying3 g12
  obtain rfl : v12 = .int .i64 k12 := by simpa using w12
  obtain ⟨y13, g13⟩ := hF 13 _ v13 rfl rfl
  obtain ⟨k13, w13, _, _⟩ := DataW.trod_int Try.underlying3 g13
  obtain rfl : v13 = .int .i64 k13 := by simpa using w13
  obtain ⟨y14, g14⟩ := hF 14 _ v14 rfl rfl
  obtain ⟨k14, w14, _, _⟩ := DataW.trod_int Try.underlying3 g14
  obtain rfl : v14 = .int .i64 k14 := by simpa using w14
  obtain ⟨y15, g15⟩ := hF 15 _ v15 rfl rfl
  obtain ⟨k15, w15, _, _⟩ := DataW.trod_int Try.underlying3 g15
  obtain rfl : v15 = .int .i64 k15 := by simpa using w15
  obtain ⟨y16, g16⟩ := hF 16 _ v16 rfl rfl
  obtain ⟨k16, w16, _, _⟩ := DataW.trod_int Try.underlying3 g16
  obtain rfl : v16 = .int .i64 k16 := by simpa using w16
  obtain ⟨y17, g17⟩ := hF 17 _ v17 rfl rfl
  obtain ⟨k17, w17, _, _⟩ := DataW.trod_int Try.underlying3 g17
  obtain rfl : v17 = .int .i64 k17 := by simpa using w17
  obtain ⟨y18, g18⟩ := hF 18 _ v18 rfl rfl
  obtain ⟨k18, w18, _, _⟩ := DataW.trod_int Try.underlying3 g18
  obtain rfl : v18 = .int .i64 k18 := by simpa using w18
  obtain ⟨t, ht⟩ := tenants_of h0
  obtain ⟨l, hl⟩ := limits_of h1
  exact ⟨⟨ta, tl, tc, la, ll, lc, k2, k3, k4, k5, k6, k7, k8, k9, k10, k11, k12, k13, k14, k15, k16, k17, k18⟩, rfl, t, l, ht, hl⟩

theorem confChecks_walk (c : Cf.C) (w : World) (h : ∃ t l, TenAt w c.ta c.tl t ∧ LimAt w c.la c.ll l) : Calls Try.prog 3 #[c.val] w (Ret (.bool true) w) := by
  obtain ⟨t, l, ht, hl⟩ := h
  by_cases h0 : 100 < c.tl
  · exact confChecks_many c w h0
  · by_cases h1 : 100 < c.ll
    · exact confChecks_long c w (by omega) h1
    · exact confChecks_at c t l w ⟨ht, hl, by omega, by omega⟩
theorem confTells_walk (c : Cf.C) (k : Int) (n : ByteArray) (w : World) (h : ∃ t l, TenAt w c.ta c.tl t ∧ LimAt w c.la c.ll l) (wk : (Lit.int .i64 k).wf = true) (hn : n.size ≤ maxLen) : Calls Try.prog 4 #[c.val, .int .i64 k, .string n] w (Ret (.bool true) w) := by
  obtain ⟨t, l, ht, hl⟩ := h
  by_cases h0 : 100 < c.tl
  · exact confTells_many c k n w h0
  · by_cases h1 : 100 < c.ll
    · exact confTells_long c k n w (by omega) h1
    · exact confTells_at c t l k n w ⟨ht, hl, by omega, by omega⟩
end Go.Proofs.Ytafighelgdlocaa
