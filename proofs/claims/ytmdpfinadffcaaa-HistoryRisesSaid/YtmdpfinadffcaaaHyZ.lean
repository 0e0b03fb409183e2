/-
  What comes in: runs, rows, what is asked; the three laws' walks.
-/
import Derived.Test.YtmdpfinadffcaaaHyT
import Derived.Test.YtmdpfinadffcaaaRows3
import Derived.ChangeSame
import Derived.OpenShut
namespace Bil
open Go Go.ChangeShapes Go.WideShapes Go.Deep
set_option linter.unusedVariables false
/-- the rows of a slice, whatever a row is, with the form's reach -/
theorem slice_rows {H : Type} {enc : TypeId × Value → H} {P : Program} {w : World} {t e : TypeId} {a : Option Addr} {len cap : Nat} {d : DataW H} {p : List MemPlace}
    (ht : P.underlying t = some (.slice e)) (h : DataW.Trod enc P w 0 (fun _ => true) true t (.slice a len cap) d p) (hd : ∀ n ∈ d.weights P t, n ≤ reachBytes) :
    len = 0 ∨ ∃ x : Addr, a = some x ∧ len ≤ cap ∧
      ∀ i, i < cap → ∃ (cs : List Value) (n : Nat) (y : DataW H × List MemPlace), cs.length = P.cellsOf e ∧ (∀ j, j < P.cellsOf e → w.cell? (x.add (i * P.cellsOf e + j)) = cs[j]?) ∧ DataW.trod enc P w 0 (fun _ => true) true n e cs = some y ∧ ∀ n ∈ y.1.weights P e, n ≤ reachBytes := by
  obtain ⟨fuel, hf⟩ := h
  rcases open_slice ht hf with ⟨hcs, _⟩ | ⟨x, l, c, m, n, D, Pl, hcs, _, hl, hm, hmm, hx, hi⟩
  · simp [Value.cells] at hcs
    obtain ⟨_, rfl, _⟩ := hcs
    exact .inl rfl
  · simp [Value.cells] at hcs
    obtain ⟨rfl, rfl, rfl⟩ := hcs
    simp at hmm
    subst hmm
    have hx1 : d = .slice ((List.range len).map D) ((List.range (m - len)).map fun j => D (len + j)) := congrArg Prod.fst hx
    refine .inr ⟨x, rfl, hl, fun i hic => ?_⟩
    obtain ⟨cs', hc, htr⟩ := hi i hic
    have hw : ∀ n ∈ (D i).weights P e, n ≤ reachBytes := fun n hn => hd n (by
      rw [hx1]
      simp only [DataW.weights, ht]
      refine List.mem_cons_of_mem _ ?_
      by_cases hil : i < len
      · exact List.mem_append_left _ (weights_all (List.mem_map.2 ⟨i, List.mem_range.2 hil, rfl⟩) n hn)
      · exact List.mem_append_right _ (weights_all (List.mem_map.2 ⟨i - len, List.mem_range.2 (by omega), by rw [show len + (i - len) = i by omega]⟩) n hn))
    obtain ⟨_, hcl, hat⟩ := World.cells?_some hc
    exact ⟨cs', n, (D i, Pl i), hcl, fun j hj => by rw [← Go.Deep.add_add]; exact hat j hj, htr, hw⟩
/-- an array of ints of this many cells -/
theorem ints_of {H : Type} {enc : TypeId × Value → H} {P : Program} {w : World} {t e : TypeId} {k : IntKind} {c : Nat} {cs : List Value} {fuel base : Nat} {sp : Nat → Bool} {held : Bool} {x : DataW H × List MemPlace}
    (ht : P.underlying t = some (.array c e)) (he : P.underlying e = some (.int k)) (hC : P.cellsOf e = 1) (hCt : P.cellsOf t = c) (h : DataW.trod enc P w base sp held fuel t cs = some x) : cs.length = c ∧ ∀ i (hi : i < cs.length), ∃ v : Int, cs[i] = .int k v := by
  obtain ⟨xs, m, _, _, hl, hxl, hfd⟩ := DataW.trod_array ht h
  refine ⟨hl.trans hCt, fun i hi => ?_⟩
  have hic : i < c := by rw [hl, hCt] at hi; exact hi
  have h1 := hfd i hic
  have e : (cs.drop i).take 1 = [cs[i]] := by
    rw [List.drop_eq_getElem_cons hi]
    rfl
  rw [hC, Nat.mul_one, List.getElem?_eq_getElem (by omega), e] at h1
  obtain ⟨v, hv, _, _⟩ := DataW.trod_int he h1
  exact ⟨v, by simpa using hv⟩
end Bil
namespace Go.Proofs.Ytmdpfinadffcaaa
open Go.RowKit Go.ChangeShapes Go.WideShapes Go.Deep
set_option linter.unusedVariables false

theorem str_sized {H : Type} {enc : TypeId × Value → H} {w : World} {n : Nat} {v : Value} {y : DataW H × List MemPlace} {sp : Nat → Bool} {held : Bool} {base : Nat} (h : DataW.trod enc Try.prog w base sp held n 9 [v] = some y) (hy : ∀ n ∈ y.1.weights Try.prog 9, n ≤ reachBytes) : ∃ s : ByteArray, v = .string s ∧ s.size ≤ 140737488351232 := by
  obtain ⟨s, hs, hy1, hsz⟩ := DataW.trod_string Try.underlying9 h
  simp at hs
  subst hs
  refine ⟨s, rfl, Bil.sized_lit (H := H) (P := Try.prog) (t := 9) ?_⟩
  rw [hy1] at hy
  exact hy
theorem runs_of {H : Type} {enc : TypeId × Value → H} {w : World} {a : Option Addr} {len cap : Nat} {d : DataW H} {p : List MemPlace}
    (h : DataW.Trod enc Try.prog w 0 (fun _ => true) true 22 (.slice a len cap) d p) (hd : ∀ n ∈ d.weights Try.prog 22, n ≤ reachBytes) : ∃ t, RunAt w a len t := by
  obtain ⟨hm, h0 | ⟨x, rfl, hl, _, hc⟩⟩ := Bil.slice_sized Try.underlying22 Try.underlying35 (by kernel_rfl) (by kernel_rfl) h hd
  · exact ⟨fun _ => (.empty, 0), Or.inl h0⟩
  · by_cases h0 : len = 0
    · exact ⟨fun _ => (.empty, 0), Or.inl h0⟩
    obtain ⟨b, off, spot⟩ := x
    have hone : ∀ i, i < cap → ∃ (s : ByteArray) (m : Int), w.cell? ((⟨b, off, spot⟩ : Addr).add (i * 2 + 0)) = some (.string s) ∧ w.cell? ((⟨b, off, spot⟩ : Addr).add (i * 2 + 1)) = some (.int .u64 m) ∧ s.size ≤ 140737488351232 ∧ 0 ≤ m ∧ m < 18446744073709551616 := by
      intro i hi
      obtain ⟨v1, n1, y1, hc1, ht1, hs1⟩ := hc i hi 0 _ rfl
      obtain ⟨v2, n2, y2, hc2, ht2, _⟩ := hc i hi 1 _ rfl
      obtain ⟨s, rfl, hsz⟩ := str_sized ht1 hs1
      obtain ⟨m, hm, _, hwf⟩ := DataW.trod_int Try.underlying33 ht2
      simp at hm
      subst hm
      exact ⟨s, m, hc1, hc2, hsz, wf_u64 hwf⟩
    have hsp : spot = none := by
      obtain ⟨s, m, hc0, _⟩ := hone 0 (by omega)
      have := World.cell?_spot hc0
      simpa [Addr.add] using this
    subst hsp
    have hb : b < w.heap.size := by
      obtain ⟨s, m, hc0, _⟩ := hone 0 (by omega)
      have := block_lt_of_cell hc0
      simpa [Addr.add] using this
    have hex : ∀ i, ∃ q : ByteArray × Int, i < len → w.cell? ⟨b, off + i * 2, none⟩ = some (.string q.1) ∧ w.cell? ⟨b, off + i * 2 + 1, none⟩ = some (.int .u64 q.2) ∧ q.1.size ≤ 140737488351232 ∧ 0 ≤ q.2 ∧ q.2 < 18446744073709551616 := by
      intro i
      by_cases hi : i < len
      · obtain ⟨s, m, g0, g1, g2⟩ := hone i (by omega)
        rw [Bil.add_off] at g0 g1
        exact ⟨(s, m), fun _ => ⟨by simpa using g0, by simpa [Nat.add_assoc] using g1, g2⟩⟩
      · exact ⟨(.empty, 0), fun h => absurd h hi⟩
    exact ⟨fun i => Classical.choose (hex i), Or.inr ⟨b, off, rfl, hb, fun i hi => Classical.choose_spec (hex i) hi⟩⟩
/-- limits as they came in -/
theorem lims_of {H : Type} {enc : TypeId × Value → H} {w : World} {v : Value} {n : Nat} {y : DataW H × List MemPlace}
    (h : DataW.trod enc Try.prog w 0 (fun _ => true) true n 23 [v] = some y) : ∃ a len cap L, v = .slice a len cap ∧ LimW w a len L := by
  rcases open_slice Try.underlying23 h with ⟨hcs, _⟩ | ⟨x, n, c, m, f, D, Pl, hcs, _, hl, hm, hmm, _, hi⟩
  · exact ⟨none, 0, 0, fun _ => 0, by simpa using hcs, Or.inl rfl, fun i hi => by omega⟩
  · refine ⟨some x, n, c, ?_⟩
    simp at hcs
    simp at hmm
    subst hmm
    by_cases h0 : n = 0
    · exact ⟨fun _ => 0, hcs, Or.inl h0, fun i hi => by omega⟩
    have hone : ∀ i, i < m → ∃ k : Int, w.cell? (x.add i) = some (.int .i64 k) ∧ -9223372036854775808 ≤ k ∧ k ≤ 9223372036854775807 := by
      intro i hic
      obtain ⟨cs', hc, htr⟩ := hi i hic
      rw [show Try.prog.cellsOf 3 = 1 from by kernel_rfl] at hc
      obtain ⟨k, rfl, _, hwf⟩ := DataW.trod_int Try.underlying3 htr
      obtain ⟨_, hcl, hat⟩ := World.cells?_some hc
      have := hat 0 (by omega)
      rw [Go.Deep.add_add] at this
      exact ⟨k, by simpa using this, wf_i64 hwf⟩
    obtain ⟨b, off, spot⟩ := x
    have hsp : spot = none := by
      obtain ⟨k, hc0, _⟩ := hone 0 (by omega)
      have := World.cell?_spot hc0
      simpa [Addr.add] using this
    subst hsp
    have hb : b < w.heap.size := by
      obtain ⟨k, hc0, _⟩ := hone 0 (by omega)
      have := block_lt_of_cell hc0
      simpa [Addr.add] using this
    have hex : ∀ i, ∃ k : Int, i < n → w.cell? ⟨b, off + i, none⟩ = some (.int .i64 k) ∧ -9223372036854775808 ≤ k ∧ k ≤ 9223372036854775807 := by
      intro i
      by_cases hi' : i < n
      · obtain ⟨k, hk, hr⟩ := hone i (by omega)
        rw [Bil.add_off] at hk
        exact ⟨k, fun _ => ⟨hk, hr⟩⟩
      · exact ⟨0, fun h => absurd h hi'⟩
    refine ⟨fun i => Classical.choose (hex i), hcs, Or.inr ⟨b, off, rfl, hb, fun i hi' => (Classical.choose_spec (hex i) hi').1⟩, fun i hi' => ?_⟩
    have := (Classical.choose_spec (hex i) hi').2
    omega
/-- what is asked, as a value -/
structure AskV where
  key : ByteArray
  la : Option Addr
  ln : Nat
  lcap : Nat
  p : Int
def AskV.val (c : AskV) : Value := .agg #[.string c.key, .slice c.la c.ln c.lcap, .int .i64 c.p]
theorem array3 {cs : Array Value} (h : cs.size = 3) : ∃ v0 v1 v2 : Value, cs = #[v0, v1, v2] := by
  obtain ⟨l⟩ := cs
  simp at h
  match l, h with
  | [v0, v1, v2], _ => exact ⟨v0, v1, v2, rfl⟩
/-- .. its facts -/
structure AskF (w : World) (c : AskV) (L : Nat → Int) : Prop where
  key : c.key.size ≤ 140737488351232
  lim : LimW w c.la c.ln L
set_option maxRecDepth 100000 in
theorem ask_of {H : Type} {enc : TypeId × Value → H} {w : World} {r : Reach} {b0 : Nat} {v : Value} {d : DataW H} {p : List MemPlace} (hv : Value.okWide Try.prog w r b0 25 v)
    (h : DataW.Trod enc Try.prog w 0 (fun _ => true) true 25 v d p) (hd : ∀ n ∈ d.weights Try.prog 25, n ≤ reachBytes) : ∃ c : AskV, v = c.val ∧ ∃ L, AskF w c L := by
  obtain ⟨cs, rfl, hsz⟩ := okWide_struct Try.underlying25 hv
  rw [show Try.prog.cellsOf 25 = 3 from by kernel_rfl] at hsz
  obtain ⟨v0, v1, v2, rfl⟩ := array3 hsz
  obtain ⟨fuel, hf⟩ := h
  obtain ⟨k, hF⟩ := Bil.fields_sized Try.underlying25 (by kernel_rfl) (by kernel_rfl) hf hd
  obtain ⟨u0, y0, e0, g0, s0⟩ := hF 0 _ rfl
  obtain ⟨u1, y1, e1, g1, s1⟩ := hF 1 _ rfl
  obtain ⟨u2, y2, e2, g2, _⟩ := hF 2 _ rfl
  obtain ⟨s, w0, hs⟩ := str_sized g0 s0
  obtain ⟨la, ln, lcap, L, w1, hL⟩ := lims_of g1
  obtain ⟨k2, w2, _, _⟩ := DataW.trod_int Try.underlying3 g2
  simp [Value.cells] at e0 e1 e2 w2
  subst e0 e1 e2 w0 w1 w2
  exact ⟨⟨s, la, ln, lcap, k2⟩, rfl, L, hs, hL⟩
set_option maxRecDepth 100000 in
/-- a row -/
theorem row_of {H : Type} {enc : TypeId × Value → H} {w : World} {cs : List Value} {n : Nat} {y : DataW H × List MemPlace} (hl : cs.length = 17)
    (h : DataW.trod enc Try.prog w 0 (fun _ => true) true n 58 cs = some y) (hd : ∀ n ∈ y.1.weights Try.prog 58, n ≤ reachBytes) : ∃ e : Lr.E, cs = (entC e.1 e.2).toList ∧ e.1.size ≤ 140737488351232 := by
  obtain ⟨y0, y1, k, hy, _, h0, h1⟩ := trod_struct2 Try.underlying58 h
  match cs, hl with
  | v :: r, hl =>
    have hr : r.length = 16 := by simpa using hl
    have h0' : DataW.trod enc Try.prog w 0 (fun _ => true) true k 9 [v] = some y0 := h0
    have h1' : DataW.trod enc Try.prog w 0 (fun _ => true) true k 49 r = some y1 := by
      have e : r = ((v :: r).drop 1).take (Try.prog.cellsOf 49) := by
        rw [show Try.prog.cellsOf 49 = 16 from by kernel_rfl, List.drop_one, List.tail_cons, List.take_of_length_le (by omega)]
      rw [e]
      exact h1
    obtain ⟨s, rfl, hs⟩ := str_sized h0' (fun n hn => hd n (by
      rw [hy]
      simp only [DataW.weights, Try.underlying58]
      exact DataW.weights_mem_each (j := 0) rfl rfl n hn))
    obtain ⟨_, hi⟩ := Bil.ints_of Try.underlying49 Try.underlying3 (by kernel_rfl) (by kernel_rfl) h1'
    refine ⟨(s, ⟨r.map intOf, by simpa using hr⟩), ?_, hs⟩
    unfold entC Hi.cells
    rw [List.map_map, Array.toList_append]
    show _ :: r = _ :: r.map _
    refine congrArg _ (List.ext_getElem (by simp) fun i h1 h2 => ?_)
    obtain ⟨k, hk⟩ := hi i h1
    rw [List.getElem_map, hk]
    rfl
theorem rows_of {H : Type} {enc : TypeId × Value → H} {w : World} {a : Option Addr} {len cap : Nat} {d : DataW H} {p : List MemPlace}
    (h : DataW.Trod enc Try.prog w 0 (fun _ => true) true 29 (.slice a len cap) d p) (hd : ∀ n ∈ d.weights Try.prog 29, n ≤ reachBytes) : ∃ R : List Lr.E, R.length = len ∧ RowsAt w a R ∧ ∀ e ∈ R, e.1.size ≤ 140737488351232 := by
  have hnil : len = 0 → ∃ R : List Lr.E, R.length = len ∧ RowsAt w a R ∧ ∀ e ∈ R, e.1.size ≤ 140737488351232 := fun h0 => ⟨[], h0.symm, ⟨fun h => absurd h (by simp)⟩, fun e he => by cases he⟩
  rcases Bil.slice_rows Try.underlying29 h hd with h0 | ⟨x, rfl, hl, hc⟩
  · exact hnil h0
  · by_cases h0 : len = 0
    · exact hnil h0
    rw [show Try.prog.cellsOf 58 = 17 from by kernel_rfl] at hc
    have hone : ∀ i, i < cap → ∃ e : Lr.E, (∀ j, j < 17 → w.cell? (x.add (i * 17 + j)) = (entC e.1 e.2).toList[j]?) ∧ e.1.size ≤ 140737488351232 := by
      intro i hi
      obtain ⟨cs, n, y, g1, g2, g3, g4⟩ := hc i hi
      obtain ⟨e, rfl, hs⟩ := row_of g1 g3 g4
      exact ⟨e, g2, hs⟩
    obtain ⟨b, off, spot⟩ := x
    obtain ⟨e0, hc0, _⟩ := hone 0 (by omega)
    have hc00 : w.cell? ((⟨b, off, spot⟩ : Addr).add (0 * 17 + 0)) = some (.string e0.1) := (hc0 0 (by decide)).trans (by rw [Array.getElem?_toList]; exact entC_key e0.1 e0.2)
    have hsp : spot = none := by
      have := World.cell?_spot hc00
      simpa [Addr.add] using this
    subst hsp
    have hb : b < w.heap.size := by
      have := block_lt_of_cell hc00
      simpa [Addr.add] using this
    have hex : ∀ i, ∃ e : Lr.E, i < len → (∀ j, j < 17 → w.cell? ⟨b, off + i * 17 + j, none⟩ = (entC e.1 e.2).toList[j]?) ∧ e.1.size ≤ 140737488351232 := by
      intro i
      by_cases hi : i < len
      · obtain ⟨e, g1, g2⟩ := hone i (by omega)
        refine ⟨e, fun _ => ⟨fun j hj => ?_, g2⟩⟩
        have := g1 j hj
        rw [Bil.add_off, ← Nat.add_assoc] at this
        exact this
      · exact ⟨e0, fun h => absurd h hi⟩
    refine ⟨(List.range len).map fun i => Classical.choose (hex i), by simp, ⟨fun _ => ⟨b, off, rfl, hb, fun j hj i u hu => ?_⟩⟩, fun e he => ?_⟩
    · have hj' : j < len := by simpa using hj
      have hs := (Classical.choose_spec (hex j) hj').1
      have hu' : (entC (Classical.choose (hex j)).1 (Classical.choose (hex j)).2).toList[i]? = some u := by simpa [eltR] using hu
      have hi17 : i < 17 := by
        have := (List.getElem?_eq_some_iff.1 hu').1
        rwa [Array.length_toList, entC_size] at this
      exact (hs i hi17).trans hu'
    · obtain ⟨i, hi, rfl⟩ := List.mem_map.1 he
      exact (Classical.choose_spec (hex i) (List.mem_range.1 hi)).2

theorem historyActs_walk (room : Int) (a : Option Addr) (len cap : Nat) (c : AskV) (w : World) (hw : (Lit.int .i64 room).wf = true) (h : ∃ t, RunAt w a len t) (hc : ∃ L, AskF w c L) : Calls Try.prog 3 #[.int .i64 room, .slice a len cap, c.val] w (Ret (.bool true) w) := by
  obtain ⟨key, la, ln, lcap, p⟩ := c
  obtain ⟨t, ht⟩ := h
  obtain ⟨L, hk, hL⟩ := hc
  by_cases h0 : 200 < len ∨ 20 < ln ∨ room < 1
  · exact acts_off room a len cap key la ln lcap p w h0
  · exact acts_at room a len cap t key la ln lcap p L w (by omega) (by omega) (by omega) hk ht hL
theorem historyLoads_walk (room : Int) (a : Option Addr) (len cap : Nat) (c : AskV) (w : World) (hw : (Lit.int .i64 room).wf = true) (h : ∃ R : List Lr.E, R.length = len ∧ RowsAt w a R ∧ ∀ e ∈ R, e.1.size ≤ 140737488351232) (hc : ∃ L, AskF w c L) : Calls Try.prog 4 #[.int .i64 room, .slice a len cap, c.val] w (Ret (.bool true) w) := by
  obtain ⟨key, la, ln, lcap, p⟩ := c
  obtain ⟨R, rfl, hR, hs⟩ := h
  obtain ⟨L, hk, hL⟩ := hc
  by_cases h0 : 60 < R.length ∨ 20 < ln
  · exact loads_off room a R.length cap key la ln lcap p w h0
  · exact loads_at room a cap R key la ln lcap p L w (by omega) (by omega) hk hR hs hL
theorem historyRises_walk (a : Option Addr) (len cap : Nat) (c : AskV) (more : Int) (w : World) (h : ∃ t, RunAt w a len t) (hc : ∃ L, AskF w c L) (hw : (Lit.int .i64 more).wf = true) : Calls Try.prog 5 #[.slice a len cap, c.val, .int .i64 more] w (Ret (.bool true) w) := by
  obtain ⟨key, la, ln, lcap, p⟩ := c
  obtain ⟨t, ht⟩ := h
  obtain ⟨L, hk, hL⟩ := hc
  by_cases h0 : 100 < len ∨ 20 < ln ∨ more < p ∨ 100 < more ∨ p < 1
  · exact rises_off a len cap key la ln lcap p more w h0
  · exact rises_at a len cap t key la ln lcap p more L w (by omega) (by omega) (by omega) (by omega) (by omega) hk ht hL
end Go.Proofs.Ytmdpfinadffcaaa
