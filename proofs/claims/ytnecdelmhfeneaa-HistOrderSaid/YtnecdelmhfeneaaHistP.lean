/-
  What comes in as a histogram, and as a row of numbers; the laws' walks.
-/
import Derived.Test.YtnecdelmhfeneaaHistH
import Derived.Test.YtnecdelmhfeneaaHistI
import Derived.ChangeSame
import Derived.OpenShut
import Derived.Deep.Slices
import Derived.Deep.Fields
namespace Go.Proofs.Ytnecdelmhfeneaa
open Go.RowKit Go.ChangeShapes Go.WideShapes Go.Deep
set_option linter.unusedVariables false

/-- a histogram as it comes in: 16 integers -/
theorem hist_of {H : Type} {enc : TypeId × Value → H} {w : World} {r : Reach} {b0 : Nat} {v : Value} {d : DataW H} {p : List MemPlace} (hv : Value.okWide Try.prog w r b0 28 v)
    (h : DataW.Trod enc Try.prog w 0 (fun _ => true) true 28 v d p) : ∃ l : List Int, v = .agg (Hi.cells l) ∧ l.length = 16 := by
  obtain ⟨cs, rfl, hsz, _⟩ : ∃ cs, v = .agg cs ∧ cs.size = Try.prog.cellsOf 28 ∧ Row.okWide Try.prog w r b0 28 cs := by
    simpa [Value.okWide, Try.underlying28] using hv
  rw [show Try.prog.cellsOf 28 = 16 from by kernel_rfl] at hsz
  obtain ⟨fuel, hf⟩ := h
  obtain ⟨xs, m, _, _, _, hxl, hfd⟩ := DataW.trod_array Try.underlying28 hf
  have hone : ∀ i (h : i < cs.toList.length), ∃ k : Int, cs.toList[i] = .int .i64 k := by
    intro i hi
    have hi16 : i < 16 := by rw [Array.length_toList, hsz] at hi; exact hi
    have h1 := hfd i hi16
    rw [show Try.prog.cellsOf 3 = 1 from by kernel_rfl, Nat.mul_one, List.getElem?_eq_getElem (by omega)] at h1
    have e : ((Value.agg cs).cells.toList.drop i).take 1 = [cs.toList[i]] := by
      show (cs.toList.drop i).take 1 = _
      rw [List.drop_eq_getElem_cons hi]
      rfl
    rw [e] at h1
    obtain ⟨k, hk, _, _⟩ := DataW.trod_int Try.underlying3 h1
    exact ⟨k, by simpa using hk⟩
  refine ⟨cs.toList.map intOf, ?_, by simp [hsz]⟩
  congr 1
  apply Array.ext'
  unfold Hi.cells
  rw [List.map_map]
  show cs.toList = cs.toList.map _
  refine List.ext_getElem (by simp) fun i h1 h2 => ?_
  obtain ⟨k, hk⟩ := hone i h1
  rw [List.getElem_map, hk]
  rfl

/-- a row of numbers as it comes in -/
theorem nums_of {H : Type} {enc : TypeId × Value → H} {w : World} {a : Option Addr} {len cap : Nat} {d : DataW H} {p : List MemPlace}
    (h : DataW.Trod enc Try.prog w 0 (fun _ => true) true 33 (.slice a len cap) d p) : ∃ f, NumAt w a len f := by
  obtain ⟨fuel, hf⟩ := h
  rcases open_slice Try.underlying33 hf with ⟨hcs, _⟩ | ⟨x, n, c, m, f, D, Pl, hcs, _, hl, hm, hmm, _, hi⟩
  · simp [Value.cells] at hcs
    obtain ⟨_, rfl, _⟩ := hcs
    exact ⟨fun _ => 0, Or.inl rfl⟩
  · simp [Value.cells] at hcs
    obtain ⟨rfl, rfl, rfl⟩ := hcs
    simp at hmm
    subst hmm
    by_cases h0 : len = 0
    · exact ⟨fun _ => 0, Or.inl h0⟩
    have hone : ∀ i, i < m → ∃ k : Int, w.cell? (x.add i) = some (.int .u64 k) ∧ (Lit.int .u64 k).wf = true := by
      intro i hic
      obtain ⟨cs', hc, htr⟩ := hi i hic
      rw [show Try.prog.cellsOf 22 = 1 from by kernel_rfl] at hc
      obtain ⟨k, rfl, _, hwf⟩ := DataW.trod_int Try.underlying22 htr
      obtain ⟨_, hcl, hat⟩ := World.cells?_some hc
      have := hat 0 (by omega)
      rw [Go.Deep.add_add] at this
      exact ⟨k, by simpa using this, hwf⟩
    obtain ⟨b, off, spot⟩ := x
    have hsp : spot = none := by
      obtain ⟨k, hc0, _⟩ := hone 0 (by omega)
      have := World.cell?_spot hc0
      simpa [Addr.add] using this
    subst hsp
    have hb : b < w.heap.size := by
      obtain ⟨k, hc0, _⟩ := hone 0 (by omega)
      have := block_lt_of_cell hc0
      simpa [Addr.add] using this
    have hex : ∀ i, ∃ k : Int, i < len → w.cell? ⟨b, off + i, none⟩ = some (.int .u64 k) ∧ 0 ≤ k ∧ k < 18446744073709551616 := by
      intro i
      by_cases hi' : i < len
      · obtain ⟨k, hk, hw⟩ := hone i (by omega)
        rw [Addr.add_lit] at hk
        have := wf_u64 hw
        exact ⟨k, fun _ => ⟨hk, this.1, this.2⟩⟩
      · exact ⟨0, fun h => absurd h hi'⟩
    exact ⟨fun i => Classical.choose (hex i), Or.inr ⟨b, off, rfl, hb, fun i hi' => Classical.choose_spec (hex i) hi'⟩⟩

theorem histOrder_walk (a : Option Addr) (len cap : Nat) (w : World) (h : ∃ f, NumAt w a len f) : Calls Try.prog 5 #[.slice a len cap] w (Ret (.bool true) w) := by
  obtain ⟨f, hf⟩ := h
  by_cases h0 : 300 < len
  · exact histOrder_many a len cap w h0
  · exact histOrder_at a len cap f w (by omega) hf

theorem histAdds_walk (l : List Int) (v : Int) (w : World) (hl : l.length = 16) (w1 : (Lit.int .u64 v).wf = true) : Calls Try.prog 4 #[.agg (Hi.cells l), .int .u64 v] w (Ret (.bool true) w) := by
  obtain ⟨h0, h1⟩ := wf_u64 w1
  have hm := Hi.add_length hl (Hi.bk v.toNat)
  have C0 := Lib.hid (fun W => addC l hl v h0 h1 W)
  have C1 := Lib.hid (fun W => rightC l hl W)
  have C2 := Lib.hid (fun W => refRightC l hl W)
  have C3 := Lib.hid (fun W => refAddC l hl v h0 h1 W)
  have H4 := Lib.hid (fun hs => And.intro (fun W => totalC l hl hs W) (fun W => refTotalC l hl hs W))
  cases ho : Hi.ok l with
  | false =>
    rw [ho] at C1 C2
    rw [add_no ho] at C0 C3 hm
    have C6 := Lib.hid (fun W => rightC Hi.zeros hm W)
    rw [Hi.zeros_ok] at C6
    exact histAdds_false l Hi.zeros v _ _ hl hm w C0 C1 C2 C3 H4 C6 (Lib.hid (fun W => totalC Hi.zeros hm (Hi.small.wide (Hi.ok_iff.1 Hi.zeros_ok).1) W)) rfl
  | true =>
    rw [ho] at C1 C2
    obtain ⟨g1, g2⟩ := Hi.add_ok hl ho (Hi.bk_lt v.toNat)
    have C6 := Lib.hid (fun W => rightC _ hm W)
    rw [g1] at C6
    exact histAdds_true l _ v _ _ hl hm w C0 C1 C2 C3 H4 C6 (Lib.hid (fun W => totalC _ hm (Hi.small.wide (Hi.ok_iff.1 g1).1) W)) g2
end Go.Proofs.Ytnecdelmhfeneaa
