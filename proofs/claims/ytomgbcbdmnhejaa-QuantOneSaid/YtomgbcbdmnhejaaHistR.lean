/-
  What comes in as a histogram by value.
-/
import Derived.Test.YtomgbcbdmnhejaaHistMath
import Derived.Test.YtomgbcbdmnhejaaBase
import Derived.ChangeSame
import Derived.OpenShut
import Derived.Deep.Slices
import Derived.Deep.Fields
namespace Go.Proofs.Ytomgbcbdmnhejaa
open Go.RowKit Go.ChangeShapes Go.WideShapes Go.Deep
set_option linter.unusedVariables false

/-- a histogram as it comes in: 16 integers -/
theorem hist_of {H : Type} {enc : TypeId × Value → H} {w : World} {r : Reach} {b0 : Nat} {v : Value} {d : DataW H} {p : List MemPlace} (hv : Value.okWide Try.prog w r b0 23 v)
    (h : DataW.Trod enc Try.prog w 0 (fun _ => true) true 23 v d p) : ∃ l : List Int, v = .agg (Hi.cells l) ∧ l.length = 16 := by
  obtain ⟨cs, rfl, hsz, _⟩ : ∃ cs, v = .agg cs ∧ cs.size = Try.prog.cellsOf 23 ∧ Row.okWide Try.prog w r b0 23 cs := by
    simpa [Value.okWide, Try.underlying23] using hv
  rw [show Try.prog.cellsOf 23 = 16 from by kernel_rfl] at hsz
  obtain ⟨fuel, hf⟩ := h
  obtain ⟨xs, m, _, _, _, hxl, hfd⟩ := DataW.trod_array Try.underlying23 hf
  have hone : ∀ i (h : i < cs.toList.length), ∃ k : Int, cs.toList[i] = .int .i64 k := by
    intro i hi
    have hi16 : i < 16 := by rw [Array.length_toList, hsz] at hi; exact hi
    have h1 := hfd i hi16
    rw [show Try.prog.cellsOf 3 = 1 from by kernel_rfl, Nat.mul_one, List.getElem?_eq_getElem (by omega)] at h1
    have e : ((Value.agg cs).cells.toList.drop i).take 1 = [cs.toList[i]] := by
      show (cs.toList.drop i).take 1 = _
      rw [List.drop_eq_getElem_cons hi]
      rfl
    rw [e] at h1
    obtain ⟨k, hk, _, _⟩ := DataW.trod_int Try.underlying3 h1
    exact ⟨k, by simpa using hk⟩
  refine ⟨cs.toList.map intOf, ?_, by simp [hsz]⟩
  congr 1
  apply Array.ext'
  unfold Hi.cells
  rw [List.map_map]
  show cs.toList = cs.toList.map _
  refine List.ext_getElem (by simp) fun i h1 h2 => ?_
  obtain ⟨k, hk⟩ := hone i h1
  rw [List.getElem_map, hk]
  rfl
end Go.Proofs.Ytomgbcbdmnhejaa
