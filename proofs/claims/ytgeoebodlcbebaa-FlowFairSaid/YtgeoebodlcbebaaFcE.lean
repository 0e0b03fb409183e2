/-
  The law FlowFair: what comes in, the walk.
-/
import Derived.Test.YtgeoebodlcbebaaFcD
import Derived.ChangeSame
import Derived.OpenShut
import Derived.Deep.Slices
import Derived.Deep.Fields
namespace Go.Proofs.Ytgeoebodlcbebaa
open Go.RowKit Go.ChangeShapes Go.WideShapes Go.Deep
set_option linter.unusedVariables false
set_option linter.unusedSimpArgs false

set_option maxRecDepth 100000 in
/-- four weights as they come in -/
theorem w4_of {H : Type} {enc : TypeId × Value → H} {w : World} {r : Reach} {b0 : Nat} {v : Value} {d : DataW H} {p : List MemPlace} (hv : Value.okWide Try.prog w r b0 39 v)
    (h : DataW.Trod enc Try.prog w 0 (fun _ => true) true 39 v d p) : ∃ wt : Nat → Int, v = .agg (w4 wt) ∧ True := by
  obtain ⟨cs, rfl, hsz, _⟩ : ∃ cs, v = .agg cs ∧ cs.size = Try.prog.cellsOf 39 ∧ Row.okWide Try.prog w r b0 39 cs := by
    simpa [Value.okWide, Try.underlying39] using hv
  rw [show Try.prog.cellsOf 39 = 4 from by kernel_rfl] at hsz
  obtain ⟨fuel, hf⟩ := h
  obtain ⟨xs, m, _, _, _, hxl, hfd⟩ := DataW.trod_array Try.underlying39 hf
  have hone : ∀ i (h : i < cs.toList.length), ∃ k : Int, cs.toList[i] = .int .i64 k := by
    intro i hi
    have hi4 : i < 4 := by rw [Array.length_toList, hsz] at hi; exact hi
    have h1 := hfd i hi4
    rw [show Try.prog.cellsOf 3 = 1 from by kernel_rfl, Nat.mul_one, List.getElem?_eq_getElem (by omega)] at h1
    have e : ((Value.agg cs).cells.toList.drop i).take 1 = [cs.toList[i]] := by
      show (cs.toList.drop i).take 1 = _
      rw [List.drop_eq_getElem_cons hi]
      rfl
    rw [e] at h1
    obtain ⟨k, hk, _, _⟩ := DataW.trod_int Try.underlying3 h1
    exact ⟨k, by simpa using hk⟩
  have hl : cs.toList.length = 4 := by rw [Array.length_toList, hsz]
  refine ⟨fun i => intOf (cs.toList.getD i undef), ?_, trivial⟩
  congr 1
  apply Array.ext'
  refine List.ext_getElem (by rw [hl]; rfl) fun i h1 h2 => ?_
  obtain ⟨k, hk⟩ := hone i h1
  have hg : intOf (cs.toList.getD i undef) = k := by
    rw [List.getD_eq_getElem?_getD, List.getElem?_eq_getElem h1, hk]; rfl
  rw [hk]
  have hi4 : i < 4 := by omega
  have hw := w4_at (fun i => intOf (cs.toList.getD i undef)) hi4
  have h3 : (w4 (fun i => intOf (cs.toList.getD i undef))).toList[i]? = some (.int .i64 k) := by
    rw [Array.getElem?_toList, hw, hg]
  rw [List.getElem?_eq_getElem h2] at h3
  exact (Option.some.inj h3).symm
set_option maxRecDepth 100000 in
theorem fair_nil (q : Int) (wt : Nat → Int) (a : Option Addr) (len cap : Nat) (w : World) (h : ¬ (1 ≤ q ∧ q ≤ 64)) : Calls Try.prog 4 #[.int .i64 q, .agg (w4 wt), .slice a len cap] w (Ret (.bool true) w) := by
  have K0 := Lib.hid (flNewNil q (w.alloc (box4 wt)) h)
  have KL := Lib.hid (fun W => liveOk W)
  have HB := Lib.hid (show Below w.heap.size w (w.alloc (box4 wt)) from (Below.refl _ _).alloc (Nat.le_refl _) _)
  by_cases hl : 150 < len
  · clear h
    go_enter Try.func4, Try.ntmps4
    go_wp2_with (first | (go_at_call 7; (with_reducible refine K0.out.mono ?_); rintro e wA ⟨rfl, rfl⟩) | (go_at_call 8; (with_reducible refine (KL.out _).mono ?_); rintro e wB ⟨rfl, hB⟩))
    go_ret
    exact ⟨rfl, HB.out.trans (hB.mono HB.out.size)⟩
  · clear h
    go_enter Try.func4, Try.ntmps4
    go_wp2_with (first | (go_at_call 7; (with_reducible refine K0.out.mono ?_); rintro e wA ⟨rfl, rfl⟩) | (go_at_call 8; (with_reducible refine (KL.out _).mono ?_); rintro e wB ⟨rfl, hB⟩))
    go_ret
    exact ⟨rfl, HB.out.trans (hB.mono HB.out.size)⟩
set_option maxRecDepth 100000 in
theorem fair_many (q : Int) (wt : Nat → Int) (a : Option Addr) (len cap : Nat) (w : World) (h1 : 1 ≤ q) (h2 : q ≤ 64) (hl : 150 < len) : Calls Try.prog 4 #[.int .i64 q, .agg (w4 wt), .slice a len cap] w (Ret (.bool true) w) := by
  have hb0 : Below w.heap.size w (w.alloc (box4 wt)) := (Below.refl _ _).alloc (Nat.le_refl _) _
  have K0 := Lib.hid ((flNewC q (w.alloc (box4 wt)) h1 h2).mono (R' := fun e w' => ∃ P, e = .returned (.pointer (some ⟨P, 0, none⟩)) ∧ Hid (Below w.heap.size w w')) fun e w' hr => by
    obtain ⟨P, F, h, _⟩ := hr.s
    exact ⟨P, h, Lib.hid (hb0.trans (hr.b.mono hb0.size))⟩)
  have KL := Lib.hid (fun W => liveOk W)
  clear h1 h2 hb0
  go_enter Try.func4, Try.ntmps4
  go_wp2_with (first | (go_at_call 7; (with_reducible refine K0.out.mono ?_); rintro e wA ⟨P, rfl, hA⟩) | (go_at_call 8; (with_reducible refine (KL.out _).mono ?_); rintro e wB ⟨rfl, hB⟩))
  go_ret
  exact ⟨rfl, hA.out.trans (hB.mono hA.out.size)⟩
theorem flowFair_walk (q : Int) (wt : Nat → Int) (a : Option Addr) (len cap : Nat) (w : World) (_ : (Lit.int .i64 q).wf = true) (_ : True) (h : ∃ t, ActAt w a len t) : Calls Try.prog 4 #[.int .i64 q, .agg (w4 wt), .slice a len cap] w (Ret (.bool true) w) := by
  by_cases hq : 1 ≤ q ∧ q ≤ 64
  · by_cases h1 : 150 < len
    · exact fair_many q wt a len cap w hq.1 hq.2 h1
    · obtain ⟨t, ht⟩ := h
      exact fair_at q wt a len cap t w hq.1 hq.2 (by omega) ht
  · exact fair_nil q wt a len cap w hq
end Go.Proofs.Ytgeoebodlcbebaa
