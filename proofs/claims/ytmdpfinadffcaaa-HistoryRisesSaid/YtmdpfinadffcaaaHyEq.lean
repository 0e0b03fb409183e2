/-
  Two histograms compared; a key with a histogram equals itself.
-/
import Derived.Test.YtmdpfinadffcaaaHyRow
import Derived.ChangeKeysEq
import Derived.Laws.StructEq
namespace Go.Proofs.Ytmdpfinadffcaaa
open Go.RowKit
set_option linter.unusedVariables false

noncomputable def infoI : TypeInfo := (Try.prog.info? 3).getD default
theorem infoI_is : Try.prog.info? 3 = some infoI := by kernel_rfl
theorem cellsI : Try.prog.cellsOf 3 = 1 := by kernel_rfl
theorem eqItems_is (d : Nat) {l m : List Int} (hl : l.length = 16) (hm : m.length = 16) (w : World) : ∀ (is : List Nat), (∀ i ∈ is, i < 16) →
    (Op.eqItems (d + 1) 3 1 (Hi.cells l) (Hi.cells m) is).run Try.prog w = .ok (is.all (fun i => l.getD i 0 == m.getD i 0)) w
  | [], _ => by simp [Op.eqItems]
  | i :: is, h => by
    have hi : i < 16 := h i (by simp)
    have ih := eqItems_is d hl hm w is (fun j hj => h j (by simp [hj]))
    have h1 := Hi.cells_get (l := l) (k := i) (by omega)
    have h2 := Hi.cells_get (l := m) (k := i) (by omega)
    have p1 : (part 3 (Hi.cells l) (i * 1)).run Try.prog w = .ok (.int .i64 (l.getD i 0)) w := by simp [part, Try.isAgg3, h1]
    have p2 : (part 3 (Hi.cells m) (i * 1)).run Try.prog w = .ok (.int .i64 (m.getD i 0)) w := by simp [part, Try.isAgg3, h2]
    have p3 := run_equalIn_int w d 3 .i64 .i64 (l.getD i 0) (m.getD i 0) Try.underlying3
    simp only [Op.eqItems, Sem.run_bind, p1, p2, p3, Result.andThen_ok, List.all_cons]
    cases hb : (l.getD i 0 == m.getD i 0) with
    | true => simpa using ih
    | false => simp
theorem all_same {l m : List Int} (hl : l.length = 16) (hm : m.length = 16) : (List.range 16).all (fun i => l.getD i 0 == m.getD i 0) = decide (l = m) := by
  by_cases h : l = m
  · subst h; simp
  · rw [decide_eq_false h, Bool.eq_false_iff]
    intro ha
    refine h (List.ext_getElem (hl.trans hm.symm) fun i h1 h2 => ?_)
    have := List.all_eq_true.1 ha i (List.mem_range.2 (by omega))
    simpa [List.getD_eq_getElem?_getD, List.getElem?_eq_getElem h1, List.getElem?_eq_getElem h2] using this
theorem run_eqH (d : Nat) {l m : List Int} (hl : l.length = 16) (hm : m.length = 16) (w : World) : (Op.equalIn (d + 2) 49 (.agg (Hi.cells l)) (.agg (Hi.cells m))).run Try.prog w = .ok (decide (l = m)) w := by
  rw [run_equalIn_array w (d + 1) (Hi.cells l) (Hi.cells m) Try.underlying49 infoI_is, cellsI, eqItems_is d hl hm w _ (fun i hi => List.mem_range.1 hi), all_same hl hm]
/-- as a walk meets it -/
theorem run_eqV (u v : Lr.V) (w : World) : (Op.equalIn 10000 49 (.agg (Hi.cells u.1)) (.agg (Hi.cells v.1))).run Try.prog w = .ok (decide (u = v)) w := by
  rw [show (10000 : Nat) = 9998 + 2 from rfl, run_eqH 9998 u.2 v.2]
  congr 1
  simp [Subtype.ext_iff]
theorem fieldsR : Try.prog.underlying 58 = some (.struct (Try.prog.fieldsOf 58)) := by kernel_rfl
theorem stoodR : Try.prog.stoodInHeld 58 = false := by kernel_rfl
noncomputable def fR (i : Nat) : Field := (Try.prog.fieldsOf 58).toList.getD i default
theorem fR_len : (Try.prog.fieldsOf 58).toList.length = 2 := by kernel_rfl
theorem fR_is : (Try.prog.fieldsOf 58).toList = [fR 0, fR 1] := by
  have h := fR_len
  unfold fR
  generalize (Try.prog.fieldsOf 58).toList = fs at *
  cases fs with
  | nil => cases h
  | cons f fs =>
    cases fs with
    | nil => cases h
    | cons g fs =>
      cases fs with
      | nil => rfl
      | cons _ _ => simp at h
theorem fR_n0 : ((fR 0).name == "_") = false := by kernel_rfl
theorem fR_n1 : ((fR 1).name == "_") = false := by kernel_rfl
theorem fR_t0 : (fR 0).type = 9 := by kernel_rfl
theorem fR_t1 : (fR 1).type = 49 := by kernel_rfl
theorem fR_o0 : (fR 0).offset = 0 := by kernel_rfl
theorem fR_o1 : (fR 1).offset = 1 := by kernel_rfl
theorem isAggH : Try.prog.info? 49 ≠ none := by intro h; have := infoH; simp [h] at this
theorem ent_extract (k : ByteArray) (v : Lr.V) : (entC k v).extract 1 (1 + 16) = Hi.cells v.1 := by
  apply Array.ext_getElem?
  intro i
  rw [Array.getElem?_extract, entC_at]
  have h16 : (Hi.cells v.1).size = 16 := by rw [Hi.cells_size, v.2]
  have h17 := entC_size k v
  split
  · rfl
  · rw [Array.getElem?_eq_none (by omega)]
theorem partKey (k : ByteArray) (v : Lr.V) (w : World) : (part 9 (entC k v) 0).run Try.prog w = .ok (.string k) w := by
  have h := entC_key k v
  have ha : (isAgg 9).run Try.prog w = .ok false w := by simp [isAgg, run_underlying Try.underlying9]
  simp [part, ha, h]
theorem partHist (k : ByteArray) (v : Lr.V) (w : World) : (part 49 (entC k v) 1).run Try.prog w = .ok (.agg (Hi.cells v.1)) w := by
  have ha : (isAgg 49).run Try.prog w = .ok true w := by simp [isAgg, run_underlying Try.underlying49]
  cases hq : Try.prog.info? 49 with
  | none => exact absurd hq isAggH
  | some i =>
    have h16 : i.size = 16 := by have := infoH; simpa [hq] using this
    simp [part, ha, sizeOf, typeInfo, hq, h16, ent_extract]
theorem sameKey (d : Nat) (k : ByteArray) (w : World) : (Op.equalIn (d + 1) 9 (.string k) (.string k)).run Try.prog w = .ok true w := by
  rw [run_equalIn_string w d 9 k k Try.underlying9]
  simp
theorem sameKey2 (d : Nat) (k : ByteArray) (w : World) : (Op.equalIn (d + 2) 9 (.string k) (.string k)).run Try.prog w = .ok true w := by
  rw [show d + 2 = (d + 1) + 1 from rfl]
  exact sameKey (d + 1) k w
theorem sameHist (d : Nat) (v : Lr.V) (w : World) : (Op.equalIn (d + 2) 49 (.agg (Hi.cells v.1)) (.agg (Hi.cells v.1))).run Try.prog w = .ok true w := by
  rw [run_eqH d v.2 v.2]
  simp
theorem eqFields_same (D : Nat) (xs : Array Value) (f : Field) (fs : List Field) (w : World) (a : Value) (hn : f.name ≠ "_") (hp : (part f.type xs f.offset).run Try.prog w = .ok a w) (he : (Op.equalIn D f.type a a).run Try.prog w = .ok true w) :
    (Op.eqFields D xs xs (f :: fs)).run Try.prog w = (Op.eqFields D xs xs fs).run Try.prog w := by
  rw [Op.eqFields, if_pos hn, Sem.run_bind, hp, Result.andThen_ok, Sem.run_bind, hp, Result.andThen_ok, Sem.run_bind, he, Result.andThen_ok]
  rfl
theorem eqFields_nil (D : Nat) (xs : Array Value) (w : World) : (Op.eqFields D xs xs []).run Try.prog w = .ok true w := by
  rw [Op.eqFields]
  exact Sem.run_pure _ _ _
theorem sameFields (d : Nat) (k : ByteArray) (v : Lr.V) (w : World) (f g : Field) (n0 : (f.name == "_") = false) (n1 : (g.name == "_") = false) (t0 : f.type = 9) (t1 : g.type = 49) (o0 : f.offset = 0) (o1 : g.offset = 1) :
    (Op.eqFields (d + 2) (entC k v) (entC k v) [f, g]).run Try.prog w = .ok true w := by
  have m0 : f.name ≠ "_" := by simpa using n0
  have m1 : g.name ≠ "_" := by simpa using n1
  have e1 := sameKey2 d k w
  have e2 := sameHist d v w
  have p1 := partKey k v w
  have p2 := partHist k v w
  generalize d + 2 = D at *
  rw [← t0, ← o0] at p1
  rw [← t1, ← o1] at p2
  rw [← t0] at e1
  rw [← t1] at e2
  rw [eqFields_same D _ f [g] w _ m0 p1 e1, eqFields_same D _ g [] w _ m1 p2 e2]
  exact eqFields_nil D _ w
theorem sameRowD (d : Nat) (k : ByteArray) (v : Lr.V) (w : World) : (Op.equalIn (d + 3) 58 (.agg (entC k v)) (.agg (entC k v))).run Try.prog w = .ok true w := by
  rw [run_equalIn_agg w (d + 2) 58 _ _ fieldsR stoodR, fR_is]
  exact sameFields d k v w _ _ fR_n0 fR_n1 fR_t0 fR_t1 fR_o0 fR_o1
theorem run_sameRow (k : ByteArray) (v : Lr.V) (w : World) : (Op.equalIn 10000 58 (.agg (entC k v)) (.agg (entC k v))).run Try.prog w = .ok true w := sameRowD 9997 k v w
end Go.Proofs.Ytmdpfinadffcaaa
