/-
  The program's wheel: New, Now, Len, At.
-/
import Derived.Test.YtmmfmpnkjienfaaWhI
namespace Go.Proofs.Ytmmfmpnkjienfaa
open Go.RowKit
set_option linter.unusedVariables false

/-- the cells of a wheel without elements -/
noncomputable def zeroW : Array Value := (((Try.prog.info? 73).bind (fun i => i.zero)).map Value.cells).getD #[]
theorem zeroW_size : zeroW.size = 258 := by kernel_rfl
def isNilMap : Option Value → Bool
  | some (.map none) => true
  | _ => false
theorem isNilMap_eq {v : Option Value} (h : isNilMap v = true) : v = some (.map none) := by
  unfold isNilMap at h
  split at h
  · rfl
  · cases h
theorem zeroW_all : (List.range 256).all (fun j => isNilMap zeroW[j + 2]?) = true := by kernel_rfl
theorem zeroW_at (j : Nat) (h : j < 256) : zeroW[j + 2]? = some (.map none) := isNilMap_eq (List.all_eq_true.1 zeroW_all j (List.mem_range.2 h))
theorem builtW (now : Int) (T : Nat) : Try.prog.built 73 [(0, .int .u64 now), (1, .map (some T))] = some ((zeroW.setIfInBounds 0 (.int .u64 now)).setIfInBounds 1 (.map (some T))) := by kernel_rfl
/-- the cells of a new wheel -/
structure NewCells (now : Int) (T : Nat) (cs : Array Value) : Prop where
  size : cs.size = 258
  c0 : cs[0]? = some (.int .u64 now)
  c1 : cs[1]? = some (.map (some T))
  cs : ∀ j, j < 256 → cs[j + 2]? = some (.map none)
theorem newCells (now : Int) (T : Nat) : NewCells now T ((zeroW.setIfInBounds 0 (.int .u64 now)).setIfInBounds 1 (.map (some T))) := by
  have hs := zeroW_size
  refine ⟨by simp [hs], ?_, ?_, fun j hj => ?_⟩
  · rw [Array.getElem?_setIfInBounds_ne (by omega), Array.getElem?_setIfInBounds_self_of_lt (by omega)]
  · rw [Array.getElem?_setIfInBounds_self_of_lt (by simp [hs])]
  · rw [Array.getElem?_setIfInBounds_ne (by omega), Array.getElem?_setIfInBounds_ne (by omega), zeroW_at j hj]
theorem wpBuildW (w : World) {ops : Array Oper} {rest : List Oper} {o : Oper} {a : Act} {Q : Exit → Act → World → Prop} (hg : o.guard = none) (x y : Operand) (ho : o.op = .build 73 #[(0, x), (1, y)])
    (now : Int) (T : Nat) (hx : a.eval x = .int .u64 now) (hy : a.eval y = .map (some T)) (hK : ∀ cs, NewCells now T cs → wpList Try.prog ops Q rest (a.put o.dst (.agg cs)) w) : wpList Try.prog ops Q (o :: rest) a w := by
  have e : (#[(0, x), (1, y)].map fun (p : Nat × Operand) => (p.1, a.eval p.2)).toList = [(0, .int .u64 now), (1, .map (some T))] := by simp [hx, hy]
  obtain ⟨cs, hcs, hb⟩ : ∃ cs, NewCells now T cs ∧ Try.prog.built 73 [(0, .int .u64 now), (1, .map (some T))] = some cs := ⟨_, newCells now T, builtW now T⟩
  refine wpList_build hg 73 _ ho ?_ ?_
  · rw [e, hb]; exact Option.isSome_some
  · rw [e, hb]
    exact hK cs hcs

set_option maxRecDepth 100000 in
set_option maxHeartbeats 400000 in
theorem newC (now : Int) (w : World) (B : Nat) (hn : (Lit.int .u64 now).wf = true) (hB : B ≤ w.heap.size) :
    Calls Try.prog 21 #[.int .u64 now] w fun e w' => ∃ P F, e = .returned (.pointer (some ⟨P, 0, none⟩)) ∧ WIs w' B P now [] F ∧ Below w.heap.size w w' ∧ ∀ k, F k → w.heap.size ≤ k := by
  have hmm := @run_makeMap Try.prog
  go_enter Try.func21, Try.ntmps21
  go_wp2_with (refine wpBuildW _ rfl _ _ rfl now w.heap.size rfl rfl ?_; intro cs hcs)
  go_ret
  have hT : (w.alloc (.map #[] 0)).heap.size = w.heap.size + 1 := by simp
  refine ⟨w.heap.size + 1, _, rfl, ⟨w.heap.size, fun _ => none, ?_, rfl⟩, ((Below.refl _ _).alloc (Nat.le_refl _) _).alloc (by simp) _, ?_⟩
  · refine { row := ⟨cs, ?_, hcs.size, hcs.c0, hcs.c1, hcs.cs⟩, tm := ?_, sm := fun j hj b hb => (by cases hb), sn := fun j hj _ => rfl, bP := by omega, bT := hB, bS := fun j hj b hb => (by cases hb), neT := fun j hj b hb => (by cases hb), inj := fun i hi j hj b hb => (by cases hb), now := hn, wf := fun e he => by simp at he }
    · have := heap_alloc_new (w.alloc (.map #[] 0)) (.cells cs 73)
      rwa [hT] at this
    · exact (MapE.made w).keep (Lib.alloc_old _ _ _ (by simp))
  · intro k hk
    rcases hk with rfl | rfl | ⟨j, hj, hb⟩
    · omega
    · omega
    · cases hb

/-- a call that only reads -/
theorem asks {r : Value} {B P : Nat} {n : Int} {l : List Wh.E} {F : Nat → Prop} {w w' : World} {e : Ending} (he : e = .returned r) (h : WIs w B P n l F) (hb : Below w.heap.size w w') : RetW WIs r B P n l F w e w' := by
  obtain ⟨T, sl, h, rfl⟩ := h
  exact ⟨he, ⟨_, ⟨T, sl, h.below hb, rfl⟩, fun k hk => Or.inl hk⟩, Chg.of_below hb⟩

set_option maxRecDepth 100000 in
theorem tickC (w : World) (B P : Nat) (now : Int) (l : List Wh.E) (F : Nat → Prop) (h : WIs w B P now l F) : Calls Try.prog 31 #[.pointer (some ⟨P, 0, none⟩)] w (RetW WIs (.int .u64 now) B P now l F w) := by
  have h' := Lib.hid h
  obtain ⟨T, sl, h, rfl⟩ := h
  have c0 := h.now0
  clear h
  go_enter Try.func31, Try.ntmps31
  go_wp2
  go_ret
  exact asks rfl h'.out (Below.refl _ _)

set_option maxRecDepth 100000 in
theorem lenC (w : World) (B P : Nat) (now : Int) (l : List Wh.E) (F : Nat → Prop) (h : WIs w B P now l F) : Calls Try.prog 30 #[.pointer (some ⟨P, 0, none⟩)] w (RetW WIs (.int .i64 (l.length : Int)) B P now l F w) := by
  have h' := Lib.hid h
  obtain ⟨T, sl, h, rfl⟩ := h
  have c1 := h.map1
  have hM := Lib.hid h.tm
  clear h
  go_enter Try.func30, Try.ntmps30
  go_wp2_with (at_len; refine wpLenE _ rfl _ _ rfl Try.underlying68 T l rfl hM.out ?_)
  go_ret
  exact asks rfl h'.out (Below.refl _ _)

/-- 'at, there := m[id]', by names -/
theorem wpLookN (w : World) {ops : Array Oper} {rest : List Oper} {o : Oper} {a : Act} {Q : Exit → Act → World → Prop} (hg : o.guard = none) (m x : Operand) (t : TypeId) (hop : o.op = Op.lookup t m x true) (ht : Try.prog.underlying t = some (.map 3 22))
    (b : Nat) (l : List Wh.E) (hm : a.eval m = .map (some b)) (hM : MapE w b l) (id : Int) (hx : a.eval x = .int .i64 id) (hid : (Lit.int .i64 id).wf = true) (u : Int) (v : Bool) (hu : (Wh.find l id).getD 0 = u) (hv : Wh.has l id = v)
    (hK : wpList Try.prog ops Q rest (a.put o.dst (.tuple #[.int .u64 u, .bool v])) w) : wpList Try.prog ops Q (o :: rest) a w := by
  subst hu hv
  exact wpLookE w hg m x t hop ht b l hm hM id hx hid hK

set_option maxRecDepth 100000 in
theorem atR (id : Int) (w : World) (B P : Nat) (now : Int) (l ls : List Wh.E) (T : Nat) (sl : Nat → Option Nat) (hid : (Lit.int .i64 id).wf = true) (h : WAt w B P now l ls T sl) :
    Calls Try.prog 27 #[.pointer (some ⟨P, 0, none⟩), .int .i64 id] w (Same (atV (Wh.find l id)) w) := by
  have c1 := h.map1
  have hM := Lib.hid h.tm
  have hI := Lib.hid hid
  clear h hid
  have e : atV (Wh.find l id) = .tuple #[.int .u64 ((Wh.find l id).getD 0), .bool (Wh.has l id)] := rfl
  rw [e]
  clear e
  obtain ⟨u, hu⟩ : ∃ u, (Wh.find l id).getD 0 = u := ⟨_, rfl⟩
  obtain ⟨v, hv⟩ : ∃ v, Wh.has l id = v := ⟨_, rfl⟩
  rw [hu, hv]
  have HU := Lib.hid hu; clear hu
  have HV := Lib.hid hv; clear hv
  go_enter Try.func27, Try.ntmps27
  go_wp2_with (at_lookup; refine wpLookN _ rfl _ _ _ rfl Try.underlying68 T l rfl hM.out id rfl hI.out u v HU.out HV.out ?_)
  go_ret2
  exact ⟨rfl, rfl⟩
theorem atC (id : Int) (w : World) (B P : Nat) (now : Int) (l : List Wh.E) (F : Nat → Prop) (hid : (Lit.int .i64 id).wf = true) (h : WIs w B P now l F) :
    Calls Try.prog 27 #[.pointer (some ⟨P, 0, none⟩), .int .i64 id] w (RetW WIs (atV (Wh.find l id)) B P now l F w) := by
  have h' := h
  obtain ⟨T, sl, h, rfl⟩ := h
  refine (atR id w B P now l l T sl hid h).mono ?_
  rintro e w' ⟨rfl, rfl⟩
  exact asks rfl h' (Below.refl _ _)
end Go.Proofs.Ytmmfmpnkjienfaa
