/-
  A map of numbers to ticks as a list of elements, in no order; its operations; a range over it.
-/
import Derived.Test.YtmmfmpnkjienfaaWhZ
import Derived.Maps.RangeWalk
import Derived.Maps.Ext
import Derived.Maps.OwnOps
import Derived.WalkKit
namespace Go.Proofs.Ytmmfmpnkjienfaa
open Go.RowKit
set_option linter.unusedVariables false

theorem intKeyed : Maps.Keyed Try.prog 3 := Maps.int_keyed Try.underlying3
/-- the key of a number, what a tick reads as -/
abbrev keyL (id : Int) : Lit := .int .i64 id
abbrev tickD (a : Int) : DataW Unit := .lit (.int .u64 a)
/-- a datum holds just these elements -/
structure Holds (D : DataW Unit) (l : List Wh.E) : Prop where
  tidy : Maps.Tidy D
  size : Maps.size D = l.length
  back : ∀ kl, Maps.has D kl = true → ∃ e ∈ l, kl = keyL e.1
  has : ∀ e ∈ l, Maps.has D (keyL e.1) = true
  at_ : ∀ e ∈ l, ∀ z, D.atKey (keyL e.1) z = tickD e.2
theorem isKey (id : Int) : WideAt.IsKeyLit (keyL id) := trivial
theorem Holds.nil : Holds (.map []) [] := ⟨Maps.tidy_empty, rfl, fun _ h => (by cases h), fun _ h => (by cases h), fun _ h => (by cases h)⟩
theorem Holds.perm {D : DataW Unit} {l m : List Wh.E} (h : Holds D l) (hp : l.Perm m) : Holds D m :=
  ⟨h.tidy, h.size.trans hp.length_eq, fun kl hk => by obtain ⟨e, he, r⟩ := h.back kl hk; exact ⟨e, hp.mem_iff.1 he, r⟩, fun e he => h.has e (hp.mem_iff.2 he), fun e he => h.at_ e (hp.mem_iff.2 he)⟩
theorem keyL_inj {a b : Int} (h : keyL a = keyL b) : a = b := by cases h; rfl
theorem Holds.has_eq {D : DataW Unit} {l : List Wh.E} (h : Holds D l) (id : Int) : Maps.has D (keyL id) = Wh.has l id := by
  cases hf : Wh.find l id with
  | none =>
    have : Wh.has l id = false := by simp [Wh.has, hf]
    rw [this]
    cases hh : Maps.has D (keyL id) with
    | false => rfl
    | true =>
      obtain ⟨e, he, hk⟩ := h.back _ hh
      exact absurd (keyL_inj hk).symm (Wh.find_none.1 hf e he)
  | some a =>
    have : Wh.has l id = true := by simp [Wh.has, hf]
    rw [this]
    exact h.has (id, a) (Wh.find_mem hf)
theorem Holds.at_eq {D : DataW Unit} {l : List Wh.E} (h : Holds D l) (id : Int) : D.atKey (keyL id) (tickD 0) = tickD ((Wh.find l id).getD 0) := by
  cases hf : Wh.find l id with
  | none =>
    have hh : Maps.has D (keyL id) = false := by rw [h.has_eq]; simp [Wh.has, hf]
    exact Maps.atKey_of_not_has hh _
  | some a => exact h.at_ (id, a) (Wh.find_mem hf) _
theorem Holds.put {D : DataW Unit} {l : List Wh.E} (h : Holds D l) (id a : Int) (hn : Wh.find l id = none) : Holds (D.put (keyL id) (tickD a)) (l ++ [(id, a)]) := by
  have hh : Maps.has D (keyL id) = false := by rw [h.has_eq]; simp [Wh.has, hn]
  have ho : ∀ e ∈ l, keyL e.1 ≠ keyL id := fun e he hk => Wh.find_none.1 hn e he (keyL_inj hk)
  refine ⟨h.tidy.put (isKey id) _, ?_, fun kl hk => ?_, fun e he => ?_, fun e he z => ?_⟩
  · rw [Maps.size_put h.tidy, hh, h.size]; simp
  · by_cases e : kl = keyL id
    · exact ⟨(id, a), by simp, e⟩
    · rw [Maps.has_put_other e] at hk
      obtain ⟨x, hx, r⟩ := h.back kl hk
      exact ⟨x, by simp [hx], r⟩
  · rcases List.mem_append.1 he with he | he
    · rw [Maps.has_put_other (ho e he)]; exact h.has e he
    · obtain rfl : e = (id, a) := by simpa using he
      exact Maps.has_put_same h.tidy.isMap (isKey id) _
  · rcases List.mem_append.1 he with he | he
    · rw [Maps.atKey_put_other (ho e he)]; exact h.at_ e he z
    · obtain rfl : e = (id, a) := by simpa using he
      exact Maps.atKey_put_same h.tidy.isMap (isKey id) _ _
theorem without_length {l : List Wh.E} (hn : (l.map (·.1)).Nodup) (id : Int) : (Wh.without l id).length + (if Wh.has l id then 1 else 0) = l.length := by
  induction l with
  | nil => rfl
  | cons e r ih =>
    rw [List.map_cons, List.nodup_cons] at hn
    have ih := ih hn.2
    have e1 : Wh.without (e :: r) id = if e.1 = id then Wh.without r id else e :: Wh.without r id := by
      unfold Wh.without
      by_cases h : e.1 = id <;> simp [h]
    have e2 : Wh.has (e :: r) id = if e.1 = id then true else Wh.has r id := by
      unfold Wh.has
      rw [Wh.find]
      by_cases h : e.1 = id <;> simp [h]
    rw [e1, e2]
    by_cases h : e.1 = id
    · have hr : Wh.find r id = none := Wh.find_none.2 (fun x hx hxe => hn.1 (List.mem_map.2 ⟨x, hx, by rw [hxe, h]⟩))
      have hr2 : Wh.has r id = false := by simp [Wh.has, hr]
      rw [hr2] at ih
      simp [h] at ih ⊢
      exact ih
    · simp [h] at ih ⊢
      omega
theorem Holds.del {D : DataW Unit} {l : List Wh.E} (h : Holds D l) (hn : (l.map (·.1)).Nodup) (id : Int) : Holds (D.del (keyL id)) (Wh.without l id) := by
  refine ⟨h.tidy.del _, ?_, fun kl hk => ?_, fun e he => ?_, fun e he z => ?_⟩
  · have h1 := Maps.size_del h.tidy (k := keyL id)
    have h2 := without_length hn id
    rw [h.has_eq, h.size] at h1
    omega
  · by_cases e : kl = keyL id
    · rw [e, Maps.has_del_same] at hk; cases hk
    · rw [Maps.has_del_other e] at hk
      obtain ⟨x, hx, r⟩ := h.back kl hk
      exact ⟨x, List.mem_filter.2 ⟨hx, by simpa using fun e2 => e (by rw [r, e2])⟩, r⟩
  · obtain ⟨h1, h2⟩ := List.mem_filter.1 he
    rw [Maps.has_del_other (fun e2 => by simp at h2; exact h2 (keyL_inj e2))]
    exact h.has e h1
  · obtain ⟨h1, h2⟩ := List.mem_filter.1 he
    rw [Maps.atKey_del_other (fun e2 => by simp at h2; exact h2 (keyL_inj e2))]
    exact h.at_ e h1 z

/-- block b is the map of these elements -/
def MapE (w : World) (b : Nat) (l : List Wh.E) : Prop := ∃ D, w.ownsMap Try.prog 3 (plainElem Try.prog 22) b l.length D ∧ Holds D l
theorem MapE.lt {w : World} {b : Nat} {l : List Wh.E} (h : MapE w b l) : b < w.heap.size := by obtain ⟨D, h, _⟩ := h; exact h.lt
theorem MapE.keep {w w' : World} {b : Nat} {l : List Wh.E} (h : MapE w b l) (hk : w'.heap[b]? = w.heap[b]?) : MapE w' b l := by
  obtain ⟨D, ⟨es, clock, hm, r⟩, hD⟩ := h
  exact ⟨D, ⟨es, clock, hk.trans hm, r⟩, hD⟩
theorem MapE.perm {w : World} {b : Nat} {l m : List Wh.E} (h : MapE w b l) (hp : l.Perm m) : MapE w b m := by
  obtain ⟨D, h1, hD⟩ := h
  exact ⟨D, hp.length_eq ▸ h1, hD.perm hp⟩
theorem MapE.made (w : World) : MapE (w.alloc (.map #[] 0)) w.heap.size [] := ⟨_, World.ownsMap_made w _ _ _, Holds.nil⟩
theorem key_mkE (id : Int) (h : (Lit.int .i64 id).wf = true) : keyOf Try.prog 3 (.int .i64 id) = some (keyL id) := Maps.keyOf_int_mk Try.underlying3 h
theorem tight {w : World} {b n : Nat} {D : DataW Unit} (h : w.ownsMap Try.prog 3 (plainElem Try.prog 22) b n D) : w.ownsMap Try.prog 3 (plainElem Try.prog 22) b (Maps.size D) D := by
  obtain ⟨es, clock, hb, F, hs, rfl⟩ := h
  exact ⟨es, clock, hb, F, by simp [Maps.size, length_sorted], rfl⟩

section
variable (w : World) {ops : Array Oper} {rest : List Oper} {o : Oper} {a : Act} {Q : Exit → Act → World → Prop}
/-- 'at, there := m[id]' -/
theorem wpLookE (hg : o.guard = none) (m x : Operand) (t : TypeId) (hop : o.op = Op.lookup t m x true) (ht : Try.prog.underlying t = some (.map 3 22))
    (b : Nat) (l : List Wh.E) (hm : a.eval m = .map (some b)) (hM : MapE w b l) (id : Int) (hx : a.eval x = .int .i64 id) (hid : (Lit.int .i64 id).wf = true)
    (hK : wpList Try.prog ops Q rest (a.put o.dst (.tuple #[.int .u64 ((Wh.find l id).getD 0), .bool (Wh.has l id)])) w) :
    wpList Try.prog ops Q (o :: rest) a w := by
  obtain ⟨D, hD, hH⟩ := hM
  refine wpList_lookup_own_ok_int _ hg m x t hop 3 22 .u64 intKeyed ht Try.underlying22 (Try.zeroValue22 w) b _ _ hm hD _ _ hx (key_mkE id hid) ?_
  intro c hc _
  rw [hH.at_eq] at hc
  rw [hH.has_eq]
  cases hc
  exact hK
/-- 'm[id] = at' -/
theorem wpPutE (hg : o.guard = none) (m x v : Operand) (t : TypeId) (hop : o.op = Op.mapUpdate t m x v) (ht : Try.prog.underlying t = some (.map 3 22))
    (b : Nat) (l : List Wh.E) (hm : a.eval m = .map (some b)) (hM : MapE w b l) (id at_ : Int) (hx : a.eval x = .int .i64 id) (hv : a.eval v = .int .u64 at_) (hid : (Lit.int .i64 id).wf = true) (hat : (Lit.int .u64 at_).wf = true)
    (hl : l.length ≤ 1000000) (hn : Wh.find l id = none)
    (hK : ∀ w', MapE w' b (l ++ [(id, at_)]) → Chg (fun k => k = b) w w' → w'.heap.size = w.heap.size → wpList Try.prog ops Q rest (a.put o.dst undef) w') :
    wpList Try.prog ops Q (o :: rest) a w := by
  obtain ⟨D, hD, hH⟩ := hM
  refine wpList_mapUpdate_in _ hg m x v t hop 3 22 intKeyed ht (plainElem Try.prog 22) b _ _ hm hD (by unfold maxLen; omega) _ _ _ hx hv (key_mkE id hid) (tickD at_) [] (plainElem_int Try.underlying22 hat) ?_
  intro w' h1 h2
  have hg2 := h2.grown
  obtain ⟨es, clock, es', clock', hb, rfl⟩ := h2
  refine hK _ ⟨_, by simpa using h1, hH.put id at_ hn⟩ ⟨hg2.os, hg2.tape, hg2.output, hg2.size, fun k hk hne => hg2.block k hk (fun e => hne (by cases e; rfl))⟩ (by simp [ChangeMaps.setBlock])
/-- 'delete(m, id)' -/
theorem wpDelE (hg : o.guard = none) (m x : Operand) (t : TypeId) (hop : o.op = Op.call { callee := Callee.builtin Builtin.delete, args := #[m, x], argTypes := #[t, 3] }) (ht : Try.prog.underlying t = some (.map 3 22))
    (b : Nat) (l : List Wh.E) (hm : a.eval m = .map (some b)) (hM : MapE w b l) (id : Int) (hx : a.eval x = .int .i64 id) (hid : (Lit.int .i64 id).wf = true) (hn : (l.map (·.1)).Nodup)
    (hK : ∀ w', MapE w' b (Wh.without l id) → Chg (fun k => k = b) w w' → w'.heap.size = w.heap.size → wpList Try.prog ops Q rest (a.put o.dst (.tuple #[])) w') :
    wpList Try.prog ops Q (o :: rest) a w := by
  obtain ⟨D, hD, hH⟩ := hM
  refine wpList_delete_own _ hg m x t _ hop 22 intKeyed ht (plainElem Try.prog 22) b _ _ hm hD _ _ hx (key_mkE id hid) ?_
  intro w' h1 h2
  have hg2 := h2.grown
  obtain ⟨es, clock, es', clock', hb, rfl⟩ := h2
  have hH2 := hH.del hn id
  refine hK _ ⟨_, hH2.size ▸ tight h1, hH2⟩ ⟨hg2.os, hg2.tape, hg2.output, hg2.size, fun k hk hne => hg2.block k hk (fun e => hne (by cases e; rfl))⟩ (by simp [ChangeMaps.setBlock])
/-- 'len(m)' -/
theorem wpLenE (hg : o.guard = none) (m : Operand) (t : TypeId) (hop : o.op = Op.call { callee := Callee.builtin Builtin.len, args := #[m], argTypes := #[t] }) (ht : Try.prog.underlying t = some (.map 3 22))
    (b : Nat) (l : List Wh.E) (hm : a.eval m = .map (some b)) (hM : MapE w b l)
    (hK : wpList Try.prog ops Q rest (a.put o.dst (.int .i64 (l.length : Int))) w) :
    wpList Try.prog ops Q (o :: rest) a w := by
  obtain ⟨D, hD, hH⟩ := hM
  refine wpList_len_own _ hg m t hop 3 22 ht (plainElem Try.prog 22) b _ _ hm hD ?_
  rw [hH.size]
  exact hK
end

/-- a range over the map in block b, by the iterator r: xs have come, cnt are left -/
def RangeE (w : World) (b r : Nat) (l xs : List Wh.E) (cnt : Nat) : Prop :=
  ∃ D left todo, w.ranges Try.prog 3 (plainElem Try.prog 22) b r l.length D left cnt ∧ Holds D l ∧ (l.map (·.1)).Nodup ∧ (xs ++ todo).Perm l ∧ (∀ e ∈ todo, left (keyL e.1) = true) ∧ (∀ id, left (keyL id) = true → ∃ e ∈ todo, e.1 = id)
theorem RangeE.map {w : World} {b r cnt : Nat} {l xs : List Wh.E} (h : RangeE w b r l xs cnt) : MapE w b l := by
  obtain ⟨D, left, todo, h1, h2, _⟩ := h
  exact ⟨D, h1.owns, h2⟩
theorem RangeE.left_eq {w : World} {b r cnt : Nat} {l xs : List Wh.E} (h : RangeE w b r l xs cnt) : w.rangeLeft b r = cnt := by
  obtain ⟨D, left, todo, h1, _⟩ := h
  exact h1.left_eq
theorem RangeE.lt {w : World} {b r cnt : Nat} {l xs : List Wh.E} (h : RangeE w b r l xs cnt) : r < w.heap.size := by
  obtain ⟨D, left, todo, h1, _⟩ := h
  exact h1.lt
theorem RangeE.keep {w w' : World} {b r cnt : Nat} {l xs : List Wh.E} (h : RangeE w b r l xs cnt) (hb : w'.heap[b]? = w.heap[b]?) (hr : w'.heap[r]? = w.heap[r]?) : RangeE w' b r l xs cnt := by
  obtain ⟨D, left, todo, ⟨es, clock, since, seen, c0, h1, F, hs, hD, h2, rest⟩, h3⟩ := h
  exact ⟨D, left, todo, ⟨es, clock, since, seen, c0, hb.trans h1, F, hs, hD, hr.trans h2, rest⟩, h3⟩
theorem RangeE.elem_of_key {D : DataW Unit} {l : List Wh.E} (h : Holds D l) {x c : Int} (hat : ∀ zd, D.atKey (keyL x) zd = tickD c) : (x, c) ∈ l := by
  have hh := Maps.has_true_of_atKey hat
  obtain ⟨e, he, hk⟩ := h.back _ hh
  have e1 := keyL_inj hk
  have e2 := h.at_ e he (tickD 0)
  rw [← e1, hat] at e2
  obtain ⟨i, y⟩ := e
  simp at e1 e2
  subst e1
  cases e2
  exact he

section
variable (w : World) {ops : Array Oper} {rest : List Oper} {o : Oper} {a : Act} {Q : Exit → Act → World → Prop}
/-- 'range m' -/
theorem wpRangeE (hg : o.guard = none) (m : Operand) (t : TypeId) (hop : o.op = Op.range t m) (ht : Try.prog.underlying t = some (.map 3 22))
    (b : Nat) (l : List Wh.E) (hm : a.eval m = .map (some b)) (hM : MapE w b l) (hn : (l.map (·.1)).Nodup)
    (hK : ∀ w' cnt, RangeE w' b w.heap.size l [] cnt → Below w.heap.size w w' → w'.heap.size = w.heap.size + 1 → wpList Try.prog ops Q rest (a.put o.dst (.pointer (some ⟨w.heap.size, 0, none⟩))) w') :
    wpList Try.prog ops Q (o :: rest) a w := by
  obtain ⟨D, hD, hH⟩ := hM
  refine wpList_range_own _ hg m t hop 3 22 intKeyed ht (plainElem Try.prog 22) b _ _ hm hD ?_
  intro w' h1 h2 h3
  refine hK w' _ ⟨D, _, l, h1, hH, hn, by simp, fun e he => hH.has e he, fun id hid => ?_⟩ ⟨h2.os, h2.tape, h2.output, h2.size, fun k hk => h2.block k hk (by simp)⟩ h3
  obtain ⟨e, he, hk⟩ := hH.back _ hid
  exact ⟨e, he, (keyL_inj hk).symm⟩
/-- its step -/
theorem wpNextE (hg : o.guard = none) (it : Operand) (hop : o.op = Op.next it false) (b r cnt : Nat) (l xs : List Wh.E) (hit : a.eval it = .pointer (some ⟨r, 0, none⟩)) (h : RangeE w b r l xs cnt)
    (hDone : xs.Perm l → wpList Try.prog ops Q rest (a.put o.dst (.tuple #[.bool false])) w)
    (hMore : ∀ (x c : Int) (w' : World) (cnt' : Nat), (Lit.int .i64 x).wf = true → (Lit.int .u64 c).wf = true → (x, c) ∈ l → RangeE w' b r l (xs ++ [(x, c)]) cnt' → cnt' < cnt → Chg (fun k => k = r) w w' → w'.heap.size = w.heap.size →
      (Instr.entry (.pointer (some ⟨r, 0, none⟩))).run Try.prog w' = .ok (.tuple #[.int .i64 x, .int .u64 c]) w' → wpList Try.prog ops Q rest (a.put o.dst (.tuple #[.bool true, .int .i64 x, .int .u64 c])) w') :
    wpList Try.prog ops Q (o :: rest) a w := by
  obtain ⟨D, left, todo, h1, hH, hn, hp, hl1, hl2⟩ := h
  refine wpList_next_ranges_ii _ hg it hop 3 22 .i64 .u64 intKeyed Try.underlying3 Try.underlying22 b r _ _ _ _ hit h1 ?_ ?_
  · intro _ h0
    refine hDone ?_
    have : todo = [] := by
      cases todo with
      | nil => rfl
      | cons e t => have := hl1 e List.mem_cons_self; rw [h0] at this; cases this
    rw [this, List.append_nil] at hp
    exact hp
  · intro x c w' cnt' hx hc hlx hat hrg hlt hg' hs hen
    have hm := RangeE.elem_of_key hH hat
    obtain ⟨e, he, hex⟩ := hl2 x hlx
    have hnd : ((xs ++ todo).map (·.1)).Nodup := (hp.map _).nodup_iff.2 hn
    have hee : e = (x, c) := by
      have h3 := Wh.find_of_mem hn (id := e.1) (a := e.2) (hp.mem_iff.1 (List.mem_append_right _ he))
      have h4 := Wh.find_of_mem hn hm
      rw [hex, h4] at h3
      obtain ⟨i, y⟩ := e
      simp at hex h3
      rw [hex, h3]
    subst hee
    obtain ⟨s1, s2, rfl⟩ := List.append_of_mem he
    refine hMore x c w' cnt' hx hc hm ⟨D, _, s1 ++ s2, hrg, hH, hn, ?_, ?_, ?_⟩ hlt ⟨hg'.os, hg'.tape, hg'.output, hg'.size, fun k hk hne => hg'.block k hk (fun e => hne (by cases e; rfl))⟩ hs hen
    · refine List.Perm.trans ?_ hp
      rw [List.append_assoc]
      refine List.Perm.append_left xs ?_
      simpa using (List.perm_middle (a := (x, c)) (l₁ := s1) (l₂ := s2)).symm
    · intro e2 he2
      have hne : e2.1 ≠ x := by
        intro e3
        rw [List.map_append, List.map_append, List.map_cons, List.nodup_append] at hnd
        have h5 := hnd.2.1
        rw [List.nodup_append] at h5
        rcases List.mem_append.1 he2 with h6 | h6
        · exact h5.2.2 e2.1 (List.mem_map.2 ⟨e2, h6, rfl⟩) x (by simp) e3
        · exact (List.nodup_cons.1 h5.2.1).1 (List.mem_map.2 ⟨e2, h6, e3⟩)
      have h7 := hl1 e2 (by
        rcases List.mem_append.1 he2 with h6 | h6
        · exact List.mem_append_left _ h6
        · exact List.mem_append_right _ (List.mem_cons_of_mem _ h6))
      show (left (keyL e2.1) && !(keyL e2.1).sameKey (keyL x)) = true
      rw [h7, Maps.sameKey_ne (fun e4 => hne (keyL_inj e4))]
      rfl
    · intro id hid
      have hid2 : (left (keyL id) && !(keyL id).sameKey (keyL x)) = true := hid
      rw [Bool.and_eq_true] at hid2
      obtain ⟨e2, he2, hid3⟩ := hl2 id hid2.1
      have hne : e2 ≠ (x, c) := by
        intro e4
        rw [e4] at hid3
        subst hid3
        have h8 := hid2.2
        rw [WideAt.sameKey_self (isKey x)] at h8
        cases h8
      refine ⟨e2, ?_, hid3⟩
      rcases List.mem_append.1 he2 with h6 | h6
      · exact List.mem_append_left _ h6
      · rcases List.mem_cons.1 h6 with h6 | h6
        · exact absurd h6 hne
        · exact List.mem_append_right _ h6
end
end Go.Proofs.Ytmmfmpnkjienfaa
