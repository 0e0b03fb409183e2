/-
  A slice of timers wherever it begins, with the room behind it; copy, append and clear at elements of several cells.
-/
import Derived.Test.YtmmfmpnkjienfaaWhZ
import Derived.Test.YtmmfmpnkjienfaaDuMath
import Derived.Laws.CopyOwn
import Derived.Deep.RegionLaw
import Derived.Deep.AppendSrc
import Derived.Lib.AppendZerosOnto
import Derived.Lib.Overlaps
namespace Go.Proofs.Ytmmfmpnkjienfaa
open Go.RowKit
set_option linter.unusedVariables false

/-! ### rows of cells -/
theorem splice_get {α : Type} (L : List α) (o : Nat) (cs : List α) (h : o + cs.length ≤ L.length) (k : Nat) : (splice L o cs)[k]? = if k < o then L[k]? else if k < o + cs.length then cs[k - o]? else L[k]? := by
  unfold splice
  by_cases h1 : k < o
  · rw [if_pos h1, List.getElem?_append_left (by rw [List.length_take]; omega), List.getElem?_take_of_lt h1]
  · have e1 : (L.take o).length = o := by rw [List.length_take]; omega
    rw [if_neg h1, List.getElem?_append_right (by omega), e1]
    by_cases h2 : k < o + cs.length
    · rw [if_pos h2, List.getElem?_append_left (by omega)]
    · rw [if_neg h2, List.getElem?_append_right (by omega), List.getElem?_drop]
      congr 1
      omega
theorem chg_setRow (w : World) (g : Nat) (cs : Array Value) : Chg (fun k => k = g) w (w.setRow g cs) := ⟨rfl, rfl, rfl, by simp [World.setRow], fun k _ hk => setRow_other w g k cs hk⟩

section
variable {P : Program}
theorem run_copyK (w : World) (dT sT ty elem : TypeId) (size : Nat) (hu : P.underlying dT = some (.slice elem)) (hsz : (P.info? elem).map (·.size) = some size)
    (g o dLen dCap : Nat) (ad : Addr) (sLen sCap : Nat) (cur : List Value) (t : TypeId) (hg : w.heap[g]? = some (.cells cur.toArray t (0, 0))) (cs : List Value) (hn : cs.length = Nat.min sLen dLen * size)
    (hsrc : ∀ j v, cs[j]? = some v → w.cell? (ad.add j) = some v) (hfit : o + cs.length ≤ cur.length) (h1 : ∀ v ∈ cs, v.oneCell' = true) :
    (Builtin.copy_ #[dT, sT] ty #[.slice (some ⟨g, o, none⟩) dLen dCap, .slice (some ad) sLen sCap]).run P w = .ok (goInt (Nat.min sLen dLen)) (w.setRow g (splice cur o cs).toArray) := by
  have hl := run_firstCells_some (P := P) w size (Nat.min sLen dLen) ad sLen sCap cs hn hsrc
  have hst := run_storeCells_at P g o t cs 0 cur.toArray w hg (by simpa using hfit) h1
  have e : (List.take (o + 0) cur.toArray.toList ++ cs ++ List.drop (o + 0 + cs.length) cur.toArray.toList) = splice cur o cs := by simp [splice]
  rw [e] at hst
  cases hq : P.info? elem with
  | none => simp [hq] at hsz
  | some i =>
    have hi : i.size = size := by simpa [hq] using hsz
    simp [Builtin.copy_, run_underlying hu, Builtin.lenOf, sizeOf, typeInfo, hq, hi, hl, hst]
/-- the same: the world behind it by name -/
theorem run_copy1 (w : World) (dT sT elem : TypeId) (size : Nat) (hu : P.underlying dT = some (.slice elem)) (hsz : (P.info? elem).map (·.size) = some size)
    (g o dLen : Nat) (ad : Addr) (sLen : Nat) (cur : List Value) (t : TypeId) (hg : w.heap[g]? = some (.cells cur.toArray t (0, 0))) (cs : List Value) (hn : cs.length = Nat.min sLen dLen * size)
    (hsrc : ∀ j v, cs[j]? = some v → w.cell? (ad.add j) = some v) (hfit : o + cs.length ≤ cur.length) (h1 : ∀ v ∈ cs, v.oneCell' = true) :
    ∃ w', (∀ ty dCap sCap, (Builtin.copy_ #[dT, sT] ty #[.slice (some ⟨g, o, none⟩) dLen dCap, .slice (some ad) sLen sCap]).run P w = .ok (goInt (Nat.min sLen dLen)) w') ∧ Hid (w'.heap[g]? = some (.cells (splice cur o cs).toArray t (0, 0))) ∧ Chg (fun k => k = g) w w' :=
  ⟨_, fun ty dCap sCap => run_copyK w dT sT ty elem size hu hsz g o dLen dCap ad sLen sCap cur t hg cs hn hsrc hfit h1, Lib.hid (setRow_heap w g _ (splice cur o cs).toArray t _ hg), chg_setRow _ _ _⟩
theorem wpCopyK {w : World} {ops : Array Oper} {rest : List Oper} {o : Oper} {a : Act} {Q : Exit → Act → World → Prop} (hgd : o.guard = none) (d s : Operand) (dT sT : TypeId)
    (ho : o.op = .call { callee := .builtin .copy, args := #[d, s], argTypes := #[dT, sT] }) (elem : TypeId) (size : Nat) (hu : P.underlying dT = some (.slice elem)) (hsz : (P.info? elem).map (·.size) = some size)
    (g off dLen dCap : Nat) (ad : Addr) (sLen sCap : Nat) (hd : a.eval d = .slice (some ⟨g, off, none⟩) dLen dCap) (hs : a.eval s = .slice (some ad) sLen sCap)
    (cur : List Value) (t : TypeId) (hg : w.heap[g]? = some (.cells cur.toArray t (0, 0))) (cs : List Value) (hn : cs.length = Nat.min sLen dLen * size)
    (hsrc : ∀ j v, cs[j]? = some v → w.cell? (ad.add j) = some v) (hfit : off + cs.length ≤ cur.length) (h1 : ∀ v ∈ cs, v.oneCell' = true)
    (h : ∀ w', Hid (w'.heap[g]? = some (.cells (splice cur off cs).toArray t (0, 0))) → Chg (fun k => k = g) w w' → wpList P ops Q rest (a.put o.dst (goInt (Nat.min sLen dLen))) w') : wpList P ops Q (o :: rest) a w := by
  refine wpList_plain hgd fun K hK => ?_
  have hrun := run_copyK (P := P) w dT sT o.type elem size hu hsz g off dLen dCap ad sLen sCap cur t hg cs hn hsrc hfit h1
  unfold Oper.wp
  simp [execOp, ho, resolve, invoke, builtin, hd, hs, hrun, Result.andThen]
  have := h _ (Lib.hid (setRow_heap w g _ (splice cur off cs).toArray t _ hg)) (chg_setRow _ _ _)
  exact hK _ _ (by simpa using this)
theorem stepCopyK {ops : Array Oper} {o : Oper} {a : Act} {w : World} {K : Act → World → Prop} {Q : Exit → Act → World → Prop} {E : Prop} (hgd : o.guard = none) (d s : Operand) (dT sT : TypeId)
    (ho : o.op = .call { callee := .builtin .copy, args := #[d, s], argTypes := #[dT, sT] }) (elem : TypeId) (size : Nat) (hu : P.underlying dT = some (.slice elem)) (hsz : (P.info? elem).map (·.size) = some size)
    (g off dLen dCap : Nat) (ad : Addr) (sLen sCap : Nat) (hd : a.eval d = .slice (some ⟨g, off, none⟩) dLen dCap) (hs : a.eval s = .slice (some ad) sLen sCap)
    (cur : List Value) (t : TypeId) (hg : w.heap[g]? = some (.cells cur.toArray t (0, 0))) (cs : List Value) (hn : cs.length = Nat.min sLen dLen * size)
    (hsrc : ∀ j v, cs[j]? = some v → w.cell? (ad.add j) = some v) (hfit : off + cs.length ≤ cur.length) (h1 : ∀ v ∈ cs, v.oneCell' = true)
    (h : ∀ w', Hid (w'.heap[g]? = some (.cells (splice cur off cs).toArray t (0, 0))) → Chg (fun k => k = g) w w' → K (a.put o.dst (goInt (Nat.min sLen dLen))) w') :
    if Region.wanted o (yielded ops a.tmps) = true then Oper.wp P o a w K Q else E := by
  have hw : Region.wanted o (yielded ops a.tmps) = true := by simp [Region.wanted, hgd]
  rw [if_pos hw]
  have hrun := run_copyK (P := P) w dT sT o.type elem size hu hsz g off dLen dCap ad sLen sCap cur t hg cs hn hsrc hfit h1
  unfold Oper.wp
  simp [execOp, ho, resolve, invoke, builtin, hd, hs, hrun, Result.andThen]
  exact h _ (Lib.hid (setRow_heap w g _ (splice cur off cs).toArray t _ hg)) (chg_setRow _ _ _)
/-- append where there is room, the row wherever it begins -/
theorem run_append_roomO (w : World) (t ty e : TypeId) (i : TypeInfo) (ht : P.underlying t = some (.slice e)) (hi : P.info? e = some i)
    (g off sLen sCap : Nat) (cur : List Value) (hg : w.heap[g]? = some (.cells cur.toArray e (0, 0)))
    (ad : Addr) (m c : Nat) (news : List Value) (hl : news.length = m * i.size) (hnews : ∀ j u, news[j]? = some u → w.cell? (ad.add j) = some u) (h1 : ∀ u ∈ news, u.oneCell' = true)
    (hroom : sLen + m ≤ sCap) (hfit : off + sLen * i.size + news.length ≤ cur.length) :
    (Builtin.append_ #[t, t] ty #[.slice (some ⟨g, off, none⟩) sLen sCap, .slice (some ad) m c]).run P w =
      .ok (.slice (some ⟨g, off, none⟩) (sLen + m) sCap) (w.setRow g (splice cur (off + sLen * i.size) news).toArray) := by
  have hf := run_firstCells_some (P := P) w i.size m ad m c news hl hnews
  have hst := run_storeCells_at P g (off + sLen * i.size) e news 0 cur.toArray w hg (by simpa using hfit) h1
  have e : (List.take (off + sLen * i.size + 0) cur.toArray.toList ++ news ++ List.drop (off + sLen * i.size + 0 + news.length) cur.toArray.toList) = splice cur (off + sLen * i.size) news := by simp [splice]
  rw [e] at hst
  simp [Builtin.append_, run_underlying ht, sizeOf, typeInfo, hi, Builtin.lenOf, hroom, hf, Addr.add_lit, hst]
theorem stepAppRoomO {ops : Array Oper} {o : Oper} {a : Act} {w : World} {K : Act → World → Prop} {Q : Exit → Act → World → Prop} {E : Prop}
    (hgd : o.guard = none) (s x : Operand) (t : TypeId) (hop : o.op = Op.call { callee := Callee.builtin Builtin.append, args := #[s, x], argTypes := #[t, t] })
    (e : TypeId) (size : Nat) (ht : P.underlying t = some (.slice e)) (hsz : (P.info? e).map (·.size) = some size) (g off n cap : Nat) (hs : a.eval s = .slice (some ⟨g, off, none⟩) n cap)
    (cur : List Value) (hg : w.heap[g]? = some (.cells cur.toArray e (0, 0)))
    (ad : Addr) (m c : Nat) (news : List Value) (hx : a.eval x = .slice (some ad) m c) (hl : news.length = m * size) (hnews : ∀ j u, news[j]? = some u → w.cell? (ad.add j) = some u) (h1 : ∀ u ∈ news, u.oneCell' = true)
    (hroom : n + m ≤ cap) (hfit : off + n * size + news.length ≤ cur.length)
    (hK : ∀ w', Hid (w'.heap[g]? = some (.cells (splice cur (off + n * size) news).toArray e (0, 0))) → Chg (fun k => k = g) w w' → K (a.put o.dst (.slice (some ⟨g, off, none⟩) (n + m) cap)) w') :
    if Region.wanted o (yielded ops a.tmps) = true then Oper.wp P o a w K Q else E := by
  have hw : Region.wanted o (yielded ops a.tmps) = true := by simp [Region.wanted, hgd]
  rw [if_pos hw]
  cases hq : P.info? e with
  | none => simp [hq] at hsz
  | some i =>
    have hi : i.size = size := by simpa [hq] using hsz
    subst hi
    have hrun := run_append_roomO (P := P) w t o.type e i ht hq g off n cap cur hg ad m c news hl hnews h1 hroom hfit
    unfold Oper.wp
    simp [execOp, hop, resolve, invoke, builtin, hs, hx, hrun, Result.andThen]
    exact hK _ (Lib.hid (setRow_heap w g _ _ e _ hg)) (chg_setRow _ _ _)
theorem wpAppRoomO {ops : Array Oper} {rest : List Oper} {o : Oper} {a : Act} {w : World} {Q : Exit → Act → World → Prop}
    (hgd : o.guard = none) (s x : Operand) (t : TypeId) (hop : o.op = Op.call { callee := Callee.builtin Builtin.append, args := #[s, x], argTypes := #[t, t] })
    (e : TypeId) (size : Nat) (ht : P.underlying t = some (.slice e)) (hsz : (P.info? e).map (·.size) = some size) (g off n cap : Nat) (hs : a.eval s = .slice (some ⟨g, off, none⟩) n cap)
    (cur : List Value) (hg : w.heap[g]? = some (.cells cur.toArray e (0, 0)))
    (ad : Addr) (m c : Nat) (news : List Value) (hx : a.eval x = .slice (some ad) m c) (hl : news.length = m * size) (hnews : ∀ j u, news[j]? = some u → w.cell? (ad.add j) = some u) (h1 : ∀ u ∈ news, u.oneCell' = true)
    (hroom : n + m ≤ cap) (hfit : off + n * size + news.length ≤ cur.length)
    (hK : ∀ w', Hid (w'.heap[g]? = some (.cells (splice cur (off + n * size) news).toArray e (0, 0))) → Chg (fun k => k = g) w w' → wpList P ops Q rest (a.put o.dst (.slice (some ⟨g, off, none⟩) (n + m) cap)) w') : wpList P ops Q (o :: rest) a w := by
  refine wpList_plain hgd fun K hK2 => ?_
  cases hq : P.info? e with
  | none => simp [hq] at hsz
  | some i =>
    have hi : i.size = size := by simpa [hq] using hsz
    subst hi
    have hrun := run_append_roomO (P := P) w t o.type e i ht hq g off n cap cur hg ad m c news hl hnews h1 hroom hfit
    unfold Oper.wp
    simp [execOp, hop, resolve, invoke, builtin, hs, hx, hrun, Result.andThen]
    exact hK2 _ _ (hK _ (Lib.hid (setRow_heap w g _ _ e _ hg)) (chg_setRow _ _ _))
/-- clear of one element: the world behind it by name -/
theorem run_clear1 (w : World) (t e : TypeId) (z : Value) (ht : P.underlying t = some (.slice e)) (hz : ∀ w, (zeroValue e).run P w = .ok z w)
    (g off : Nat) (cur : List Value) (tt : TypeId) (hg : w.heap[g]? = some (.cells cur.toArray tt (0, 0))) (hfit : off + z.cells.size ≤ cur.length) (h1 : ∀ v ∈ z.cells.toList, v.oneCell' = true) :
    ∃ w', (∀ ty c, (Builtin.clear_ #[t] ty #[.slice (some ⟨g, off, none⟩) 1 c]).run P w = .ok (.tuple #[]) w') ∧ Hid (w'.heap[g]? = some (.cells (splice cur off z.cells.toList).toArray tt (0, 0))) ∧ Chg (fun k => k = g) w w' := by
  have hzc : (Builtin.zeroCells z.cells 1).toList = z.cells.toList := by
    unfold Builtin.zeroCells
    apply List.ext_getElem
    · simp
    · intro i h1 h2
      have hi : i < z.cells.size := by simpa using h2
      simp [Nat.mod_eq_of_lt hi, hi]
  have hst := run_storeCells_at P g off tt z.cells.toList 0 cur.toArray w hg (by simpa using hfit) h1
  have e2 : (List.take (off + 0) cur.toArray.toList ++ z.cells.toList ++ List.drop (off + 0 + z.cells.toList.length) cur.toArray.toList) = splice cur off z.cells.toList := by simp [splice]
  rw [e2] at hst
  exact ⟨_, fun ty c => by simp [Builtin.clear_, run_underlying ht, hz, hzc, hst], Lib.hid (setRow_heap w g _ _ tt _ hg), chg_setRow _ _ _⟩
end

/-! ### the slice -/
theorem cellsE_append (a b : List Wh.E) : cellsE (a ++ b) = cellsE a ++ cellsE b := by simp [cellsE]
theorem cellsE_take (l : List Wh.E) : ∀ k : Nat, (cellsE l).take (k * 3) = cellsE (l.take k) := by
  induction l with
  | nil => intro k; simp [cellsE]
  | cons e r ih =>
    intro k
    cases k with
    | zero => simp [cellsE]
    | succ k =>
      show List.take _ (pvE e ++ cellsE r) = pvE e ++ cellsE (r.take k)
      rw [List.take_append, show (k + 1) * 3 - (pvE e).length = k * 3 by simp [pvE]; omega, ih k, List.take_of_length_le (by simp [pvE]; omega)]
theorem cellsE_drop (l : List Wh.E) (k : Nat) : (cellsE l).drop (k * 3) = cellsE (l.drop k) := by
  have h : cellsE (l.take k) ++ (cellsE l).drop (k * 3) = cellsE (l.take k) ++ cellsE (l.drop k) := by
    rw [← cellsE_take, List.take_append_drop, cellsE_take, ← cellsE_append, List.take_append_drop]
  exact List.append_cancel_left h
theorem cellsE_one (l : List Wh.E) : ∀ v ∈ cellsE l, v.oneCell' = true := by
  intro v hv
  unfold cellsE at hv
  rw [List.mem_flatMap] at hv
  obtain ⟨e, _, he⟩ := hv
  simp [pvE] at he
  rcases he with rfl | rfl | rfl <;> rfl

/-- the slice (a, length of r, cap): its elements, and cells for all of its room, in a block of base B or above -/
structure Rd (w : World) (B : Nat) (a : Option Addr) (cap : Nat) (r : List Wh.E) : Prop where
  le : r.length ≤ cap
  mx : cap ≤ 9223372036854775807
  nil : a = none → cap = 0
  is : ∀ x, a = some x → ∃ (g off : Nat) (cur : List Value), x = ⟨g, off, none⟩ ∧ B ≤ g ∧ w.heap[g]? = some (.cells cur.toArray 39 (0, 0)) ∧ off + cap * 3 ≤ cur.length ∧ ∀ k, k < r.length * 3 → cur[off + k]? = (cellsE r)[k]?
theorem Rd.nil0 (w : World) (B : Nat) : Rd w B none 0 [] := ⟨Nat.le_refl _, by omega, fun _ => rfl, fun x h => by cases h⟩
theorem Rd.keep {w w' : World} {B : Nat} {a : Option Addr} {cap : Nat} {r : List Wh.E} (h : Rd w B a cap r) (hk : ∀ x, a = some x → w'.heap[x.block]? = w.heap[x.block]?) : Rd w' B a cap r := by
  refine ⟨h.le, h.mx, h.nil, fun x hx => ?_⟩
  obtain ⟨g, off, cur, rfl, h1, h2, h3⟩ := h.is x hx
  exact ⟨g, off, cur, rfl, h1, (hk _ hx).trans h2, h3⟩
theorem Rd.lt {w : World} {B : Nat} {a : Option Addr} {cap : Nat} {r : List Wh.E} (h : Rd w B a cap r) (x : Addr) (hx : a = some x) : B ≤ x.block ∧ x.block < w.heap.size := by
  obtain ⟨g, off, cur, rfl, h1, h2, _⟩ := h.is x hx
  exact ⟨h1, lt_block h2⟩
theorem Rd.below {w w' : World} {B : Nat} {a : Option Addr} {cap : Nat} {r : List Wh.E} (h : Rd w B a cap r) (hb : Below w.heap.size w w') : Rd w' B a cap r := h.keep (fun x hx => hb.block _ (h.lt x hx).2)
theorem Rd.base {w : World} {B B' : Nat} {a : Option Addr} {cap : Nat} {r : List Wh.E} (h : Rd w B a cap r) (hb : B' ≤ B) : Rd w B' a cap r := by
  refine ⟨h.le, h.mx, h.nil, fun x hx => ?_⟩
  obtain ⟨g, off, cur, rfl, h1, h2, h3⟩ := h.is x hx
  exact ⟨g, off, cur, rfl, Nat.le_trans hb h1, h2, h3⟩
/-- it is not the block of anything else -/
theorem Rd.ne {w : World} {B : Nat} {a : Option Addr} {cap : Nat} {r : List Wh.E} (h : Rd w B a cap r) (x : Addr) (hx : a = some x) {k : Nat} {cs : Array Value} {t : TypeId} {fr : Nat × Nat} (hk : w.heap[k]? = some (.cells cs t fr)) (ht : t ≠ 39) : x.block ≠ k := by
  obtain ⟨g, off, cur, rfl, h1, h2, _⟩ := h.is x hx
  intro e
  have e' : g = k := e
  subst e'
  rw [h2] at hk
  cases hk
  exact ht rfl
theorem Rd.got {w : World} {B : Nat} {a : Option Addr} {cap : Nat} {r : List Wh.E} (h : Rd w B a cap r) (h0 : 0 < r.length) : ∃ (g off : Nat) (cur : List Value), a = some ⟨g, off, .none⟩ ∧ B ≤ g ∧ w.heap[g]? = some (.cells cur.toArray 39 (0, 0)) ∧ off + cap * 3 ≤ cur.length ∧ ∀ k, k < r.length * 3 → cur[off + k]? = (cellsE r)[k]? := by
  cases a with
  | none => have := h.nil rfl; have := h.le; omega
  | some x =>
    obtain ⟨g, off, cur, rfl, r⟩ := h.is x rfl
    exact ⟨g, off, cur, rfl, r⟩
theorem rd_cells {w : World} {g off : Nat} {cur : List Value} {r : List Wh.E} {t : TypeId} (hg : w.heap[g]? = some (.cells cur.toArray t (0, 0))) (hc : ∀ k, k < r.length * 3 → cur[off + k]? = (cellsE r)[k]?) (j : Nat) (hj : j < r.length) :
    w.cell? ⟨g, off + j * 3, none⟩ = some (.int .i64 0) ∧ w.cell? ⟨g, off + j * 3 + 1, none⟩ = some (.int .i64 r[j].1) ∧ w.cell? ⟨g, off + j * 3 + 2, none⟩ = some (.int .u64 r[j].2) := by
  obtain ⟨e1, e2, e3⟩ := cellsE_get r j hj
  have hcell : ∀ k, k < r.length * 3 → w.cell? ⟨g, off + k, none⟩ = (cellsE r)[k]? := fun k hk => by
    rw [cell_of_row w g (off + k) _ _ _ hg, ← hc k hk]
    simp
  have h1 := hcell (j * 3) (by omega)
  have h2 := hcell (j * 3 + 1) (by omega)
  have h3 := hcell (j * 3 + 2) (by omega)
  rw [e1] at h1
  rw [e2] at h2
  rw [e3] at h3
  exact ⟨h1, by rw [← h2]; congr 2, by rw [← h3]; congr 2⟩
/-- a row of one's own -/
theorem Rd.of_row {w : World} {B : Nat} {a : Option Addr} {cap : Nat} {r : List Wh.E} (h : RowE w B (.slice a r.length cap) r) : Rd w B a cap r := by
  obtain ⟨hl, ⟨e, h0⟩ | ⟨g, c, cur, e, hg, hc, hn, hm, hs, hx⟩⟩ := h
  · have : r = [] := List.length_eq_zero_iff.1 h0
    subst this
    cases e
    exact Rd.nil0 w B
  · injection e with e1 e2 e3
    subst e1 e3
    refine ⟨hn, hm, fun h => (by cases h), fun x hx' => ?_⟩
    cases hx'
    refine ⟨g, 0, cur.toList, rfl, hg, by simpa using hc, by simp [hs], fun k hk => ?_⟩
    rw [Nat.zero_add, ← hx, List.getElem?_take_of_lt hk]
/-- the first taken off -/
theorem Rd.pop {w : World} {B g off : Nat} {cap : Nat} {e : Wh.E} {r : List Wh.E} (h : Rd w B (Option.some ⟨g, off, .none⟩) cap (e :: r)) : Rd w B (if cap = 1 then Option.some ⟨g, off, .none⟩ else Option.some ⟨g, off + 3, .none⟩) (cap - 1) r := by
  have hle := h.le
  have hmx := h.mx
  obtain ⟨g', off', cur, e', h1, h2, h3, h4⟩ := h.is _ rfl
  cases e'
  simp only [List.length_cons] at hle h4
  refine ⟨by omega, by omega, fun hx => (by split at hx <;> cases hx), fun x hx => ?_⟩
  by_cases hc : cap = 1
  · rw [if_pos hc] at hx
    cases hx
    exact ⟨g, off, cur, rfl, h1, h2, by omega, fun k hk => by omega⟩
  · rw [if_neg hc] at hx
    cases hx
    refine ⟨g, off + 3, cur, rfl, h1, h2, by omega, fun k hk => ?_⟩
    have := h4 (k + 3) (by omega)
    rw [show off + 3 + k = off + (k + 3) by omega, this]
    rfl
end Go.Proofs.Ytmmfmpnkjienfaa
