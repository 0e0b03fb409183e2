/-
  Rows of whatever elements, by one structure ('Elt': how an element lies): a row of one's own, what a slice shows, append of one and of a slice. (Over RowsOwn: fill it at any seat.)
-/
import Derived.Test.YtgeoebodlcbebaaRowsOwn
import Derived.Laws.AppendOwnNone
namespace Go.Proofs.Ytgeoebodlcbebaa
open Go.RowKit
set_option linter.unusedVariables false

/-- how an element lies in a row -/
structure Elt (P : Program) (α : Type) where
  st : TypeId
  e : TypeId
  z : Value
  size : Nat
  bytes : Nat
  pv : α → List Value
  ht : P.underlying st = some (.slice e)
  info : (P.info? e).map (fun i => (i.zero, i.size, i.bytes)) = some (some z, size, bytes)
  hz : z.cells.size = size
  pos : 0 < size
  le : bytes ≤ 1024
  len : ∀ x, (pv x).length = size
  one : ∀ x, ∀ u ∈ pv x, u.oneCell' = true
section
variable {P : Program} {α : Type} (E : Elt P α)
def Elt.cells (l : List α) : List Value := l.flatMap E.pv
theorem Elt.cells_append (l m : List α) : E.cells (l ++ m) = E.cells l ++ E.cells m := by simp [Elt.cells]
theorem Elt.cells_one (x : α) : E.cells [x] = E.pv x := by simp [Elt.cells]
theorem Elt.cells_length : ∀ l : List α, (E.cells l).length = l.length * E.size
  | [] => by simp [Elt.cells]
  | p :: r => by
    have := Elt.cells_length r
    have e : E.cells (p :: r) = E.pv p ++ E.cells r := rfl
    rw [e, List.length_append, this, List.length_cons, E.len, Nat.add_mul, Nat.one_mul, Nat.add_comm]
theorem Elt.cells_get : ∀ (l : List α) (j : Nat) (h : j < l.length) (i : Nat) (u : Value), (E.pv l[j])[i]? = some u → (E.cells l)[j * E.size + i]? = some u
  | p :: r, 0, h, i, u, hu => by
    have e : E.cells (p :: r) = E.pv p ++ E.cells r := rfl
    have hu : (E.pv p)[i]? = some u := hu
    have hi := (List.getElem?_eq_some_iff.1 hu).1
    rw [e, Nat.zero_mul, Nat.zero_add, List.getElem?_append_left hi]
    exact hu
  | p :: r, j + 1, h, i, u, hu => by
    have e : E.cells (p :: r) = E.pv p ++ E.cells r := rfl
    have h' : j < r.length := by simp at h; omega
    have ih := Elt.cells_get r j h' i u (by simpa using hu)
    have hl := E.len p
    rw [e, Nat.add_mul, Nat.one_mul, List.getElem?_append_right (by omega), hl]
    rw [show j * E.size + E.size + i - E.size = j * E.size + i by omega]
    exact ih
theorem Elt.cells_all (l : List α) : ∀ u ∈ E.cells l, u.oneCell' = true := fun u hu => by
  obtain ⟨x, _, hx⟩ := List.mem_flatMap.1 hu
  exact E.one x u hx
/-- a slice, whose row is of this call's own blocks, that holds these -/
def Elt.Row (w : World) (B : Nat) (v : Value) (l : List α) : Prop := w.ownsRow B E.e E.size v l.length (E.cells l)
/-- the cells that a slice stands for, wherever it begins -/
structure Elt.View (w : World) (a : Option Addr) (l : List α) : Prop where
  is : 0 < l.length → ∃ g off : Nat, a = some ⟨g, off, none⟩ ∧ g < w.heap.size ∧ ∀ j (h : j < l.length) i u, (E.pv l[j])[i]? = some u → w.cell? ⟨g, off + j * E.size + i, none⟩ = some u
/-- .. from the block's first cell on -/
structure Elt.Flat (w : World) (a : Option Addr) (l : List α) : Prop where
  is : 0 < l.length → ∃ g, a = some ⟨g, 0, none⟩ ∧ g < w.heap.size ∧ ∀ j (h : j < l.length) i u, (E.pv l[j])[i]? = some u → w.cell? ⟨g, j * E.size + i, none⟩ = some u
variable {E}
theorem Elt.Row.nil (w : World) (B : Nat) : E.Row w B (.slice none 0 0) [] := World.ownsRow_nil w B _ _
theorem Elt.Row.lit (w : World) (B : Nat) (hB : B ≤ w.heap.size) : E.Row (w.alloc (.cells #[] E.e)) B (.slice (some ⟨w.heap.size, 0, none⟩) 0 0) [] := own_lit w B _ _ hB
theorem Elt.Row.below {w w' : World} {B : Nat} {v : Value} {l : List α} (h : E.Row w B v l) (hb : Below w.heap.size w w') : E.Row w' B v l := own_below h hb
theorem Elt.Row.base {w : World} {B B' : Nat} {v : Value} {l : List α} (h : E.Row w B v l) (hb : B' ≤ B) : E.Row w B' v l := own_base h hb
theorem Elt.Row.keep {w w' : World} {B : Nat} {v : Value} {l : List α} (h : E.Row w B v l) (hk : ∀ k, v.ownBlock = some k → w'.heap[k]? = w.heap[k]?) : E.Row w' B v l := own_keep h hk
theorem Elt.Row.lt {w : World} {B : Nat} {v : Value} {l : List α} (h : E.Row w B v l) : ∀ k, v.ownBlock = some k → B ≤ k ∧ k < w.heap.size := World.ownsRow.lt h
theorem Elt.Row.slice {w : World} {B : Nat} {v : Value} {l : List α} (h : E.Row w B v l) : ∃ a cap, v = .slice a l.length cap := by
  obtain ⟨_, ⟨hv, h0⟩ | ⟨g, cap, cur, hv, _⟩⟩ := h
  · exact ⟨none, 0, by rw [hv, h0]⟩
  · exact ⟨_, cap, hv⟩
theorem Elt.Row.flat {w : World} {B : Nat} {v : Value} {l : List α} (h : E.Row w B v l) : ∃ a cap, v = .slice a l.length cap ∧ E.Flat w a l := by
  obtain ⟨hl, ⟨rfl, h0⟩ | ⟨g, cap, cur, rfl, hg, hc, hn, hm, hs, hx⟩⟩ := h
  · exact ⟨none, 0, by rw [h0], ⟨fun h => by omega⟩⟩
  · refine ⟨_, cap, rfl, ⟨fun h0 => ⟨g, rfl, lt_block hc, fun j hj i u hu => ?_⟩⟩⟩
    have e1 := E.cells_get l j hj i u hu
    have hk : j * E.size + i < l.length * E.size := by
      have := (List.getElem?_eq_some_iff.1 e1).1
      rwa [E.cells_length] at this
    have hcell : w.cell? ⟨g, j * E.size + i, none⟩ = (E.cells l)[j * E.size + i]? := by
      rw [cell_of_row w g _ cur _ _ hc, ← hx, List.getElem?_take_of_lt hk]
      simp
    rw [hcell, e1]
theorem Elt.Row.flat0 {w : World} {B : Nat} {v : Value} {l : List α} (h : E.Row w B v l) : ∃ a cap, v = .slice a l.length cap ∧ E.Flat w a l ∧ (a = none → cap = 0) := by
  obtain ⟨a, cap, e, hf⟩ := h.flat
  refine ⟨a, cap, e, hf, fun ha => ?_⟩
  obtain ⟨_, ⟨hv, h0⟩ | ⟨g, c2, cur, hv, _⟩⟩ := h
  · rw [hv] at e; injection e with e1 e2 e3; exact e3.symm
  · rw [hv, ha] at e; injection e with e1; cases e1
theorem Elt.Flat.view {w : World} {a : Option Addr} {l : List α} (h : E.Flat w a l) : E.View w a l := ⟨fun h0 => by
  obtain ⟨g, ha, hg, hc⟩ := h.is h0
  exact ⟨g, 0, ha, hg, fun j hj i u hu => by rw [Nat.zero_add]; exact hc j hj i u hu⟩⟩
theorem Elt.Flat.below {w w' : World} {a : Option Addr} {l : List α} (h : E.Flat w a l) (hb : Below w.heap.size w w') : E.Flat w' a l := by
  refine ⟨fun h0 => ?_⟩
  obtain ⟨g, ha, hg, hc⟩ := h.is h0
  exact ⟨g, ha, Nat.lt_of_lt_of_le hg hb.size, fun j hj i u hu => (hb.cell (p := ⟨g, _, none⟩) hg).trans (hc j hj i u hu)⟩
theorem Elt.View.below {w w' : World} {a : Option Addr} {l : List α} (h : E.View w a l) (hb : Below w.heap.size w w') : E.View w' a l := by
  refine ⟨fun h0 => ?_⟩
  obtain ⟨g, off, ha, hg, hc⟩ := h.is h0
  exact ⟨g, off, ha, Nat.lt_of_lt_of_le hg hb.size, fun j hj i u hu => (hb.cell (p := ⟨g, _, none⟩) hg).trans (hc j hj i u hu)⟩
/-- a row as a literal makes it -/
theorem Elt.Row.made (w : World) (B : Nat) (hB : B ≤ w.heap.size) (l : List α) (hl : l.length ≤ 1000000) (news : Array Value) (n : Nat) (hn : n = l.length) (hc : news.toList = E.cells l) : E.Row (w.alloc (.cells news E.e)) B (.slice (some ⟨w.heap.size, 0, none⟩) n n) l := by
  have hs : news.size = l.length * E.size := by rw [← Array.length_toList, hc, E.cells_length]
  subst hn
  refine ⟨E.cells_length l, Or.inr ⟨w.heap.size, l.length, news, rfl, hB, heap_alloc_new w _, by simp, by unfold maxLen; omega, by rw [hs], ?_⟩⟩
  rw [List.take_of_length_le (by simp [hs]), hc]

/-- 'append(own, x)' -/
theorem Elt.wpApp (E : Elt P α) (w : World) {ops : Array Oper} {rest : List Oper} {o : Oper} {a : Act} {Q : Exit → Act → World → Prop} (hgd : o.guard = none) (s x : Operand)
    (ho : o.op = .call { callee := .builtin .append, args := #[s, x], argTypes := #[E.st, E.st] })
    (B : Nat) (v : Value) (l : List α) (hs : a.eval s = v) (hown : E.Row w B v l)
    (news : Array Value) (c : Nat) (hx : a.eval x = .slice (some ⟨w.heap.size, 0, none⟩) 1 c) (y : α) (hy : news.toList = E.pv y)
    (hn : l.length ≤ 9223372036) (hB : B ≤ w.heap.size)
    (hK : ∀ v' w', E.Row w' B v' (l ++ [y]) → Below B w w' → (∀ k, k < w.heap.size → some k ≠ v.ownBlock → w'.heap[k]? = w.heap[k]?) → (∀ k, v'.ownBlock = some k → v.ownBlock = some k ∨ w.heap.size ≤ k) → wpList P ops Q rest (a.put o.dst v') w') :
    wpList P ops Q (o :: rest) a (w.alloc (.cells news E.e)) := by
  refine wpApp2 w hgd s x E.st ho B E.e E.z E.size E.bytes E.ht E.info E.hz E.pos E.le v l.length (E.cells l) hs hown news c hx ?_ ?_ hn hB ?_
  · rw [← Array.length_toList, hy, E.len]
  · rw [hy]; exact E.one y
  · intro v' w' h1 h2 h3 h4
    refine hK v' w' ?_ h2 h3 h4
    unfold Elt.Row
    rw [List.length_append, E.cells_append, E.cells_one, ← hy]
    exact h1
/-- .. at a step of a region that draws its order -/
theorem Elt.stepApp (E : Elt P α) (w : World) {ops : Array Oper} {o : Oper} {a : Act} {K : Act → World → Prop} {Q : Exit → Act → World → Prop} {X : Prop} (hgd : o.guard = none) (s x : Operand)
    (ho : o.op = .call { callee := .builtin .append, args := #[s, x], argTypes := #[E.st, E.st] })
    (B : Nat) (v : Value) (l : List α) (hs : a.eval s = v) (hown : E.Row w B v l)
    (news : Array Value) (c : Nat) (hx : a.eval x = .slice (some ⟨w.heap.size, 0, none⟩) 1 c) (y : α) (hy : news.toList = E.pv y)
    (hn : l.length ≤ 9223372036) (hB : B ≤ w.heap.size)
    (hK : ∀ v' w', E.Row w' B v' (l ++ [y]) → Below B w w' → (∀ k, k < w.heap.size → some k ≠ v.ownBlock → w'.heap[k]? = w.heap[k]?) → K (a.put o.dst v') w') :
    if Region.wanted o (yielded ops a.tmps) = true then Oper.wp P o a (w.alloc (.cells news E.e)) K Q else X := by
  refine Go.Proofs.Ytgeoebodlcbebaa.stepApp w hgd s x E.st ho B E.e E.z E.size E.bytes E.ht E.info E.hz E.pos E.le v l.length (E.cells l) hs hown news c hx ?_ ?_ hn hB ?_
  · rw [← Array.length_toList, hy, E.len]
  · rw [hy]; exact E.one y
  · intro v' w' h1 h2 h3
    refine hK v' w' ?_ h2 h3
    unfold Elt.Row
    rw [List.length_append, E.cells_append, E.cells_one, ← hy]
    exact h1
/-- 'append(own, x...)' where x is of length 0, not nil -/
theorem run_append_none {w : World} (B : Nat) (t ty e : TypeId) (i : TypeInfo) (size : Nat) (ht : P.underlying t = some (.slice e)) (hi : P.info? e = some i) (v : Value) (n : Nat) (xs : List Value) (hown : w.ownsRow B e size v n xs) (hv : v ≠ .slice none 0 0) (ad : Addr) (c : Nat) :
    (Builtin.append_ #[t, t] ty #[v, .slice (some ad) 0 c]).run P w = .ok v w := by
  rcases hown.2 with ⟨rfl, rfl⟩ | ⟨g, cap, cur, rfl, _, _, hnc, _⟩
  · exact absurd rfl hv
  · simp [Builtin.append_, run_underlying ht, sizeOf, typeInfo, hi, Builtin.lenOf, Builtin.firstCells, hnc, storeCells, loadCells, loadCellsFrom]
theorem Elt.View.cells {w : World} {g off : Nat} {l : List α} (hc : ∀ j (h : j < l.length) i u, (E.pv l[j])[i]? = some u → w.cell? ⟨g, off + j * E.size + i, none⟩ = some u) :
    ∀ j u, (E.cells l)[j]? = some u → w.cell? ((⟨g, off, none⟩ : Addr).add j) = some u := by
  intro j u hu
  have hs := E.pos
  have hj : j < l.length * E.size := by
    have := (List.getElem?_eq_some_iff.1 hu).1
    rwa [E.cells_length] at this
  have hq : j / E.size < l.length := Nat.div_lt_of_lt_mul (by rw [Nat.mul_comm]; exact hj)
  have hm : j / E.size * E.size + j % E.size = j := by rw [Nat.mul_comm]; exact Nat.div_add_mod j E.size
  have hr : j % E.size < (E.pv l[j / E.size]).length := by rw [E.len]; exact Nat.mod_lt _ hs
  obtain ⟨u2, hu2⟩ : ∃ u2, (E.pv l[j / E.size])[j % E.size]? = some u2 := ⟨_, List.getElem?_eq_getElem hr⟩
  have h1 := E.cells_get l (j / E.size) hq _ u2 hu2
  rw [hm, hu] at h1
  cases h1
  have h2 := hc (j / E.size) hq _ u hu2
  rw [Nat.add_assoc, hm] at h2
  have ha : (⟨g, off, none⟩ : Addr).add j = ⟨g, off + j, none⟩ := by unfold Addr.add; by_cases h : j = 0 <;> simp [h]
  rw [ha]
  exact h2
/-- 'append(own, x...)', x any slice -/
theorem Elt.wpAppS (E : Elt P α) (w : World) {ops : Array Oper} {rest : List Oper} {o : Oper} {a : Act} {Q : Exit → Act → World → Prop} (hgd : o.guard = none) (s x : Operand)
    (ho : o.op = .call { callee := .builtin .append, args := #[s, x], argTypes := #[E.st, E.st] })
    (B : Nat) (v : Value) (l : List α) (hs : a.eval s = v) (hown : E.Row w B v l) (hv : v ≠ .slice none 0 0)
    (ad : Option Addr) (T : List α) (c : Nat) (hx : a.eval x = .slice ad T.length c) (hx0 : ad = none → c = 0) (hT : E.View w ad T) (hl : l.length + T.length ≤ 1000000) (hB : B ≤ w.heap.size)
    (hK : ∀ v' w', v' ≠ .slice none 0 0 → E.Row w' B v' (l ++ T) → Below B w w' → (∀ k, k < w.heap.size → some k ≠ v.ownBlock → w'.heap[k]? = w.heap[k]?) → (∀ k, v'.ownBlock = some k → v.ownBlock = some k ∨ w.heap.size ≤ k) → wpList P ops Q rest (a.put o.dst v') w') :
    wpList P ops Q (o :: rest) a w := by
  obtain ⟨i, hi, hz0, hz1, hz2⟩ := info_parts E.info
  by_cases h0 : 0 < T.length
  · obtain ⟨g, off, rfl, hg, hc⟩ := hT.is h0
    refine wpList_append_lies _ hgd s x _ ho B E.e i E.z E.size E.bytes E.ht hi hz0 hz1 hz2 E.hz E.pos v l.length (E.cells l) hs hown ⟨g, off, none⟩ T.length c (E.cells T) hx (E.cells_length T) (Elt.View.cells hc) (E.cells_all T) h0 (by unfold maxLen; omega) (Nat.le_trans (Nat.mul_le_mul hl E.le) (by decide)) hB _ rfl ?_
    intro g2 cap w' h2 h3 h4 h5
    refine hK _ w' (fun h => by cases h) ?_ ?_ ?_ ?_
    · unfold Elt.Row
      rw [List.length_append, E.cells_append]
      exact h2
    · exact (Below.refl B w).grown h3 hB (fun k hk => (World.ownsRow.lt hown k hk).1)
    · exact fun k hk hne => h3.block k hk hne
    · intro k hk
      simp [Value.ownBlock] at hk
      subst hk
      rcases h4 with h | h
      · exact Or.inl h
      · right; omega
  · have hT0 : T = [] := List.length_eq_zero_iff.1 (by omega)
    subst hT0
    have hfin := hK v w hv (by rw [List.append_nil]; exact hown) (Below.refl _ _) (fun _ _ _ => rfl) (fun k h => Or.inl h)
    cases ad with
    | none =>
      have e : c = 0 := hx0 rfl
      subst e
      exact wpList_append_own_none hgd s x _ ho B E.e i E.size E.ht hi v l.length (E.cells l) hs hown hx hfin
    | some ad =>
      refine wpList_plain hgd fun K2 hK2 => ?_
      have hrun := run_append_none (P := P) (w := w) B E.st o.type E.e i E.size E.ht hi v l.length (E.cells l) hown hv ad c
      have hx' : a.eval x = .slice (some ad) 0 c := hx
      unfold Oper.wp
      simp [execOp, ho, resolve, invoke, builtin, hs, hx', hrun, Result.andThen]
      exact hK2 _ _ hfin
end
theorem alloc_lt (w : World) (o : Obj) : w.heap.size < (w.alloc o).heap.size := by simp
end Go.Proofs.Ytgeoebodlcbebaa
