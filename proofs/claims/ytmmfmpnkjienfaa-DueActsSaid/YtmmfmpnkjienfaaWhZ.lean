/-
  What the texts on wheels share: rows of timers, what a slice of them shows, the later of two ticks, what a call of the wheel returns, the wheel's contracts.
-/
import Derived.Test.YtmmfmpnkjienfaaWhMath
import Derived.Test.YtmmfmpnkjienfaaRowsOwn
import Derived.Test.YtmmfmpnkjienfaaFoot
namespace Go.Proofs.Ytmmfmpnkjienfaa
open Go.RowKit
set_option linter.unusedVariables false

/-- the three cells of a timer of kind 0 -/
def pvE (e : Wh.E) : List Value := [.int .i64 0, .int .i64 e.1, .int .u64 e.2]
def cellsE (l : List Wh.E) : List Value := l.flatMap pvE
theorem cellsE_snoc (l : List Wh.E) (e : Wh.E) : cellsE l ++ [.int .i64 0, .int .i64 e.1, .int .u64 e.2] = cellsE (l ++ [e]) := by simp [cellsE, pvE]
theorem cellsE_length : ∀ l : List Wh.E, (cellsE l).length = l.length * 3
  | [] => rfl
  | p :: r => by
    have := cellsE_length r
    show (pvE p ++ cellsE r).length = _
    rw [List.length_append, this, List.length_cons]
    simp [pvE]; omega
theorem cellsE_get : ∀ (l : List Wh.E) (j : Nat) (h : j < l.length), (cellsE l)[j * 3]? = some (.int .i64 0) ∧ (cellsE l)[j * 3 + 1]? = some (.int .i64 l[j].1) ∧ (cellsE l)[j * 3 + 2]? = some (.int .u64 l[j].2)
  | p :: r, 0, h => ⟨rfl, rfl, rfl⟩
  | p :: r, j + 1, h => by
    have h' : j < r.length := by simp at h; omega
    obtain ⟨h1, h2, h3⟩ := cellsE_get r j h'
    have e : ∀ k, (cellsE (p :: r))[k + 3]? = (cellsE r)[k]? := fun k => rfl
    rw [show (j + 1) * 3 = j * 3 + 3 by omega, show j * 3 + 3 + 1 = (j * 3 + 1) + 3 by omega, show j * 3 + 3 + 2 = (j * 3 + 2) + 3 by omega, e, e, e]
    exact ⟨h1, h2, h3⟩
/-- a slice, whose row is of this call's own blocks, that holds these timers -/
def RowE (w : World) (B : Nat) (v : Value) (l : List Wh.E) : Prop := w.ownsRow B 39 3 v l.length (cellsE l)
theorem infoTimer : (Try.prog.info? 39).map (fun i => (i.zero, i.size, i.bytes)) = some (some (.agg #[.int .i64 0, .int .i64 0, .int .u64 0]), 3, 24) := by kernel_rfl
theorem RowE.nil (w : World) (B : Nat) : RowE w B (.slice none 0 0) [] := World.ownsRow_nil w B _ 3
theorem RowE.lit (w : World) (B : Nat) (hB : B ≤ w.heap.size) : RowE (w.alloc (.cells #[] 39)) B (.slice (some ⟨w.heap.size, 0, none⟩) 0 0) [] := own_lit w B _ 3 hB
theorem RowE.below {w w' : World} {B : Nat} {v : Value} {l : List Wh.E} (h : RowE w B v l) (hb : Below w.heap.size w w') : RowE w' B v l := own_below h hb
theorem RowE.snoc {w : World} {B : Nat} {v : Value} {l : List Wh.E} {e : Wh.E} (h : w.ownsRow B 39 3 v (l.length + 1) (cellsE l ++ [.int .i64 0, .int .i64 e.1, .int .u64 e.2])) : RowE w B v (l ++ [e]) := by
  rw [cellsE_snoc] at h
  unfold RowE
  rw [List.length_append]
  exact h
/-- the cells that a slice of timers stands for -/
structure ViewE (w : World) (a : Option Addr) (l : List Wh.E) : Prop where
  is : 0 < l.length → ∃ g, a = some ⟨g, 0, none⟩ ∧ g < w.heap.size ∧ ∀ j (h : j < l.length), w.cell? ⟨g, j * 3, none⟩ = some (.int .i64 0) ∧ w.cell? ⟨g, j * 3 + 1, none⟩ = some (.int .i64 l[j].1) ∧ w.cell? ⟨g, j * 3 + 2, none⟩ = some (.int .u64 l[j].2)
theorem ViewE.below {w w' : World} {a : Option Addr} {l : List Wh.E} (h : ViewE w a l) (hb : Below w.heap.size w w') : ViewE w' a l := by
  refine ⟨fun h0 => ?_⟩
  obtain ⟨g, ha, hg, hc⟩ := h.is h0
  refine ⟨g, ha, Nat.lt_of_lt_of_le hg hb.size, fun j hj => ?_⟩
  rw [hb.cell (p := ⟨g, _, none⟩) hg, hb.cell (p := ⟨g, _, none⟩) hg, hb.cell (p := ⟨g, _, none⟩) hg]
  exact hc j hj
theorem RowE.view {w : World} {B : Nat} {v : Value} {l : List Wh.E} (h : RowE w B v l) : ∃ a cap, v = .slice a l.length cap ∧ ViewE w a l := by
  obtain ⟨hl, ⟨rfl, h0⟩ | ⟨g, cap, cur, rfl, hg, hc, hn, hm, hs, hx⟩⟩ := h
  · exact ⟨none, 0, by rw [h0], ⟨fun h => by omega⟩⟩
  · refine ⟨_, cap, rfl, ⟨fun h0 => ⟨g, rfl, lt_block hc, fun j hj => ?_⟩⟩⟩
    obtain ⟨e1, e2, e3⟩ := cellsE_get l j hj
    have hcell : ∀ k, k < l.length * 3 → w.cell? ⟨g, k, none⟩ = (cellsE l)[k]? := fun k hk => by
      rw [cell_of_row w g k cur _ _ hc, ← hx, List.getElem?_take_of_lt hk]
      simp
    exact ⟨by rw [hcell _ (by omega), e1], by rw [hcell _ (by omega), e2], by rw [hcell _ (by omega), e3]⟩

/-- a tick and whether there is one -/
def atV (r : Option Int) : Value := .tuple #[.int .u64 (r.getD 0), .bool r.isSome]

theorem run_min64 (ts : Array TypeId) (t : TypeId) (P : Program) (w : World) (a b : Int) : (Builtin.min_ ts t #[.int .u64 a, .int .u64 b]).run P w = .ok (.int .u64 (Wh.min2 a b)) w := by
  unfold Wh.min2
  simp [Builtin.min_, Builtin.min2]

/-- the cells that a slice of timers stands for, wherever it begins -/
structure ViewO (w : World) (a : Option Addr) (l : List Wh.E) : Prop where
  is : 0 < l.length → ∃ g off : Nat, a = some ⟨g, off, none⟩ ∧ g < w.heap.size ∧ ∀ j (h : j < l.length), w.cell? ⟨g, off + j * 3, none⟩ = some (.int .i64 0) ∧ w.cell? ⟨g, off + j * 3 + 1, none⟩ = some (.int .i64 l[j].1) ∧ w.cell? ⟨g, off + j * 3 + 2, none⟩ = some (.int .u64 l[j].2)
theorem ViewE.o {w : World} {a : Option Addr} {l : List Wh.E} (h : ViewE w a l) : ViewO w a l := ⟨fun h0 => by
  obtain ⟨g, ha, hg, hc⟩ := h.is h0
  exact ⟨g, 0, ha, hg, fun j hj => by simpa using hc j hj⟩⟩
theorem ViewO.below {w w' : World} {a : Option Addr} {l : List Wh.E} (h : ViewO w a l) (hb : Below w.heap.size w w') : ViewO w' a l := by
  refine ⟨fun h0 => ?_⟩
  obtain ⟨g, off, ha, hg, hc⟩ := h.is h0
  refine ⟨g, off, ha, Nat.lt_of_lt_of_le hg hb.size, fun j hj => ?_⟩
  rw [hb.cell (p := ⟨g, _, none⟩) hg, hb.cell (p := ⟨g, _, none⟩) hg, hb.cell (p := ⟨g, _, none⟩) hg]
  exact hc j hj

theorem own_slice {w : World} {B : Nat} {e : TypeId} {size : Nat} {v : Value} {n : Nat} {xs : List Value} (h : w.ownsRow B e size v (n + 1) xs) : ∃ g cap : Nat, v = .slice (some ⟨g, 0, none⟩) (n + 1) cap := by
  obtain ⟨_, h | ⟨g, cap, cur, hv, _⟩⟩ := h
  · omega
  · exact ⟨g, cap, hv⟩
theorem own_some {w : World} {B : Nat} {e : TypeId} {size : Nat} {v : Value} {n : Nat} {xs : List Value} (h : w.ownsRow B e size v n xs) : ∃ a cap, v = .slice a n cap := by
  obtain ⟨_, ⟨hv, h0⟩ | ⟨g, cap, cur, hv, _⟩⟩ := h
  · exact ⟨none, 0, by rw [hv, h0]⟩
  · exact ⟨_, cap, hv⟩
theorem alloc_lt (w : World) (o : Obj) : w.heap.size < (w.alloc o).heap.size := by simp

/-- the later of two ticks -/
def later (a b : Int) : Int := if b > a then b else a
theorem run_max64 (ts : Array TypeId) (t : TypeId) (P : Program) (w : World) (a b : Int) : (Builtin.max_ ts t #[.int .u64 a, .int .u64 b]).run P w = .ok (.int .u64 (later a b)) w := by
  unfold later
  simp [Builtin.max_, Builtin.max2]

/-- how a wheel lies: world, base, its block, its tick, its list, its blocks -/
abbrev WS := World → Nat → Nat → Int → List Wh.E → (Nat → Prop) → Prop
/-- it returns r; the wheel holds l' at tick n' -/
structure RetW (Is : WS) (r : Value) (B P : Nat) (n' : Int) (l' : List Wh.E) (F : Nat → Prop) (w : World) (e : Ending) (w' : World) : Prop where
  r : e = .returned r
  s : ∃ F', Is w' B P n' l' F' ∧ ∀ k, F' k → F k ∨ w.heap.size ≤ k
  c : Chg F w w'
/-- it returns what is due -/
structure RetWT (Is : WS) (t : List Wh.E) (B P : Nat) (n' : Int) (l' : List Wh.E) (F : Nat → Prop) (w : World) (e : Ending) (w' : World) : Prop where
  r : ∃ a cap, e = .returned (.slice a t.length cap) ∧ ViewO w' a t ∧ (∀ g off, a = some ⟨g, off, none⟩ → F g ∨ w.heap.size ≤ g) ∧ (a = none → cap = 0)
  s : ∃ F', Is w' B P n' l' F' ∧ ∀ k, F' k → F k ∨ w.heap.size ≤ k
  c : Chg F w w'
  x : ∃ F' a cap, Is w' B P n' l' F' ∧ (∀ k, F' k → F k ∨ w.heap.size ≤ k) ∧ e = .returned (.slice a t.length cap) ∧ RowE w' w.heap.size (.slice a t.length cap) t ∧ ∀ x, a = some x → ¬ F' x.block
structure WheelC (Is : WS) : Prop where
  keep : ∀ {w w' : World} {B P : Nat} {now : Int} {l : List Wh.E} {F : Nat → Prop}, Is w B P now l F → w.heap.size ≤ w'.heap.size → (∀ k, F k → w'.heap[k]? = w.heap[k]?) → Is w' B P now l F
  lt : ∀ {w : World} {B P : Nat} {now : Int} {l : List Wh.E} {F : Nat → Prop}, Is w B P now l F → ∀ k, F k → B ≤ k ∧ k < w.heap.size
  new : ∀ (now : Int) (w : World) (B : Nat), (Lit.int .u64 now).wf = true → B ≤ w.heap.size → Calls Try.prog 21 #[.int .u64 now] w fun e w' => ∃ P F, e = .returned (.pointer (some ⟨P, 0, none⟩)) ∧ Is w' B P now [] F ∧ Below w.heap.size w w' ∧ ∀ k, F k → w.heap.size ≤ k
  put : ∀ (id a : Int) (w : World) (B P : Nat) (now : Int) (l : List Wh.E) (F : Nat → Prop), (Lit.int .i64 id).wf = true → (Lit.int .u64 a).wf = true → (l.map (·.1)).Nodup → l.length ≤ 1000 → Is w B P now l F →
    Calls Try.prog 34 #[.pointer (some ⟨P, 0, none⟩), .int .i64 id, .int .u64 a] w (RetW Is (.int .i64 (Wh.putErr l id)) B P now (Wh.putL l id a) F w)
  drop : ∀ (id : Int) (w : World) (B P : Nat) (now : Int) (l : List Wh.E) (F : Nat → Prop), (Lit.int .i64 id).wf = true → (l.map (·.1)).Nodup → l.length ≤ 1000 → Is w B P now l F →
    Calls Try.prog 36 #[.pointer (some ⟨P, 0, none⟩), .int .i64 id] w (RetW Is (.bool (Wh.has l id)) B P now (Wh.without l id) F w)
  at_ : ∀ (id : Int) (w : World) (B P : Nat) (now : Int) (l : List Wh.E) (F : Nat → Prop), (Lit.int .i64 id).wf = true → (l.map (·.1)).Nodup → l.length ≤ 1000 → Is w B P now l F →
    Calls Try.prog 27 #[.pointer (some ⟨P, 0, none⟩), .int .i64 id] w (RetW Is (atV (Wh.find l id)) B P now l F w)
  len : ∀ (w : World) (B P : Nat) (now : Int) (l : List Wh.E) (F : Nat → Prop), (l.map (·.1)).Nodup → l.length ≤ 1000 → Is w B P now l F →
    Calls Try.prog 30 #[.pointer (some ⟨P, 0, none⟩)] w (RetW Is (.int .i64 (l.length : Int)) B P now l F w)
  next : ∀ (w : World) (B P : Nat) (now : Int) (l : List Wh.E) (F : Nat → Prop), (l.map (·.1)).Nodup → l.length ≤ 1000 → Is w B P now l F →
    Calls Try.prog 28 #[.pointer (some ⟨P, 0, none⟩)] w (RetW Is (atV (Wh.nextR l)) B P now l F w)
  tick : ∀ (w : World) (B P : Nat) (now : Int) (l : List Wh.E) (F : Nat → Prop), (l.map (·.1)).Nodup → l.length ≤ 1000 → Is w B P now l F →
    Calls Try.prog 31 #[.pointer (some ⟨P, 0, none⟩)] w (RetW Is (.int .u64 now) B P now l F w)
  turn : ∀ (tm : Int) (w : World) (B P : Nat) (now : Int) (l : List Wh.E) (F : Nat → Prop), (Lit.int .u64 tm).wf = true → (l.map (·.1)).Nodup → l.length ≤ 1000 → Is w B P now l F →
    Calls Try.prog 37 #[.pointer (some ⟨P, 0, none⟩), .int .u64 tm] w (RetWT Is (Wh.turned l tm) B P (later now tm) (Wh.rest l tm) F w)

end Go.Proofs.Ytmmfmpnkjienfaa
