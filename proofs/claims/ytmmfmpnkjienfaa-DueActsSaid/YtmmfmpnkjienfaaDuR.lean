/-
  The document's set of timers: its rows; May, before, Find, least, Next, without.
-/
import Derived.Test.YtmmfmpnkjienfaaDuM
import Derived.BigQuiet
namespace Go.Proofs.Ytmmfmpnkjienfaa
open Go.RowKit
set_option linter.unusedVariables false

/-- the three cells of a timer with its kind -/
def pvD (e : Wh.E) : List Value := [.int .i64 (Wh.kd e), .int .i64 (Wh.nm e), .int .u64 e.2]
def cellsD (l : List Wh.E) : List Value := l.flatMap pvD
theorem cellsD_snoc (l : List Wh.E) (e : Wh.E) : cellsD l ++ [.int .i64 (Wh.kd e), .int .i64 (Wh.nm e), .int .u64 e.2] = cellsD (l ++ [e]) := by simp [cellsD, pvD]
theorem cellsD_length : ∀ l : List Wh.E, (cellsD l).length = l.length * 3
  | [] => rfl
  | p :: r => by
    have := cellsD_length r
    show (pvD p ++ cellsD r).length = _
    rw [List.length_append, this, List.length_cons]
    simp [pvD]; omega
theorem cellsD_get : ∀ (l : List Wh.E) (j : Nat) (h : j < l.length), (cellsD l)[j * 3]? = some (.int .i64 (Wh.kd l[j])) ∧ (cellsD l)[j * 3 + 1]? = some (.int .i64 (Wh.nm l[j])) ∧ (cellsD l)[j * 3 + 2]? = some (.int .u64 l[j].2)
  | p :: r, 0, h => ⟨rfl, rfl, rfl⟩
  | p :: r, j + 1, h => by
    have h' : j < r.length := by simp at h; omega
    obtain ⟨h1, h2, h3⟩ := cellsD_get r j h'
    have e : ∀ k, (cellsD (p :: r))[k + 3]? = (cellsD r)[k]? := fun k => rfl
    rw [show (j + 1) * 3 = j * 3 + 3 by omega, show j * 3 + 3 + 1 = (j * 3 + 1) + 3 by omega, show j * 3 + 3 + 2 = (j * 3 + 2) + 3 by omega, e, e, e]
    exact ⟨h1, h2, h3⟩
def RowD (w : World) (B : Nat) (v : Value) (l : List Wh.E) : Prop := w.ownsRow B 39 3 v l.length (cellsD l)
theorem RowD.nil (w : World) (B : Nat) : RowD w B (.slice none 0 0) [] := World.ownsRow_nil w B _ 3
theorem RowD.lit (w : World) (B : Nat) (hB : B ≤ w.heap.size) : RowD (w.alloc (.cells #[] 39)) B (.slice (some ⟨w.heap.size, 0, none⟩) 0 0) [] := own_lit w B _ 3 hB
theorem RowD.below {w w' : World} {B : Nat} {v : Value} {l : List Wh.E} (h : RowD w B v l) (hb : Below w.heap.size w w') : RowD w' B v l := own_below h hb
theorem RowD.snoc {w : World} {B : Nat} {v : Value} {l : List Wh.E} {e : Wh.E} (h : w.ownsRow B 39 3 v (l.length + 1) (cellsD l ++ [.int .i64 (Wh.kd e), .int .i64 (Wh.nm e), .int .u64 e.2])) : RowD w B v (l ++ [e]) := by
  rw [cellsD_snoc] at h
  unfold RowD
  rw [List.length_append]
  exact h
/-- the cells that a slice of timers stands for -/
structure ViewD (w : World) (a : Option Addr) (l : List Wh.E) : Prop where
  is : 0 < l.length → ∃ g, a = some ⟨g, 0, none⟩ ∧ g < w.heap.size ∧ ∀ j (h : j < l.length), w.cell? ⟨g, j * 3, none⟩ = some (.int .i64 (Wh.kd l[j])) ∧ w.cell? ⟨g, j * 3 + 1, none⟩ = some (.int .i64 (Wh.nm l[j])) ∧ w.cell? ⟨g, j * 3 + 2, none⟩ = some (.int .u64 l[j].2)
theorem ViewD.below {w w' : World} {a : Option Addr} {l : List Wh.E} (h : ViewD w a l) (hb : Below w.heap.size w w') : ViewD w' a l := by
  refine ⟨fun h0 => ?_⟩
  obtain ⟨g, ha, hg, hc⟩ := h.is h0
  refine ⟨g, ha, Nat.lt_of_lt_of_le hg hb.size, fun j hj => ?_⟩
  rw [hb.cell (p := ⟨g, _, none⟩) hg, hb.cell (p := ⟨g, _, none⟩) hg, hb.cell (p := ⟨g, _, none⟩) hg]
  exact hc j hj
theorem RowD.view {w : World} {B : Nat} {v : Value} {l : List Wh.E} (h : RowD w B v l) : ∃ a cap, v = .slice a l.length cap ∧ ViewD w a l := by
  obtain ⟨hl, ⟨rfl, h0⟩ | ⟨g, cap, cur, rfl, hg, hc, hn, hm, hs, hx⟩⟩ := h
  · exact ⟨none, 0, by rw [h0], ⟨fun h => by omega⟩⟩
  · refine ⟨_, cap, rfl, ⟨fun h0 => ⟨g, rfl, lt_block hc, fun j hj => ?_⟩⟩⟩
    obtain ⟨e1, e2, e3⟩ := cellsD_get l j hj
    have hcell : ∀ k, k < l.length * 3 → w.cell? ⟨g, k, none⟩ = (cellsD l)[k]? := fun k hk => by
      rw [cell_of_row w g k cur _ _ hc, ← hx, List.getElem?_take_of_lt hk]
      simp
    exact ⟨by rw [hcell _ (by omega), e1], by rw [hcell _ (by omega), e2], by rw [hcell _ (by omega), e3]⟩

theorem refMayC (k i : Int) (w : World) : Calls Try.prog 39 #[.int .i64 k, .int .i64 i] w (Same (.bool (decide (Wh.May k i))) w) := by
  by_cases h : Wh.May k i
  · rw [decide_eq_true h]
    obtain ⟨h1, h2, h3, h4⟩ := h
    have t1 : decide (1 ≤ k) = true := decide_eq_true h1
    have t2 : decide (k ≤ 4) = true := decide_eq_true h2
    have t3 : decide (0 ≤ i) = true := decide_eq_true h3
    have t4 : decide (i ≤ 1099511627776) = true := decide_eq_true h4
    go_enter Try.func39, Try.ntmps39
    go_wp2
    go_ret
    exact ⟨rfl, rfl⟩
  · rw [decide_eq_false h]
    unfold Wh.May at h
    by_cases h1 : 1 ≤ k
    · have t1 : decide (1 ≤ k) = true := decide_eq_true h1
      by_cases h2 : k ≤ 4
      · have t2 : decide (k ≤ 4) = true := decide_eq_true h2
        by_cases h3 : 0 ≤ i
        · have t3 : decide (0 ≤ i) = true := decide_eq_true h3
          have t4 : decide (i ≤ 1099511627776) = false := decide_eq_false (fun h4 => h ⟨h1, h2, h3, h4⟩)
          clear h
          go_enter Try.func39, Try.ntmps39
          go_wp2
          go_ret
          exact ⟨rfl, rfl⟩
        · have t3 : decide (0 ≤ i) = false := decide_eq_false h3
          clear h
          go_enter Try.func39, Try.ntmps39
          go_wp2
          go_ret
          exact ⟨rfl, rfl⟩
      · have t2 : decide (k ≤ 4) = false := decide_eq_false h2
        clear h
        go_enter Try.func39, Try.ntmps39
        go_wp2
        go_ret
        exact ⟨rfl, rfl⟩
    · have t1 : decide (1 ≤ k) = false := decide_eq_false h1
      clear h
      go_enter Try.func39, Try.ntmps39
      go_wp2
      go_ret
      exact ⟨rfl, rfl⟩

theorem box2 (w : World) (x y : Obj) : Below w.heap.size w ((w.alloc x).alloc y) := ((Below.refl w.heap.size w).alloc (Nat.le_refl _) x).alloc (by simp) y
/-- does one come ahead of the other? -/
def befB (k1 i1 t1 k2 i2 t2 : Int) : Bool := if t1 ≠ t2 then decide (t1 < t2) else if k1 ≠ k2 then decide (k1 < k2) else decide (i1 < i2)
set_option maxRecDepth 100000 in
theorem beforeC (k1 i1 t1 k2 i2 t2 : Int) (w : World) : Calls Try.prog 42 #[.agg #[.int .i64 k1, .int .i64 i1, .int .u64 t1], .agg #[.int .i64 k2, .int .i64 i2, .int .u64 t2]] w (Ret (.bool (befB k1 i1 t1 k2 i2 t2)) w) := by
  unfold befB
  by_cases h1 : t1 = t2
  · have e1 : (t1 != t2) = false := by simpa using h1
    rw [if_neg (by simpa using h1)]
    by_cases h2 : k1 = k2
    · have e2 : (k1 != k2) = false := by simpa using h2
      rw [if_neg (by simpa using h2)]
      clear h1 h2
      go_enter Try.func42, Try.ntmps42
      go_wp2
      go_ret
      exact ⟨rfl, box2 _ _ _⟩
    · have e2 : (k1 != k2) = true := by simpa using h2
      rw [if_pos h2]
      clear h1 h2
      go_enter Try.func42, Try.ntmps42
      go_wp2
      go_ret
      exact ⟨rfl, box2 _ _ _⟩
  · have e1 : (t1 != t2) = true := by simpa using h1
    rw [if_pos h1]
    clear h1
    go_enter Try.func42, Try.ntmps42
    go_wp2
    go_ret
    exact ⟨rfl, box2 _ _ _⟩
theorem befB_less (a b : Wh.E) : befB (Wh.kd a) (Wh.nm a) a.2 (Wh.kd b) (Wh.nm b) b.2 = true ↔ Wh.less a b := by
  rw [Wh.less_kd]
  unfold befB
  split
  · rename_i h; rw [decide_eq_true_iff]; omega
  · rename_i h
    split
    · rename_i h2; rw [decide_eq_true_iff]; omega
    · rename_i h2; rw [decide_eq_true_iff]; omega

/-- the place of a timer, or -1 -/
structure RetPlace (l : List Wh.E) (k i : Int) (w : World) (e : Ending) (w' : World) : Prop where
  r : ∃ r : Int, e = .returned (.int .i64 r) ∧ ((r = -1 ∧ ∀ x ∈ l, ¬ (Wh.kd x = k ∧ Wh.nm x = i)) ∨ ∃ j : Nat, r = (j : Int) ∧ ∃ h : j < l.length, Wh.kd l[j] = k ∧ Wh.nm l[j] = i)
  b : Below w.heap.size w w'
set_option maxRecDepth 100000 in
set_option maxHeartbeats 1000000 in
theorem refFindC (now k i : Int) (a : Option Addr) (cap : Nat) (l : List Wh.E) (w : World) (hl : l.length ≤ 1000000) (h : ViewD w a l) :
    Calls Try.prog 10 #[.agg #[.int .u64 now, .slice a l.length cap], .int .i64 k, .int .i64 i] w (RetPlace l k i w) := by
  have HV := Lib.hid h; clear h
  have hbx : Below w.heap.size w (w.alloc (.cells #[.int .u64 now, .slice a l.length cap] 30)) := (Below.refl _ _).alloc (Nat.le_refl _) _
  go_enter Try.func10, Try.ntmps10
  go_wp2
  go_loop [7] (fun s => ∃ j : Nat, j ≤ l.length ∧ s = .int .i64 (j : Int) ∧ Hid (∀ p (h : p < l.length), p < j → ¬ (Wh.kd l[p] = k ∧ Wh.nm l[p] = i))) (fun s => l.length - (intOf s).toNat)
  case atStart => exact ⟨0, by omega, rfl, Lib.hid (fun p h h2 => by omega)⟩
  case round =>
    obtain ⟨j, hj, rfl, hn⟩ := hrel
    by_cases hlt : j < l.length
    · obtain ⟨g, rfl, hg, hc⟩ := HV.out.is (by omega)
      obtain ⟨c0, c1, _⟩ := hc j hlt
      have d0 := (hbx.cell (p := ⟨g, j * 3, none⟩) hg).trans c0
      have d1 := (hbx.cell (p := ⟨g, j * 3 + 1, none⟩) hg).trans c1
      have hnx : ¬ (Wh.kd l[j] = k ∧ Wh.nm l[j] = i) → ∀ p (h : p < l.length), p < j + 1 → ¬ (Wh.kd l[p] = k ∧ Wh.nm l[p] = i) := fun hne p h h2 => by
        by_cases e : p = j
        · subst e; exact hne
        · exact hn.out p h (by omega)
      have hyes : (Wh.kd l[j] = k ∧ Wh.nm l[j] = i) → RetPlace l k i w (.returned (.int .i64 (j : Int))) (w.alloc (.cells #[.int .u64 now, .slice (some ⟨g, 0, none⟩) l.length cap] 30)) := fun he => ⟨⟨_, rfl, Or.inr ⟨j, rfl, hlt, he⟩⟩, hbx⟩
      have HN := Lib.hid hnx
      have HY := Lib.hid hyes
      clear hc c0 c1 hnx hyes hn
      generalize Wh.kd l[j] = x at *
      generalize Wh.nm l[j] = y at *
      by_cases e1 : x = k
      · have t1 : (x == k) = true := by simpa using e1
        by_cases e2 : y = i
        · have t2 : (y == i) = true := by simpa using e2
          have H := Lib.hid (HY.out ⟨e1, e2⟩)
          clear e1 e2 HN HY
          go_wp2
          go_ret
          exact H.out
        · have t2 : (y == i) = false := by simpa using e2
          have H := Lib.hid (HN.out (fun h => e2 h.2))
          clear e1 e2 HN HY
          go_wp2
          go_round
          case rel => exact ⟨j + 1, by omega, by go_num, H⟩
          case measure => simp [intOf]; omega
      · have t1 : (x == k) = false := by simpa using e1
        have H := Lib.hid (HN.out (fun h => e1 h.1))
        clear e1 HN HY
        go_wp2
        go_round
        case rel => exact ⟨j + 1, by omega, by go_num, H⟩
        case measure => simp [intOf]; omega
    · obtain rfl : j = l.length := by omega
      go_wp2
      go_ret
      exact ⟨⟨_, rfl, Or.inl ⟨rfl, fun x hx => by
        obtain ⟨p, hp, rfl⟩ := List.getElem_of_mem hx
        exact hn.out p hp hp⟩⟩, hbx⟩
end Go.Proofs.Ytmmfmpnkjienfaa
