/-
  Rows of timers; what the document's wheel tells: At, Next, the place of the first.
-/
import Derived.Test.YtmglpjbikknjgaaWhMath
import Derived.Test.YtmglpjbikknjgaaRowsOwn
import Derived.BigQuiet
namespace Go.Proofs.Ytmglpjbikknjgaa
open Go.RowKit
set_option linter.unusedVariables false

/-- the three cells of a timer of kind 0 -/
def pvE (e : Wh.E) : List Value := [.int .i64 0, .int .i64 e.1, .int .u64 e.2]
def cellsE (l : List Wh.E) : List Value := l.flatMap pvE
theorem cellsE_snoc (l : List Wh.E) (e : Wh.E) : cellsE l ++ [.int .i64 0, .int .i64 e.1, .int .u64 e.2] = cellsE (l ++ [e]) := by simp [cellsE, pvE]
theorem cellsE_length : ∀ l : List Wh.E, (cellsE l).length = l.length * 3
  | [] => rfl
  | p :: r => by
    have := cellsE_length r
    show (pvE p ++ cellsE r).length = _
    rw [List.length_append, this, List.length_cons]
    simp [pvE]; omega
theorem cellsE_get : ∀ (l : List Wh.E) (j : Nat) (h : j < l.length), (cellsE l)[j * 3]? = some (.int .i64 0) ∧ (cellsE l)[j * 3 + 1]? = some (.int .i64 l[j].1) ∧ (cellsE l)[j * 3 + 2]? = some (.int .u64 l[j].2)
  | p :: r, 0, h => ⟨rfl, rfl, rfl⟩
  | p :: r, j + 1, h => by
    have h' : j < r.length := by simp at h; omega
    obtain ⟨h1, h2, h3⟩ := cellsE_get r j h'
    have e : ∀ k, (cellsE (p :: r))[k + 3]? = (cellsE r)[k]? := fun k => rfl
    rw [show (j + 1) * 3 = j * 3 + 3 by omega, show j * 3 + 3 + 1 = (j * 3 + 1) + 3 by omega, show j * 3 + 3 + 2 = (j * 3 + 2) + 3 by omega, e, e, e]
    exact ⟨h1, h2, h3⟩
/-- a slice, whose row is of this call's own blocks, that holds these timers -/
def RowE (w : World) (B : Nat) (v : Value) (l : List Wh.E) : Prop := w.ownsRow B 51 3 v l.length (cellsE l)
theorem infoTimer : (Try.prog.info? 51).map (fun i => (i.zero, i.size, i.bytes)) = some (some (.agg #[.int .i64 0, .int .i64 0, .int .u64 0]), 3, 24) := by kernel_rfl
theorem RowE.nil (w : World) (B : Nat) : RowE w B (.slice none 0 0) [] := World.ownsRow_nil w B _ 3
theorem RowE.lit (w : World) (B : Nat) (hB : B ≤ w.heap.size) : RowE (w.alloc (.cells #[] 51)) B (.slice (some ⟨w.heap.size, 0, none⟩) 0 0) [] := own_lit w B _ 3 hB
theorem RowE.below {w w' : World} {B : Nat} {v : Value} {l : List Wh.E} (h : RowE w B v l) (hb : Below w.heap.size w w') : RowE w' B v l := own_below h hb
theorem RowE.snoc {w : World} {B : Nat} {v : Value} {l : List Wh.E} {e : Wh.E} (h : w.ownsRow B 51 3 v (l.length + 1) (cellsE l ++ [.int .i64 0, .int .i64 e.1, .int .u64 e.2])) : RowE w B v (l ++ [e]) := by
  rw [cellsE_snoc] at h
  unfold RowE
  rw [List.length_append]
  exact h
/-- the cells that a slice of timers stands for -/
structure ViewE (w : World) (a : Option Addr) (l : List Wh.E) : Prop where
  is : 0 < l.length → ∃ g, a = some ⟨g, 0, none⟩ ∧ g < w.heap.size ∧ ∀ j (h : j < l.length), w.cell? ⟨g, j * 3, none⟩ = some (.int .i64 0) ∧ w.cell? ⟨g, j * 3 + 1, none⟩ = some (.int .i64 l[j].1) ∧ w.cell? ⟨g, j * 3 + 2, none⟩ = some (.int .u64 l[j].2)
theorem ViewE.below {w w' : World} {a : Option Addr} {l : List Wh.E} (h : ViewE w a l) (hb : Below w.heap.size w w') : ViewE w' a l := by
  refine ⟨fun h0 => ?_⟩
  obtain ⟨g, ha, hg, hc⟩ := h.is h0
  refine ⟨g, ha, Nat.lt_of_lt_of_le hg hb.size, fun j hj => ?_⟩
  rw [hb.cell (p := ⟨g, _, none⟩) hg, hb.cell (p := ⟨g, _, none⟩) hg, hb.cell (p := ⟨g, _, none⟩) hg]
  exact hc j hj
theorem RowE.view {w : World} {B : Nat} {v : Value} {l : List Wh.E} (h : RowE w B v l) : ∃ a cap, v = .slice a l.length cap ∧ ViewE w a l := by
  obtain ⟨hl, ⟨rfl, h0⟩ | ⟨g, cap, cur, rfl, hg, hc, hn, hm, hs, hx⟩⟩ := h
  · exact ⟨none, 0, by rw [h0], ⟨fun h => by omega⟩⟩
  · refine ⟨_, cap, rfl, ⟨fun h0 => ⟨g, rfl, lt_block hc, fun j hj => ?_⟩⟩⟩
    obtain ⟨e1, e2, e3⟩ := cellsE_get l j hj
    have hcell : ∀ k, k < l.length * 3 → w.cell? ⟨g, k, none⟩ = (cellsE l)[k]? := fun k hk => by
      rw [cell_of_row w g k cur _ _ hc, ← hx, List.getElem?_take_of_lt hk]
      simp
    exact ⟨by rw [hcell _ (by omega), e1], by rw [hcell _ (by omega), e2], by rw [hcell _ (by omega), e3]⟩

/-- a tick and whether there is one -/
def atV (r : Option Int) : Value := .tuple #[.int .u64 (r.getD 0), .bool r.isSome]

set_option maxRecDepth 100000 in
set_option maxHeartbeats 1000000 in
theorem refAtC (now id : Int) (a : Option Addr) (cap : Nat) (l : List Wh.E) (w : World) (hl : l.length ≤ 1000000) (h : ViewE w a l) :
    Calls Try.prog 23 #[.agg #[.int .u64 now, .slice a l.length cap], .int .i64 id] w (Ret (atV (Wh.find l id)) w) := by
  obtain ⟨r, hR⟩ : ∃ r, r = Wh.find l id := ⟨_, rfl⟩
  rw [← hR]
  have HR := Lib.hid hR; clear hR
  have HV := Lib.hid h; clear h
  have hbx : Below w.heap.size w (w.alloc (.cells #[.int .u64 now, .slice a l.length cap] 30)) := (Below.refl _ _).alloc (Nat.le_refl _) _
  go_enter Try.func23, Try.ntmps23
  go_wp2
  go_loop [6] (fun i => ∃ k : Nat, k ≤ l.length ∧ i = .int .i64 (k : Int) ∧ Hid (r = Wh.find (l.drop k) id)) (fun i => l.length - (intOf i).toNat)
  case atStart => exact ⟨0, by omega, rfl, by simpa using HR⟩
  case round =>
    obtain ⟨k, hk, rfl, hr⟩ := hrel
    replace hr := hr.out
    by_cases hlt : k < l.length
    · rw [Wh.find_drop l id k hlt] at hr
      obtain ⟨g, rfl, hg, hc⟩ := HV.out.is (by omega)
      obtain ⟨_, c1, c2⟩ := hc k hlt
      have d1 := (hbx.cell (p := ⟨g, k * 3 + 1, none⟩) hg).trans c1
      have d2 := (hbx.cell (p := ⟨g, k * 3 + 2, none⟩) hg).trans c2
      clear hc c1 c2 HR
      generalize l[k].1 = x at *
      generalize l[k].2 = y at *
      by_cases e : x = id
      · rw [if_pos e] at hr
        subst hr e
        clear hk
        go_wp2
        go_ret2
        exact ⟨rfl, hbx⟩
      · have E : (x == id) = false := by simpa using e
        rw [if_neg e] at hr
        have HR := Lib.hid hr
        clear hr e
        go_wp2
        go_round
        case rel => exact ⟨k + 1, by omega, by go_num, HR⟩
        case measure => simp [intOf]; omega
    · obtain rfl : k = l.length := by omega
      rw [List.drop_length] at hr
      replace hr : r = none := hr
      clear HR
      subst hr
      go_wp2
      go_ret2
      exact ⟨rfl, hbx⟩

theorem run_min64 (ts : Array TypeId) (t : TypeId) (P : Program) (w : World) (a b : Int) : (Builtin.min_ ts t #[.int .u64 a, .int .u64 b]).run P w = .ok (.int .u64 (Wh.min2 a b)) w := by
  unfold Wh.min2
  simp [Builtin.min_, Builtin.min2]

set_option maxRecDepth 100000 in
set_option maxHeartbeats 1000000 in
theorem refNextC (now : Int) (a : Option Addr) (cap : Nat) (l : List Wh.E) (w : World) (hl : l.length ≤ 1000000) (h : ViewE w a l) :
    Calls Try.prog 29 #[.agg #[.int .u64 now, .slice a l.length cap]] w (Ret (atV (Wh.nextR l)) w) := by
  have hbx : Below w.heap.size w (w.alloc (.cells #[.int .u64 now, .slice a l.length cap] 30)) := (Below.refl _ _).alloc (Nat.le_refl _) _
  by_cases h0 : l.length = 0
  · have e : l = [] := List.length_eq_zero_iff.1 h0
    subst e
    clear h0
    go_enter Try.func29, Try.ntmps29
    go_wp2
    go_ret2
    exact ⟨rfl, hbx⟩
  · obtain ⟨r, hR⟩ : ∃ r, Wh.nextR l = some r ∧ r = (l.drop 1).foldl (fun m x => Wh.min2 m x.2) (l[0]'(by omega)).2 := by
      cases l with
      | nil => simp at h0
      | cons x t => exact ⟨_, rfl, rfl⟩
    rw [hR.1]
    have HR := Lib.hid hR.2; clear hR
    obtain ⟨g, rfl, hg, hc⟩ := h.is (by omega)
    have d0 := (hbx.cell (p := ⟨g, 0 * 3 + 2, none⟩) hg).trans (hc 0 (by omega)).2.2
    have hl0 : 0 < l.length := by omega
    have E0 : ((l.length : Int) == 0) = false := by simp; intro e; simp [e] at h0
    have HC := Lib.hid hc; clear hc h
    simp only [Nat.zero_mul, Nat.zero_add] at d0
    have hmin := run_min64
    go_enter Try.func29, Try.ntmps29
    go_wp2
    go_loop [4, 5] (fun m i => ∃ (k : Nat) (q : Int), 1 ≤ k ∧ k ≤ l.length ∧ i = .int .i64 (k : Int) ∧ m = .int .u64 q ∧ Hid (r = (l.drop k).foldl (fun m x => Wh.min2 m x.2) q)) (fun _ i => l.length - (intOf i).toNat)
    case atStart => exact ⟨1, _, by omega, by omega, rfl, rfl, HR⟩
    case round =>
      obtain ⟨k, q, h1, hk, rfl, rfl, hr⟩ := hrel
      replace hr := hr.out
      clear HR d0
      by_cases hlt : k < l.length
      · have d2 := (hbx.cell (p := ⟨g, k * 3 + 2, none⟩) hg).trans (HC.out k hlt).2.2
        rw [List.drop_eq_getElem_cons hlt, List.foldl_cons] at hr
        have HR := Lib.hid hr; clear hr
        go_wp2
        go_round
        case rel => exact ⟨k + 1, _, by omega, by omega, by go_num, rfl, HR⟩
        case measure => simp [intOf]; omega
      · obtain rfl : k = l.length := by omega
        rw [List.drop_length] at hr
        replace hr : r = q := hr
        subst hr
        go_wp2
        go_ret2
        exact ⟨rfl, hbx⟩

/-- it returns the place of the first -/
structure RetFirst (l : List Wh.E) (w : World) (e : Ending) (w' : World) : Prop where
  r : ∃ k : Nat, e = .returned (.int .i64 (k : Int)) ∧ Wh.Least l k
  b : Below w.heap.size w w'
set_option maxRecDepth 100000 in
set_option maxHeartbeats 4000000 in
theorem refFirstC (now : Int) (a : Option Addr) (cap : Nat) (l : List Wh.E) (w : World) (h0 : 0 < l.length) (hl : l.length ≤ 1000000) (h : ViewE w a l) :
    Calls Try.prog 28 #[.agg #[.int .u64 now, .slice a l.length cap]] w (RetFirst l w) := by
  have hbx : Below w.heap.size w (w.alloc (.cells #[.int .u64 now, .slice a l.length cap] 30)) := (Below.refl _ _).alloc (Nat.le_refl _) _
  obtain ⟨g, rfl, hg, hc⟩ := h.is h0
  have HC := Lib.hid hc; clear hc h
  go_enter Try.func28, Try.ntmps28
  go_wp2
  go_loopw [3, 4] (fun m i wr => ∃ (k j : Nat), 1 ≤ k ∧ k ≤ l.length ∧ j < k ∧ i = .int .i64 (k : Int) ∧ m = .int .i64 (j : Int) ∧ wr.cell? ⟨w.heap.size, 1, none⟩ = some (.slice (some ⟨g, 0, none⟩) l.length cap) ∧ Below w.heap.size w wr ∧ Hid (∃ hj : j < l.length, ∀ i (hi : i < l.length), i < k → ¬ Wh.less l[i] l[j])) (fun _ i _ => l.length - (intOf i).toNat)
  case atStart => exact ⟨1, 0, by omega, by omega, by omega, rfl, rfl, World.cell?_alloc_at _ _ _ 1 rfl, hbx, Lib.hid ⟨h0, fun i hi h => by
    obtain rfl : i = 0 := by omega
    exact Wh.less_irr⟩⟩
  case round =>
    obtain ⟨k, j, h1, hk, hj, rfl, rfl, hbox, hb, hall⟩ := hrel
    clear hbx
    by_cases hlt : k < l.length
    · obtain ⟨hjl, hall⟩ := hall.out
      obtain ⟨_, c1, c2⟩ := HC.out k hlt
      obtain ⟨_, d1, d2⟩ := HC.out j hjl
      replace c1 := (hb.cell (p := ⟨g, k * 3 + 1, none⟩) hg).trans c1
      replace c2 := (hb.cell (p := ⟨g, k * 3 + 2, none⟩) hg).trans c2
      replace d1 := (hb.cell (p := ⟨g, j * 3 + 1, none⟩) hg).trans d1
      replace d2 := (hb.cell (p := ⟨g, j * 3 + 2, none⟩) hg).trans d2
      have hkeep : ¬ Wh.less l[k] l[j] → Hid (∃ hj : j < l.length, ∀ i (hi : i < l.length), i < k + 1 → ¬ Wh.less l[i] l[j]) := fun h => Lib.hid ⟨hjl, fun i hi hik => by
        by_cases e : i = k
        · subst e; exact h
        · exact hall i hi (by omega)⟩
      have hturn : Wh.less l[k] l[j] → Hid (∃ hj : k < l.length, ∀ i (hi : i < l.length), i < k + 1 → ¬ Wh.less l[i] l[k]) := fun h => Lib.hid ⟨hlt, fun i hi hik hl' => by
        by_cases e : i = k
        · subst e; exact Wh.less_irr hl'
        · exact hall i hi (by omega) (Wh.less_trans hl' h)⟩
      have HK := Lib.hid hkeep; clear hkeep
      have HT := Lib.hid hturn; clear hturn hall
      have hless : Wh.less l[k] l[j] ↔ l[k].2 < l[j].2 ∨ (l[k].2 = l[j].2 ∧ l[k].1 < l[j].1) := Iff.rfl
      generalize Wh.less l[k] l[j] = L at *
      generalize l[k].1 = x at *
      generalize l[k].2 = y at *
      generalize l[j].1 = u at *
      generalize l[j].2 = v at *
      have HL := Lib.hid hless; clear hless
      by_cases e1 : y < v
      · have t1 : decide (y < v) = true := decide_eq_true e1
        have H := HT.out (HL.out.2 (Or.inl e1))
        clear HK HT HL e1
        go_wp2
        go_quiet (fail)
        go_wp2
        go_roundw
        case rel => exact ⟨k + 1, k, by omega, by omega, by omega, by go_num, rfl, hbox, below_drewN hb _, H⟩
        case measure => simp [intOf]; omega
      · have t1 : decide (y < v) = false := decide_eq_false e1
        by_cases e2 : y = v
        · have t2 : (y == v) = true := by simpa using e2
          by_cases e3 : x < u
          · have t3 : decide (x < u) = true := decide_eq_true e3
            have H := HT.out (HL.out.2 (Or.inr ⟨e2, e3⟩))
            clear HK HT HL e1 e2 e3
            go_wp2
            go_quiet (fail)
            go_wp2
            go_roundw
            case rel => exact ⟨k + 1, k, by omega, by omega, by omega, by go_num, rfl, hbox, below_drewN hb _, H⟩
            case measure => simp [intOf]; omega
          · have t3 : decide (x < u) = false := decide_eq_false e3
            have H := HK.out (fun h => by rcases HL.out.1 h with h | h <;> omega)
            clear HK HT HL e1 e2 e3
            go_wp2
            go_quiet (fail)
            go_wp2
            go_roundw
            case rel => exact ⟨k + 1, j, by omega, by omega, by omega, by go_num, rfl, hbox, below_drewN hb _, H⟩
            case measure => simp [intOf]; omega
        · have t2 : (y == v) = false := by simpa using e2
          have H := HK.out (fun h => by rcases HL.out.1 h with h | h <;> omega)
          clear HK HT HL e1 e2
          go_wp2
          go_quiet (fail)
          go_wp2
          go_roundw
          case rel => exact ⟨k + 1, j, by omega, by omega, by omega, by go_num, rfl, hbox, below_drewN hb _, H⟩
          case measure => simp [intOf]; omega
    · obtain rfl : k = l.length := by omega
      go_wp2
      go_ret
      exact ⟨⟨j, rfl, by obtain ⟨h1, h2⟩ := hall.out; exact ⟨h1, fun i hi => h2 i hi hi⟩⟩, hb⟩
end Go.Proofs.Ytmglpjbikknjgaa
