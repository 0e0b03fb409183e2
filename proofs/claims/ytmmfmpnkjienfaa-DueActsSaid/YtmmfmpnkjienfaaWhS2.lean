/-
  How the program compares two elements; the sort.
-/
import Derived.Test.YtmmfmpnkjienfaaWhO2
import Derived.Shelf.SlSortCmp.WholeK
import Derived.Deep.RegionHeld3
namespace Go.Proofs.Ytmmfmpnkjienfaa
open Go.RowKit
set_option linter.unusedVariables false

/-- how two numbers stand -/
@[irreducible] def cmpI (x y : Int) : Int := if x < y then -1 else if x = y then 0 else 1
theorem cmpI_lt {x y : Int} (h : x < y) : cmpI x y = -1 := by unfold cmpI; rw [if_pos h]
theorem cmpI_eq (x : Int) : cmpI x x = 0 := by unfold cmpI; rw [if_neg (by omega), if_pos rfl]
theorem cmpI_gt {x y : Int} (h : y < x) : cmpI x y = 1 := by unfold cmpI; rw [if_neg (by omega), if_neg (by omega)]
theorem isNaNUC (x : Int) (w : World) : Calls Try.prog 55 #[.int .u64 x] w (Same (.bool false) w) := by
  go_enter Try.func55, Try.ntmps55
  go_wp2
  go_ret
  exact ⟨rfl, rfl⟩
theorem isNaNIC (x : Int) (w : World) : Calls Try.prog 56 #[.int .i64 x] w (Same (.bool false) w) := by
  go_enter Try.func56, Try.ntmps56
  go_wp2
  go_ret
  exact ⟨rfl, rfl⟩
theorem cmpUC (x y : Int) (w : World) : Calls Try.prog 46 #[.int .u64 x, .int .u64 y] w (Same (.int .i64 (cmpI x y)) w) := by
  have N := Lib.hid (fun z W => isNaNUC z W)
  rcases Int.lt_trichotomy x y with h | h | h
  · rw [cmpI_lt h]
    go_enter Try.func46, Try.ntmps46
    go_wp2_with (go_at_call 55; (with_reducible refine (N.out _ _).mono ?_); rintro e w1 ⟨rfl, rfl⟩)
    go_ret
    exact ⟨rfl, rfl⟩
  · subst h
    rw [cmpI_eq]
    go_enter Try.func46, Try.ntmps46
    go_wp2_with (go_at_call 55; (with_reducible refine (N.out _ _).mono ?_); rintro e w1 ⟨rfl, rfl⟩)
    go_ret
    exact ⟨rfl, rfl⟩
  · rw [cmpI_gt h]
    have h' : ¬ x < y := by omega
    go_enter Try.func46, Try.ntmps46
    go_wp2_with (go_at_call 55; (with_reducible refine (N.out _ _).mono ?_); rintro e w1 ⟨rfl, rfl⟩)
    go_ret
    exact ⟨rfl, rfl⟩
theorem cmpIC (x y : Int) (w : World) : Calls Try.prog 47 #[.int .i64 x, .int .i64 y] w (Same (.int .i64 (cmpI x y)) w) := by
  have N := Lib.hid (fun z W => isNaNIC z W)
  rcases Int.lt_trichotomy x y with h | h | h
  · rw [cmpI_lt h]
    go_enter Try.func47, Try.ntmps47
    go_wp2_with (go_at_call 56; (with_reducible refine (N.out _ _).mono ?_); rintro e w1 ⟨rfl, rfl⟩)
    go_ret
    exact ⟨rfl, rfl⟩
  · subst h
    rw [cmpI_eq]
    go_enter Try.func47, Try.ntmps47
    go_wp2_with (go_at_call 56; (with_reducible refine (N.out _ _).mono ?_); rintro e w1 ⟨rfl, rfl⟩)
    go_ret
    exact ⟨rfl, rfl⟩
  · rw [cmpI_gt h]
    have h' : ¬ x < y := by omega
    go_enter Try.func47, Try.ntmps47
    go_wp2_with (go_at_call 56; (with_reducible refine (N.out _ _).mono ?_); rintro e w1 ⟨rfl, rfl⟩)
    go_ret
    exact ⟨rfl, rfl⟩

/-- the first that is not 0 -/
@[irreducible] def orI (x y : Int) : Int := if x = 0 then y else x
set_option maxRecDepth 100000 in
theorem orC (g cap : Nat) (x y : Int) (w : World) (c0 : w.cell? ⟨g, 0, none⟩ = some (.int .i64 x)) (c1 : w.cell? ⟨g, 1, none⟩ = some (.int .i64 y)) :
    Calls Try.prog 45 #[.slice (some ⟨g, 0, none⟩) 2 cap] w (Same (.int .i64 (orI x y)) w) := by
  obtain ⟨r, hr⟩ : ∃ r, r = orI x y := ⟨_, rfl⟩
  rw [← hr]
  have HR := Lib.hid hr; clear hr
  go_enter Try.func45, Try.ntmps45
  go_wp2
  go_loop [8] (fun i => ∃ k : Nat, k ≤ 2 ∧ i = .int .i64 (k : Int) ∧ (0 < k → x = 0) ∧ (1 < k → y = 0)) (fun i => 2 - (intOf i).toNat)
  case atStart => exact ⟨0, by omega, rfl, by omega, by omega⟩
  case round =>
    obtain ⟨k, hk, rfl, h0, h1⟩ := hrel
    by_cases e0 : k = 0
    · subst e0
      clear h0 h1
      by_cases hx : x = 0
      · subst hx
        go_wp2
        go_round
        case rel => exact ⟨1, by omega, by go_num, by simp, by simp⟩
        case measure => simp [intOf]
      · have hr := HR.out
        unfold orI at hr
        rw [if_neg hx] at hr
        have E : (x == 0) = false := by simpa using hx
        subst hr
        clear hx
        go_wp2
        go_ret
        exact ⟨rfl, rfl⟩
    · have hx : x = 0 := h0 (by omega)
      subst hx
      have hr := HR.out
      unfold orI at hr
      rw [if_pos rfl] at hr
      subst hr
      by_cases e1 : k = 1
      · subst e1
        clear h0 h1
        by_cases hy : r = 0
        · subst hy
          go_wp2
          go_round
          case rel => exact ⟨2, by omega, by go_num, by simp, by simp⟩
          case measure => simp [intOf]
        · have E : (r == 0) = false := by simpa using hy
          clear hy
          go_wp2
          go_ret
          exact ⟨rfl, rfl⟩
      · obtain rfl : k = 2 := by omega
        have hy : r = 0 := h1 (by omega)
        subst hy
        go_wp2
        go_ret
        exact ⟨rfl, rfl⟩

/-- a cell of what has just been made -/
theorem cellNew (W : World) (news : Array Value) (t : TypeId) (k j : Nat) (h : k = W.heap.size) (u : Value) (hu : news[j]? = some u) : (W.alloc (.cells news t)).drew.cell? ⟨k, j, none⟩ = some u := by
  subst h
  show (W.alloc (.cells news t)).cell? _ = _
  rw [World.cell?_alloc_at news t _ j rfl, hu]
/-- by ticks, then by numbers -/
@[irreducible] def cfE (x y : Wh.E) : Int := orI (cmpI x.2 y.2) (cmpI x.1 y.1)
set_option maxRecDepth 100000 in
set_option maxHeartbeats 2000000 in
theorem compareC (x y : Wh.E) (w : World) : Calls Try.prog 54 #[.agg #[.int .i64 0, .int .i64 x.1, .int .u64 x.2], .agg #[.int .i64 0, .int .i64 y.1, .int .u64 y.2]] w fun e w' => e = .returned (.int .i64 (cfE x y)) ∧ ∃ q os', w' = Go.Sort.grow (w.drewN q) os' := by
  have hcf : cfE x y = orI (cmpI x.2 y.2) (cmpI x.1 y.1) := by unfold cfE; rfl
  rw [hcf]
  clear hcf
  obtain ⟨i, a⟩ := x
  obtain ⟨j, b⟩ := y
  show Calls Try.prog 54 #[.agg #[.int .i64 0, .int .i64 i, .int .u64 a], .agg #[.int .i64 0, .int .i64 j, .int .u64 b]] w fun e w' => e = .returned (.int .i64 (orI (cmpI a b) (cmpI i j))) ∧ ∃ q os', w' = Go.Sort.grow (w.drewN q) os'
  have K1 := Lib.hid (fun W => cmpUC a b W)
  have K2 := Lib.hid (fun W => cmpIC i j W)
  have K3 := Lib.hid (fun g cap u v W c0 c1 => orC g cap u v W c0 c1)
  generalize cmpI a b = u at *
  generalize cmpI i j = v at *
  go_enter Try.func54, Try.ntmps54
  go_upto_region 1 with (fail)
  go_region_held3 (fun w' => w'.cell? ⟨w.heap.size, 1, none⟩ = some (.int .i64 i) ∧ w'.cell? ⟨w.heap.size, 2, none⟩ = some (.int .u64 a) ∧ w'.cell? ⟨w.heap.size + 1, 1, none⟩ = some (.int .i64 j) ∧ w'.cell? ⟨w.heap.size + 1, 2, none⟩ = some (.int .u64 b)) (first | go_keep) (first | (go_at_call 46; (with_reducible refine (K1.out _).mono ?_); rintro e w1 ⟨rfl, rfl⟩) | (go_at_call 47; (with_reducible refine (K2.out _).mono ?_); rintro e w1 ⟨rfl, rfl⟩) | (go_at_call 45; refine (K3.out _ _ u v _ (cellNew _ _ _ _ _ (by simp) _ rfl) (cellNew _ _ _ _ _ (by simp) _ rfl)).mono ?_; rintro e w1 ⟨rfl, rfl⟩))
  go_wp2
  go_ret
  refine ⟨rfl, 1, #[.cells #[.int .i64 0, .int .i64 i, .int .u64 a] 39, .cells #[.int .i64 0, .int .i64 j, .int .u64 b] 39, .cells #[.int .i64 u, .int .i64 v] 3], ?_⟩
  have e3 : ∀ (W : World) (a b c : Obj), ((W.alloc a).alloc b).alloc c = Go.Sort.grow W #[a, b, c] := fun W a b c => by rw [Go.Sort.alloc_eq_grow, Go.Sort.alloc_eq_grow, Go.Sort.alloc_eq_grow, Go.Sort.grow_grow, Go.Sort.grow_grow]; rfl
  rw [e3]
  rfl
end Go.Proofs.Ytmmfmpnkjienfaa
