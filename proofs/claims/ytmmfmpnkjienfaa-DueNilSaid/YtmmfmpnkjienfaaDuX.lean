/-
  The law DueNil.
-/
import Derived.Test.YtmmfmpnkjienfaaDuW
namespace Go.Proofs.Ytmmfmpnkjienfaa
open Go.RowKit
set_option linter.unusedVariables false

set_option maxRecDepth 100000 in
theorem nilAtD (k i : Int) (w : World) : Calls Try.prog 9 #[.pointer none, .int .i64 k, .int .i64 i] w (Same (.tuple #[.int .u64 0, .bool false]) w) := by
  by_cases hm : Wh.May k i
  · have KK := Lib.hid (fun W => keyYes k i W hm)
    clear hm
    generalize Wh.key k i = kk at *
    go_enter Try.func9, Try.ntmps9
    go_wp2_with (go_at_call 26; (with_reducible refine (KK.out _).mono ?_); rintro e w1 ⟨rfl, rfl⟩)
    go_ret2
    exact ⟨rfl, rfl⟩
  · have KK := Lib.hid (fun W => keyNo k i W hm)
    clear hm
    go_enter Try.func9, Try.ntmps9
    go_wp2_with (go_at_call 26; (with_reducible refine (KK.out _).mono ?_); rintro e w1 ⟨rfl, rfl⟩)
    go_ret2
    exact ⟨rfl, rfl⟩
set_option maxRecDepth 100000 in
theorem nilNextD (w : World) : Calls Try.prog 11 #[.pointer none] w (Same (.tuple #[.int .u64 0, .bool false]) w) := by
  go_enter Try.func11, Try.ntmps11
  go_wp2
  go_ret2
  exact ⟨rfl, rfl⟩
set_option maxRecDepth 100000 in
theorem nilFirstD (to_ : Int) (w : World) : Calls Try.prog 16 #[.pointer none, .int .u64 to_] w (Ret (.tuple #[.agg #[.int .i64 0, .int .i64 0, .int .u64 0], .bool false]) w) := by
  have KN := Lib.hid (fun W => nilNextD W)
  go_enter Try.func16, Try.ntmps16
  go_wp2_with (go_at_call 11; (with_reducible refine (KN.out _).mono ?_); rintro e w1 ⟨rfl, rfl⟩)
  (try simp only [Exit.inBlock, Exit.then])
  refine bodyPost_ret (v := .tuple #[.agg #[.int .i64 0, .int .i64 0, .int .u64 0], .bool false]) ?_ rfl ?_
  · rw [results_cell_tmp rfl]; go_simp; (try rfl)
  · exact ⟨rfl, (Below.refl w.heap.size w).alloc (Nat.le_refl _) zeroT⟩
set_option maxRecDepth 100000 in
theorem nilSetD (k i t : Int) (w : World) : Calls Try.prog 15 #[.pointer none, .int .i64 k, .int .i64 i, .int .u64 t] w (Same (.int .i64 19) w) := by
  go_enter Try.func15, Try.ntmps15
  go_wp2
  go_ret
  exact ⟨rfl, rfl⟩
set_option maxRecDepth 100000 in
theorem nilClearD (k i : Int) (w : World) : Calls Try.prog 20 #[.pointer none, .int .i64 k, .int .i64 i] w (Same (.bool false) w) := by
  have KA := Lib.hid (fun W => nilAtD k i W)
  go_enter Try.func20, Try.ntmps20
  go_wp2_with (go_at_call 9; (with_reducible refine (KA.out _).mono ?_); rintro e w1 ⟨rfl, rfl⟩)
  go_ret
  exact ⟨rfl, rfl⟩
set_option maxRecDepth 100000 in
theorem nilGoD (to_ : Int) (w : World) : Calls Try.prog 17 #[.pointer none, .int .u64 to_] w (Same (.bool false) w) := by
  have KN := Lib.hid (fun W => nilNextD W)
  go_enter Try.func17, Try.ntmps17
  go_wp2_with (go_at_call 11; (with_reducible refine (KN.out _).mono ?_); rintro e w1 ⟨rfl, rfl⟩)
  go_ret
  exact ⟨rfl, rfl⟩
set_option maxRecDepth 100000 in
theorem nilNowD (w : World) : Calls Try.prog 14 #[.pointer none] w (Same (.int .u64 0) w) := by
  go_enter Try.func14, Try.ntmps14
  go_wp2
  go_ret
  exact ⟨rfl, rfl⟩
set_option maxRecDepth 100000 in
theorem nilLenD (w : World) : Calls Try.prog 13 #[.pointer none] w (Same (.int .i64 0) w) := by
  go_enter Try.func13, Try.ntmps13
  go_wp2
  go_ret
  exact ⟨rfl, rfl⟩

set_option maxRecDepth 100000 in
set_option maxHeartbeats 8000000 in
theorem dueNil_walk (k i t : Int) (w : World) (h1 : (Lit.int .i64 k).wf = true) (h2 : (Lit.int .i64 i).wf = true) (h3 : (Lit.int .u64 t).wf = true) : Calls Try.prog 5 #[.agg #[.int .i64 k, .int .i64 i, .int .u64 t]] w (Ret (.bool true) w) := by
  clear h1 h2 h3
  have K1 := Lib.hid (fun W => nilAtD k i W)
  have K2 := Lib.hid (fun W => nilNextD W)
  have K3 := Lib.hid (fun W => nilFirstD t W)
  have K4 := Lib.hid (fun W => nilSetD k i t W)
  have K5 := Lib.hid (fun W => nilClearD k i W)
  have K6 := Lib.hid (fun W => nilGoD t W)
  have K7 := Lib.hid (fun W => nilNowD W)
  have K8 := Lib.hid (fun W => nilLenD W)
  have K9 := Lib.hid numC
  have KL := Lib.hid liveOk
  have hb0 : Below w.heap.size w (w.alloc (.cells #[.int .i64 k, .int .i64 i, .int .u64 t] 39)) := (Below.refl _ _).alloc (Nat.le_refl _) _
  have hq : ∀ wA, Below (w.alloc (.cells #[.int .i64 k, .int .i64 i, .int .u64 t] 39)).heap.size (w.alloc (.cells #[.int .i64 k, .int .i64 i, .int .u64 t] 39)) wA → wA.cell? ⟨w.heap.size, 0, none⟩ = some (.int .i64 k) ∧ wA.cell? ⟨w.heap.size, 1, none⟩ = some (.int .i64 i) ∧ wA.cell? ⟨w.heap.size, 2, none⟩ = some (.int .u64 t) ∧ Hid (Below w.heap.size w wA) := fun wA hb => by
    have h1 := (hb.block w.heap.size (alloc_lt _ _)).trans (heap_alloc_new w _)
    obtain ⟨c0, c1, c2, _⟩ := cellsT h1
    exact ⟨c0, c1, c2, Lib.hid (hb0.trans (hb.mono hb0.size))⟩
  have HQ := Lib.hid hq
  clear hb0 hq
  go_enter Try.func5, Try.ntmps5
  go_wp2_with (first | (go_at_call 9; (with_reducible refine (K1.out _).mono ?_); rintro e wA ⟨rfl, rfl⟩) | (go_at_call 11; (with_reducible refine (K2.out _).mono ?_); rintro e wA ⟨rfl, rfl⟩) | (go_at_call 16; (with_reducible refine (K3.out _).mono ?_); rintro e wB ⟨rfl, hbB⟩; obtain ⟨c0, c1, c2, HB⟩ := HQ.out (wB.alloc (.cells #[.int .i64 0, .int .i64 0, .int .u64 0] 39)) (hbB.alloc hbB.size _); clear hbB) | (go_at_call 15; (with_reducible refine (K4.out _).mono ?_); rintro e wA ⟨rfl, rfl⟩) | (go_at_call 20; (with_reducible refine (K5.out _).mono ?_); rintro e wA ⟨rfl, rfl⟩) | (go_at_call 17; (with_reducible refine (K6.out _).mono ?_); rintro e wA ⟨rfl, rfl⟩) | (go_at_call 14; (with_reducible refine (K7.out _).mono ?_); rintro e wA ⟨rfl, rfl⟩) | (go_at_call 13; (with_reducible refine (K8.out _).mono ?_); rintro e wA ⟨rfl, rfl⟩) | (go_at_call 19; (with_reducible refine (K9.out _ _).mono ?_); rintro e wA ⟨rfl, rfl⟩) | (go_at_call 6; (with_reducible refine (KL.out _).mono ?_); rintro e wL ⟨rfl, hbL⟩))
  go_ret
  exact ⟨rfl, HB.out.trans (hbL.mono HB.out.size)⟩
end Go.Proofs.Ytmmfmpnkjienfaa
