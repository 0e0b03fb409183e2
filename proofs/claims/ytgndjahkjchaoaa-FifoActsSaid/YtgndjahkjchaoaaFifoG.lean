/-
  A nil queue.
-/
import Derived.Test.YtgndjahkjchaoaaFifoF
namespace Go.Proofs.Ytgndjahkjchaoaa
open Go.RowKit
set_option linter.unusedVariables false

theorem nilPush (id co : Int) (w : World) : Calls Try.prog 9 #[.pointer none, .agg #[.int .i64 id, .int .i64 co]] w (Ret (.int .i64 19) w) := by
  go_enter Try.func9, Try.ntmps9
  go_wp2
  go_ret
  exact ⟨rfl, (Below.refl _ _).alloc (Nat.le_refl _) _⟩
theorem nilHas (id : Int) (w : World) : Calls Try.prog 20 #[.pointer none, .int .i64 id] w (Same (.bool false) w) := by
  go_enter Try.func20, Try.ntmps20
  go_wp2
  go_ret
  exact ⟨rfl, rfl⟩
theorem nilLen (w : World) : Calls Try.prog 17 #[.pointer none] w (Same (.int .i64 0) w) := by
  go_enter Try.func17, Try.ntmps17
  go_wp2
  go_ret
  exact ⟨rfl, rfl⟩
theorem nilCost (w : World) : Calls Try.prog 18 #[.pointer none] w (Same (.int .i64 0) w) := by
  go_enter Try.func18, Try.ntmps18
  go_wp2
  go_ret
  exact ⟨rfl, rfl⟩
theorem nilAll (w : World) : Calls Try.prog 16 #[.pointer none] w (Same (.slice none 0 0) w) := by
  go_enter Try.func16, Try.ntmps16
  go_wp2
  go_ret
  exact ⟨rfl, rfl⟩
theorem nilHead (w : World) : Calls Try.prog 14 #[.pointer none] w (Ret (itemV none) w) := by
  have K := Lib.hid (fun W => nilLen W)
  go_enter Try.func14, Try.ntmps14
  go_wp2_with (go_at_call 17; (with_reducible refine (K.out _).mono ?_); rintro e wA ⟨rfl, rfl⟩)
  try simp only [Exit.inBlock, Exit.then]
  refine bodyPost_ret (v := itemV none) ?_ rfl ?_
  · rw [results_cell_tmp rfl]; go_simp; (try rfl)
  · exact ⟨rfl, (Below.refl _ _).alloc (Nat.le_refl _) _⟩
theorem nilDrop (id : Int) (w : World) : Calls Try.prog 11 #[.pointer none, .int .i64 id] w (Ret (itemV none) w) := by
  have K := Lib.hid (fun W => nilHas id W)
  go_enter Try.func11, Try.ntmps11
  go_wp2_with (go_at_call 20; (with_reducible refine (K.out _).mono ?_); rintro e wA ⟨rfl, rfl⟩)
  try simp only [Exit.inBlock, Exit.then]
  refine bodyPost_ret (v := itemV none) ?_ rfl ?_
  · rw [results_cell_tmp rfl]; go_simp; (try rfl)
  · exact ⟨rfl, (Below.refl _ _).alloc (Nat.le_refl _) _⟩
theorem nilPop (w : World) : Calls Try.prog 10 #[.pointer none] w (Ret (itemV none) w) := by
  have hbx := (Below.refl w.heap.size w).alloc (Nat.le_refl _) zeroI
  have kh := (nilHead (w.alloc zeroI)).mono (R' := fun e w' => e = .returned (.tuple #[.agg #[.int .i64 0, .int .i64 0], .bool false]) ∧ w'.heap[w.heap.size]? = some (itO 0 0) ∧ Hid (Below w.heap.size w w')) fun e w' hr => ⟨hr.e, (hr.b.block w.heap.size (by simp)).trans (heap_alloc_new _ _), Lib.hid (hbx.trans (hr.b.mono hbx.size))⟩
  have K := Lib.hid kh
  clear kh hbx
  go_enter Try.func10, Try.ntmps10
  go_wp2_with (go_at_call 14; (with_reducible refine K.out.mono ?_); rintro e wA ⟨rfl, hX, hA⟩; obtain ⟨z2, z3, z4, z5⟩ := box_at hX (itO 0 0))
  try simp only [Exit.inBlock, Exit.then]
  refine bodyPost_ret (v := itemV none) ?_ rfl ?_
  · rw [results_cell_tmp rfl]; go_simp; (try rfl)
  · exact ⟨rfl, ((hA.out.alloc hA.out.size _).setCell (Nat.le_refl _) _).setCell (Nat.le_refl _) _⟩
end Go.Proofs.Ytgndjahkjchaoaa
