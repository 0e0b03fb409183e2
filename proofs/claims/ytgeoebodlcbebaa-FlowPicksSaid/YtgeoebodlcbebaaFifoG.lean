/-
  A nil queue.
-/
import Derived.Test.YtgeoebodlcbebaaFifoF
namespace Go.Proofs.Ytgeoebodlcbebaa
open Go.RowKit
set_option linter.unusedVariables false

theorem nilPush (id co : Int) (w : World) : Calls Try.prog 36 #[.pointer none, .agg #[.int .i64 id, .int .i64 co]] w (Ret (.int .i64 19) w) := by
  go_enter Try.func36, Try.ntmps36
  go_wp2
  go_ret
  exact ⟨rfl, (Below.refl _ _).alloc (Nat.le_refl _) _⟩
theorem nilHas (id : Int) (w : World) : Calls Try.prog 55 #[.pointer none, .int .i64 id] w (Same (.bool false) w) := by
  go_enter Try.func55, Try.ntmps55
  go_wp2
  go_ret
  exact ⟨rfl, rfl⟩
theorem nilLen (w : World) : Calls Try.prog 33 #[.pointer none] w (Same (.int .i64 0) w) := by
  go_enter Try.func33, Try.ntmps33
  go_wp2
  go_ret
  exact ⟨rfl, rfl⟩
theorem nilAll (w : World) : Calls Try.prog 45 #[.pointer none] w (Same (.slice none 0 0) w) := by
  go_enter Try.func45, Try.ntmps45
  go_wp2
  go_ret
  exact ⟨rfl, rfl⟩
theorem nilHead (w : World) : Calls Try.prog 77 #[.pointer none] w (Ret (itemV none) w) := by
  have K := Lib.hid (fun W => nilLen W)
  go_enter Try.func77, Try.ntmps77
  go_wp2_with (go_at_call 33; (with_reducible refine (K.out _).mono ?_); rintro e wA ⟨rfl, rfl⟩)
  try simp only [Exit.inBlock, Exit.then]
  refine bodyPost_ret (v := itemV none) ?_ rfl ?_
  · rw [results_cell_tmp rfl]; go_simp; (try rfl)
  · exact ⟨rfl, (Below.refl _ _).alloc (Nat.le_refl _) _⟩
theorem nilDrop (id : Int) (w : World) : Calls Try.prog 41 #[.pointer none, .int .i64 id] w (Ret (itemV none) w) := by
  have K := Lib.hid (fun W => nilHas id W)
  go_enter Try.func41, Try.ntmps41
  go_wp2_with (go_at_call 55; (with_reducible refine (K.out _).mono ?_); rintro e wA ⟨rfl, rfl⟩)
  try simp only [Exit.inBlock, Exit.then]
  refine bodyPost_ret (v := itemV none) ?_ rfl ?_
  · rw [results_cell_tmp rfl]; go_simp; (try rfl)
  · exact ⟨rfl, (Below.refl _ _).alloc (Nat.le_refl _) _⟩
theorem nilPop (w : World) : Calls Try.prog 78 #[.pointer none] w (Ret (itemV none) w) := by
  have hbx := (Below.refl w.heap.size w).alloc (Nat.le_refl _) zeroI
  have kh := (nilHead (w.alloc zeroI)).mono (R' := fun e w' => e = .returned (.tuple #[.agg #[.int .i64 0, .int .i64 0], .bool false]) ∧ w'.heap[w.heap.size]? = some (itO 0 0) ∧ Hid (Below w.heap.size w w')) fun e w' hr => ⟨hr.e, (hr.b.block w.heap.size (by simp)).trans (heap_alloc_new _ _), Lib.hid (hbx.trans (hr.b.mono hbx.size))⟩
  have K := Lib.hid kh
  clear kh hbx
  go_enter Try.func78, Try.ntmps78
  go_wp2_with (go_at_call 77; (with_reducible refine K.out.mono ?_); rintro e wA ⟨rfl, hX, hA⟩; obtain ⟨z2, z3, z4, z5⟩ := box_at hX (itO 0 0))
  try simp only [Exit.inBlock, Exit.then]
  refine bodyPost_ret (v := itemV none) ?_ rfl ?_
  · rw [results_cell_tmp rfl]; go_simp; (try rfl)
  · exact ⟨rfl, ((hA.out.alloc hA.out.size _).setCell (Nat.le_refl _) _).setCell (Nat.le_refl _) _⟩
end Go.Proofs.Ytgeoebodlcbebaa
