/-
  The program's wheel keeps the wheel's contracts; what a nil wheel's methods return.
-/
import Derived.Test.YtmmfmpnkjienfaaWhU4
namespace Go.Proofs.Ytmmfmpnkjienfaa
open Go.RowKit
set_option linter.unusedVariables false

theorem wheelC : WheelC WIs where
  keep := by
    rintro w w' B P now l F ⟨T, sl, h, rfl⟩ _ hk
    exact ⟨T, sl, h.keep hk, rfl⟩
  lt := by
    rintro w B P now l F ⟨T, sl, h, rfl⟩ k hk
    exact h.bounds k hk
  new := fun now w B hn hB => newC now w B hn hB
  put := fun id a w B P now l F hid ha _ hl h => putC id a w B P now l F hid ha hl h
  drop := fun id w B P now l F hid hn _ h => dropC id w B P now l F hid hn h
  at_ := fun id w B P now l F hid _ _ h => atC id w B P now l F hid h
  len := fun w B P now l F _ _ h => lenC w B P now l F h
  next := fun w B P now l F hn hl h => nextC w B P now l F hn hl h
  tick := fun w B P now l F _ _ h => tickC w B P now l F h
  turn := fun tm w B P now l F ht hn hl h => turnC tm w B P now l F ht hn hl h

set_option maxRecDepth 100000 in
theorem nilAt (id : Int) (w : World) : Calls Try.prog 27 #[.pointer none, .int .i64 id] w (Same (.tuple #[.int .u64 0, .bool false]) w) := by
  go_enter Try.func27, Try.ntmps27
  go_wp2
  go_ret2
  exact ⟨rfl, rfl⟩
set_option maxRecDepth 100000 in
theorem nilNext (w : World) : Calls Try.prog 28 #[.pointer none] w (Same (.tuple #[.int .u64 0, .bool false]) w) := by
  go_enter Try.func28, Try.ntmps28
  go_wp2
  go_ret2
  exact ⟨rfl, rfl⟩
set_option maxRecDepth 100000 in
theorem nilPut (id a : Int) (w : World) : Calls Try.prog 34 #[.pointer none, .int .i64 id, .int .u64 a] w (Same (.int .i64 19) w) := by
  go_enter Try.func34, Try.ntmps34
  go_wp2
  go_ret
  exact ⟨rfl, rfl⟩
set_option maxRecDepth 100000 in
theorem nilDrop (id : Int) (w : World) : Calls Try.prog 36 #[.pointer none, .int .i64 id] w (Same (.bool false) w) := by
  have K := Lib.hid (fun W => nilAt id W)
  go_enter Try.func36, Try.ntmps36
  go_wp2_with (go_at_call 27; (with_reducible refine (K.out _).mono ?_); rintro e w1 ⟨rfl, rfl⟩)
  go_ret
  exact ⟨rfl, rfl⟩
set_option maxRecDepth 100000 in
theorem nilLen (w : World) : Calls Try.prog 30 #[.pointer none] w (Same (.int .i64 0) w) := by
  go_enter Try.func30, Try.ntmps30
  go_wp2
  go_ret
  exact ⟨rfl, rfl⟩
set_option maxRecDepth 100000 in
theorem nilNow (w : World) : Calls Try.prog 31 #[.pointer none] w (Same (.int .u64 0) w) := by
  go_enter Try.func31, Try.ntmps31
  go_wp2
  go_ret
  exact ⟨rfl, rfl⟩
set_option maxRecDepth 100000 in
theorem nilTurn (tm : Int) (w : World) : Calls Try.prog 37 #[.pointer none, .int .u64 tm] w (Same (.slice none 0 0) w) := by
  go_enter Try.func37, Try.ntmps37
  go_wp2
  go_ret
  exact ⟨rfl, rfl⟩
end Go.Proofs.Ytmmfmpnkjienfaa
