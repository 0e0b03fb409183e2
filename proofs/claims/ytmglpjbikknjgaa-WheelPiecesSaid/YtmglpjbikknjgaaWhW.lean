/-
  The program's wheel keeps the wheel's contracts; a nil wheel; the laws' walks.
-/
import Derived.Test.YtmglpjbikknjgaaWhU4
import Derived.Test.YtmglpjbikknjgaaWhU
import Derived.Test.YtmglpjbikknjgaaWhQ
import Derived.Test.YtmglpjbikknjgaaWhV
namespace Go.Proofs.Ytmglpjbikknjgaa
open Go.RowKit
set_option linter.unusedVariables false

theorem wheelC : WheelC WIs where
  keep := by
    rintro w w' B P now l F ⟨T, sl, h, rfl⟩ _ hk
    exact ⟨T, sl, h.keep hk, rfl⟩
  lt := by
    rintro w B P now l F ⟨T, sl, h, rfl⟩ k hk
    exact h.bounds k hk
  new := fun now w B hn hB => newC now w B hn hB
  put := fun id a w B P now l F hid ha _ hl h => putC id a w B P now l F hid ha hl h
  drop := fun id w B P now l F hid hn _ h => dropC id w B P now l F hid hn h
  at_ := fun id w B P now l F hid _ _ h => atC id w B P now l F hid h
  len := fun w B P now l F _ _ h => lenC w B P now l F h
  next := fun w B P now l F hn hl h => nextC w B P now l F hn hl h
  tick := fun w B P now l F _ _ h => tickC w B P now l F h
  turn := fun tm w B P now l F ht hn hl h => turnC tm w B P now l F ht hn hl h

set_option maxRecDepth 100000 in
theorem nilAt (id : Int) (w : World) : Calls Try.prog 20 #[.pointer none, .int .i64 id] w (Same (.tuple #[.int .u64 0, .bool false]) w) := by
  go_enter Try.func20, Try.ntmps20
  go_wp2
  go_ret2
  exact ⟨rfl, rfl⟩
set_option maxRecDepth 100000 in
theorem nilNext (w : World) : Calls Try.prog 21 #[.pointer none] w (Same (.tuple #[.int .u64 0, .bool false]) w) := by
  go_enter Try.func21, Try.ntmps21
  go_wp2
  go_ret2
  exact ⟨rfl, rfl⟩
set_option maxRecDepth 100000 in
theorem nilPut (id a : Int) (w : World) : Calls Try.prog 9 #[.pointer none, .int .i64 id, .int .u64 a] w (Same (.int .i64 19) w) := by
  go_enter Try.func9, Try.ntmps9
  go_wp2
  go_ret
  exact ⟨rfl, rfl⟩
set_option maxRecDepth 100000 in
theorem nilDrop (id : Int) (w : World) : Calls Try.prog 11 #[.pointer none, .int .i64 id] w (Same (.bool false) w) := by
  have K := Lib.hid (fun W => nilAt id W)
  go_enter Try.func11, Try.ntmps11
  go_wp2_with (go_at_call 20; (with_reducible refine (K.out _).mono ?_); rintro e w1 ⟨rfl, rfl⟩)
  go_ret
  exact ⟨rfl, rfl⟩
set_option maxRecDepth 100000 in
theorem nilLen (w : World) : Calls Try.prog 18 #[.pointer none] w (Same (.int .i64 0) w) := by
  go_enter Try.func18, Try.ntmps18
  go_wp2
  go_ret
  exact ⟨rfl, rfl⟩
set_option maxRecDepth 100000 in
theorem nilNow (w : World) : Calls Try.prog 19 #[.pointer none] w (Same (.int .u64 0) w) := by
  go_enter Try.func19, Try.ntmps19
  go_wp2
  go_ret
  exact ⟨rfl, rfl⟩
set_option maxRecDepth 100000 in
theorem nilTurn (tm : Int) (w : World) : Calls Try.prog 14 #[.pointer none, .int .u64 tm] w (Same (.slice none 0 0) w) := by
  go_enter Try.func14, Try.ntmps14
  go_wp2
  go_ret
  exact ⟨rfl, rfl⟩
theorem nilC : NilC where
  at_ := fun id w => (nilAt id w).mono fun _ _ h => h.ret
  next := fun w => (nilNext w).mono fun _ _ h => h.ret
  put := fun id a w => (nilPut id a w).mono fun _ _ h => h.ret
  drop := fun id w => (nilDrop id w).mono fun _ _ h => h.ret
  len := fun w => (nilLen w).mono fun _ _ h => h.ret
  tick := fun w => (nilNow w).mono fun _ _ h => h.ret
  turn := fun tm w => (nilTurn tm w).mono fun _ _ h => ⟨⟨_, _, h.e⟩, by rw [h.w]; exact Below.refl _ _⟩
theorem wheelActs_walk (now : Int) (a : Option Addr) (len cap : Nat) (w : World) (hw : (Lit.int .u64 now).wf = true) (h : ∃ t, ActAt w a len t) : Calls Try.prog 3 #[.int .u64 now, .slice a len cap] w (Ret (.bool true) w) :=
  wheelActs_any wheelC now a len cap w hw h
theorem wheelPieces_walk (now : Int) (a : Option Addr) (len cap : Nat) (ac : Option Addr) (lenc capc : Nat) (w : World) (hw : (Lit.int .u64 now).wf = true) (h : ∃ t, ActAt w a len t) (hc : ∃ l, CutAt w ac lenc l) :
    Calls Try.prog 4 #[.int .u64 now, .slice a len cap, .slice ac lenc capc] w (Ret (.bool true) w) :=
  wheelPieces_any wheelC now a len cap ac lenc capc w hw h hc
theorem wheelNil_walk (id a : Int) (w : World) (h1 : (Lit.int .i64 id).wf = true) (h2 : (Lit.int .u64 a).wf = true) : Calls Try.prog 5 #[.int .i64 id, .int .u64 a] w (Ret (.bool true) w) :=
  wheelNil_any wheelC nilC id a w h1 h2
end Go.Proofs.Ytmglpjbikknjgaa
