/-
  The law HistoryActs.
-/
import Derived.Test.YtmdpfinadffcaaaHyO
namespace Go.Proofs.Ytmdpfinadffcaaa
open Go.RowKit
set_option linter.unusedVariables false

/-- both beside the box of what is asked: they tell the same -/
theorem two_same {w0 : World} {T D : Nat} {room : Int} {key : ByteArray} {la : Option Addr} {ln lcap : Nat} {p : Int} {l : List Lr.E} {da : Option Addr} {dcap : Nat} (L : Nat → Int) (W : World) (hk : key.size ≤ 140737488351232) (hl : l.length ≤ 1000) (hn : ln ≤ 1000) (hL : LimW w0 la ln L) (h : TwoH w0 T D room (askO key la ln lcap p) da dcap l l.reverse W) :
    Calls Try.prog 10 #[.pointer (some ⟨T, 0, none⟩), .agg #[.int .i64 room, .slice da l.reverse.length dcap], .agg #[.string key, .slice la ln lcap, .int .i64 p]] W fun e W' => e = .returned (.bool true) ∧ TwoH w0 T D room (askO key la ln lcap p) da dcap l l.reverse W' := by
  obtain ⟨F, g1, g2⟩ := h.s
  exact (sameC w0.heap.size T room l l.reverse F room da dcap key la ln lcap p L W rfl (by omega) hn hk g1 h.d.row (hL.below h.b)).mono fun e w' hr => ⟨hr.e, h.below hr.b⟩
theorem ask_cells {W : World} {Q : Nat} {key : ByteArray} {la : Option Addr} {ln lcap : Nat} {p : Int} (h : W.heap[Q]? = some (askO key la ln lcap p)) : W.cell? ⟨Q, 0, none⟩ = some (.string key) ∧ W.cell? ⟨Q, 1, none⟩ = some (.slice la ln lcap) ∧ W.cell? ⟨Q, 2, none⟩ = some (.int .i64 p) :=
  ⟨by rw [cell_of_row _ _ _ _ _ _ h]; rfl, by rw [cell_of_row _ _ _ _ _ _ h]; rfl, by rw [cell_of_row _ _ _ _ _ _ h]; rfl⟩
theorem d_cells {W : World} {D : Nat} {room : Int} {v : Value} (h : W.heap[D]? = some (tO room v)) : W.cell? ⟨D, 0, none⟩ = some (.int .i64 room) ∧ W.cell? ⟨D, 1, none⟩ = some v :=
  ⟨by rw [cell_of_row _ _ _ _ _ _ h]; rfl, by rw [cell_of_row _ _ _ _ _ _ h]; rfl⟩

set_option maxRecDepth 100000 in
set_option maxHeartbeats 8000000 in
theorem acts_off (room : Int) (a : Option Addr) (len cap : Nat) (key : ByteArray) (la : Option Addr) (ln lcap : Nat) (p : Int) (w : World) (h : 200 < len ∨ 20 < ln ∨ room < 1) :
    Calls Try.prog 3 #[.int .i64 room, .slice a len cap, .agg #[.string key, .slice la ln lcap, .int .i64 p]] w (Ret (.bool true) w) := by
  have KL := Lib.hid (fun W => liveOk W)
  have hq : (w.alloc (askO key la ln lcap p)).heap[w.heap.size]? = some (askO key la ln lcap p) := heap_alloc_new _ _
  have hb1 : Below w.heap.size w (w.alloc (askO key la ln lcap p)) := (Below.refl _ _).alloc (Nat.le_refl _) _
  by_cases hr : room < 1
  · have K0 := Lib.hid (fun W => newHBad room W hr)
    obtain ⟨z0, z1, z2⟩ := ask_cells hq
    have t1 : decide (room ≥ 1) = false := decide_eq_false (by omega)
    have t2 : decide (room < 1) = true := decide_eq_true hr
    have HB := Lib.hid hb1
    clear hq hb1 h hr
    by_cases h1 : 200 < len
    · go_enter Try.func3, Try.ntmps3
      go_wp2_with (first | (go_at_call 6; (with_reducible refine (K0.out _).mono ?_); rintro e wA ⟨rfl, rfl⟩) | (go_at_call 7; (with_reducible refine (KL.out _).mono ?_); rintro e wB ⟨rfl, hbB⟩))
      go_ret
      exact ⟨rfl, HB.out.trans (hbB.mono HB.out.size)⟩
    · by_cases h2 : 20 < ln
      · go_enter Try.func3, Try.ntmps3
        go_wp2_with (first | (go_at_call 6; (with_reducible refine (K0.out _).mono ?_); rintro e wA ⟨rfl, rfl⟩) | (go_at_call 7; (with_reducible refine (KL.out _).mono ?_); rintro e wB ⟨rfl, hbB⟩))
        go_ret
        exact ⟨rfl, HB.out.trans (hbB.mono HB.out.size)⟩
      · go_enter Try.func3, Try.ntmps3
        go_wp2_with (first | (go_at_call 6; (with_reducible refine (K0.out _).mono ?_); rintro e wA ⟨rfl, rfl⟩) | (go_at_call 7; (with_reducible refine (KL.out _).mono ?_); rintro e wB ⟨rfl, hbB⟩))
        go_ret
        exact ⟨rfl, HB.out.trans (hbB.mono HB.out.size)⟩
  · have K0 := Lib.hid ((newHC room (w.alloc (askO key la ln lcap p)) hr).mono (R' := fun e wA => ∃ T, e = .returned (.pointer (some ⟨T, 0, none⟩)) ∧ wA.cell? ⟨w.heap.size, 1, none⟩ = some (.slice la ln lcap) ∧ Hid (Below w.heap.size w wA)) fun e wA hr2 => by
      obtain ⟨T, F, rfl, _, h2⟩ := hr2
      exact ⟨T, rfl, (ask_cells ((h2.block _ (lt_block hq)).trans hq)).2.1, Lib.hid (hb1.trans (h2.mono hb1.size))⟩)
    have t1 : decide (room ≥ 1) = true := decide_eq_true (by omega)
    clear hq hb1
    by_cases h1 : 200 < len
    · clear h hr
      go_enter Try.func3, Try.ntmps3
      go_wp2_with (first | (go_at_call 6; (with_reducible refine K0.out.mono ?_); rintro e wA ⟨T, rfl, z1, HB⟩) | (go_at_call 7; (with_reducible refine (KL.out _).mono ?_); rintro e wB ⟨rfl, hbB⟩))
      go_ret
      exact ⟨rfl, HB.out.trans (hbB.mono HB.out.size)⟩
    · have h2 : 20 < ln := by omega
      clear h hr
      go_enter Try.func3, Try.ntmps3
      go_wp2_with (first | (go_at_call 6; (with_reducible refine K0.out.mono ?_); rintro e wA ⟨T, rfl, z1, HB⟩) | (go_at_call 7; (with_reducible refine (KL.out _).mono ?_); rintro e wB ⟨rfl, hbB⟩))
      go_ret
      exact ⟨rfl, HB.out.trans (hbB.mono HB.out.size)⟩
end Go.Proofs.Ytmdpfinadffcaaa
