/-
  The law HistoryLoads.
-/
import Derived.Test.YtmdpfinadffcaaaHyR
namespace Go.Proofs.Ytmdpfinadffcaaa
open Go.RowKit
set_option linter.unusedVariables false

set_option maxRecDepth 100000 in
set_option maxHeartbeats 8000000 in
theorem loads_off (room : Int) (a : Option Addr) (n cap : Nat) (qk : ByteArray) (la : Option Addr) (ln lcap : Nat) (p : Int) (w : World) (h : 60 < n ∨ 20 < ln) :
    Calls Try.prog 4 #[.int .i64 room, .slice a n cap, .agg #[.string qk, .slice la ln lcap, .int .i64 p]] w (Ret (.bool true) w) := by
  have KL := Lib.hid (fun W => liveOk W)
  have hq : (w.alloc (askO qk la ln lcap p)).heap[w.heap.size]? = some (askO qk la ln lcap p) := heap_alloc_new _ _
  have HB := Lib.hid ((Below.refl w.heap.size w).alloc (Nat.le_refl _) (askO qk la ln lcap p))
  obtain ⟨z0, z1, z2⟩ := ask_cells hq
  clear hq
  by_cases h1 : 60 < n
  · clear h
    go_enter Try.func4, Try.ntmps4
    go_wp2_with (go_at_call 7; (with_reducible refine (KL.out _).mono ?_); rintro e wB ⟨rfl, hbB⟩)
    go_ret
    exact ⟨rfl, HB.out.trans (hbB.mono HB.out.size)⟩
  · have h2 : 20 < ln := by omega
    clear h
    go_enter Try.func4, Try.ntmps4
    go_wp2_with (go_at_call 7; (with_reducible refine (KL.out _).mono ?_); rintro e wB ⟨rfl, hbB⟩)
    go_ret
    exact ⟨rfl, HB.out.trans (hbB.mono HB.out.size)⟩

set_option maxRecDepth 100000 in
set_option maxHeartbeats 8000000 in
theorem loads_at (room : Int) (a : Option Addr) (cap : Nat) (R : List Lr.E) (qk : ByteArray) (la : Option Addr) (ln lcap : Nat) (p : Int) (L : Nat → Int) (w : World) (hl : R.length ≤ 60) (hn : ln ≤ 20) (hqk : qk.size ≤ 140737488351232) (hR : RowsAt w a R) (hs : ∀ e ∈ R, e.1.size ≤ 140737488351232) (hL : LimW w la ln L) :
    Calls Try.prog 4 #[.int .i64 room, .slice a R.length cap, .agg #[.string qk, .slice la ln lcap, .int .i64 p]] w (Ret (.bool true) w) := by
  have KL := Lib.hid (fun W => liveOk W)
  have hq : (w.alloc (askO qk la ln lcap p)).heap[w.heap.size]? = some (askO qk la ln lcap p) := heap_alloc_new _ _
  have hb1 : Below w.heap.size w (w.alloc (askO qk la ln lcap p)) := (Below.refl _ _).alloc (Nat.le_refl _) _
  obtain ⟨z0, z1, z2⟩ := ask_cells hq
  have hR1 := hR.below hb1
  have KLD := loadC room R a cap (w.alloc (askO qk la ln lcap p)) (by omega) hR1 hs
  by_cases hc : 1 ≤ room ∧ (R.length : Int) ≤ room ∧ Hy.Fine R R.length
  · have K1 := Lib.hid (KLD.mono (R' := fun e wA => ∃ T, e = .returned (.tuple #[.pointer (some ⟨T, 0, none⟩), .bool true]) ∧ Hid (HySolo (w.alloc (askO qk la ln lcap p)) (w.alloc (askO qk la ln lcap p)).heap.size T room R.reverse wA)) fun e wA hr => by
      obtain ⟨T, h1, h2⟩ := hr.yes hc
      exact ⟨T, h1, Lib.hid h2⟩)
    have K2 := Lib.hid (fun W (hb : Below w.heap.size w W) => refRightsC room a cap R true W (by omega) (hR.below hb) ⟨fun _ => hc, fun _ => rfl⟩)
    have K3 := Lib.hid (fun T W (h : HySolo (w.alloc (askO qk la ln lcap p)) (w.alloc (askO qk la ln lcap p)).heap.size T room R.reverse W) (hb : Below w.heap.size w W) => by
      obtain ⟨F, h1⟩ := h.s
      exact sameC _ T room R.reverse R F room a cap qk la ln lcap p L W (List.reverse_reverse R).symm (by simp; omega) (by omega) hqk h1 (hR.below hb) (hL.below hb))
    have HQ := Lib.hid hq
    have HB1 := Lib.hid hb1
    clear hq hb1 hR hR1 hL hs KLD hc
    generalize R.length = n at *
    go_enter Try.func4, Try.ntmps4
    go_wp2_with (first
      | (go_at_call 11; (with_reducible refine K1.out.mono ?_); rintro e wA ⟨T, rfl, hT⟩; have HBA := Lib.hid (HB1.out.trans (hT.out.b.mono HB1.out.size)); have hqA := (hT.out.b.block _ (lt_block HQ.out)).trans HQ.out; have HQA := Lib.hid hqA; clear hqA)
      | (go_at_call 12; (with_reducible refine (K2.out _ HBA.out).mono ?_); rintro e wB ⟨rfl, hb⟩; have HT2 := Lib.hid (hT.out.below hb); have HBB := Lib.hid (HBA.out.trans (hb.mono HBA.out.size)); obtain ⟨y0, y1, y2⟩ := ask_cells ((hb.block _ (lt_block HQA.out)).trans HQA.out); clear hb)
      | (go_at_call 10; (with_reducible refine (K3.out _ _ HT2.out HBB.out).mono ?_); rintro e wC ⟨rfl, hb⟩; have HBC := Lib.hid (HBB.out.trans (hb.mono HBB.out.size)); clear hb)
      | (go_at_call 7; (with_reducible refine (KL.out _).mono ?_); rintro e wD ⟨rfl, hbB⟩))
    go_ret
    exact ⟨rfl, HBC.out.trans (hbB.mono HBC.out.size)⟩
  · have K1 := Lib.hid (KLD.mono (R' := fun e wA => e = .returned (.tuple #[.pointer none, .bool false]) ∧ Hid (Below w.heap.size w wA)) fun e wA hr => ⟨hr.no hc, Lib.hid (hb1.trans (hr.b.mono hb1.size))⟩)
    have K2 := Lib.hid (fun W (hb : Below w.heap.size w W) => refRightsC room a cap R false W (by omega) (hR.below hb) ⟨fun h => absurd h (by simp), fun h => absurd h hc⟩)
    clear hq hb1 hR hR1 hL hs KLD hc
    generalize R.length = n at *
    go_enter Try.func4, Try.ntmps4
    go_wp2_with (first
      | (go_at_call 11; (with_reducible refine K1.out.mono ?_); rintro e wA ⟨rfl, hT⟩)
      | (go_at_call 12; (with_reducible refine (K2.out _ hT.out).mono ?_); rintro e wB ⟨rfl, hb⟩; have HBB := Lib.hid (hT.out.trans (hb.mono hT.out.size)); clear hb)
      | (go_at_call 7; (with_reducible refine (KL.out _).mono ?_); rintro e wD ⟨rfl, hbB⟩))
    go_ret
    exact ⟨rfl, HBB.out.trans (hbB.mono HBB.out.size)⟩
end Go.Proofs.Ytmdpfinadffcaaa
