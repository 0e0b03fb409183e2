/-
  A history alone; the chapter's example.
-/
import Derived.Test.YtmdpfinadffcaaaHyL
namespace Hy
open Lr
def h3 : V := ⟨[0, 0, 1, 0, 0, 0, 0, 0, 0, 0, 0, 0, 0, 0, 0, 0], rfl⟩
def h39 : V := ⟨[0, 0, 1, 0, 1, 0, 0, 0, 0, 0, 0, 0, 0, 0, 0, 0], rfl⟩
def L2 (i : Nat) : Int := if i = 0 then 4 else 20
theorem live_1 : obs 2 [] ⟨#[97]⟩ 3 = [(⟨#[97]⟩, h3)] := by decide
theorem live_2 : obs 2 [(⟨#[97]⟩, h3)] ⟨#[97]⟩ 9 = [(⟨#[97]⟩, h39)] := by decide
theorem live_a : valOf [(⟨#[97]⟩, h39)] ⟨#[97]⟩ = h39 := by decide
theorem live_b : valOf [(⟨#[97]⟩, h39)] ⟨#[98]⟩ = zero := by decide
theorem good39 {p : Int} (h1 : 1 ≤ p) (h2 : p ≤ 100) : Qu.Good h39.1 p := ⟨by decide, by decide, h1, h2⟩
theorem told50 : Told h39.1 50 L2 2 3 true 0 := ⟨fun h => absurd (good39 (by omega) (by omega)) h, fun _ => ⟨rfl, ⟨2, ⟨by decide, by decide, by decide⟩, by decide⟩, ⟨by decide, by decide, by decide⟩⟩⟩
theorem told51 : Told h39.1 51 L2 2 15 true 1 := ⟨fun h => absurd (good39 (by omega) (by omega)) h, fun _ => ⟨rfl, ⟨4, ⟨by decide, by decide, by decide⟩, by decide⟩, ⟨by decide, by decide, by decide⟩⟩⟩
theorem told_b (L : Nat → Int) : Told zero.1 50 L 0 0 false 0 := ⟨fun _ => ⟨rfl, rfl, rfl⟩, fun h => absurd (show Hi.tot zero.1 = 0 by decide) h.ne⟩
end Hy
namespace Go.Proofs.Ytmdpfinadffcaaa
open Go.RowKit
set_option linter.unusedVariables false

theorem hsolo_new (room : Int) (hr : ¬ room < 1) (w0 w : World) (hb : Below w0.heap.size w0 w) : Calls Try.prog 6 #[.int .i64 room] w fun e w' => ∃ T, e = .returned (.pointer (some ⟨T, 0, none⟩)) ∧ HySolo w0 w0.heap.size T room [] w' := by
  refine (newHC room w hr).mono fun e w' h => ?_
  obtain ⟨T, F, rfl, h1, h2⟩ := h
  obtain ⟨P, F0, g1, ⟨m, r, ns, k1, k2, k3, k4⟩, g3, g4, g5⟩ := h1
  exact ⟨T, rfl, ⟨F, P, F0, g1, ⟨m, r, ns, k1, k2, k3, fun k hk => Nat.le_trans hb.size (k4 k hk)⟩, g3, Nat.le_trans hb.size g4, g5⟩, hb.trans (h2.mono hb.size), Nat.le_trans hb.size h2.size⟩
theorem hsolo_obs {w0 : World} {B T : Nat} {room : Int} {l : List Lr.E} (key : ByteArray) (t : Int) (w : World) (hk : key.size ≤ 140737488351232) (ht0 : 0 ≤ t) (ht1 : t < 18446744073709551616) (hl : l.length ≤ 1000000) (hr : (l.length : Int) ≤ room) (h : HySolo w0 B T room l w) :
    Calls Try.prog 8 #[.pointer (some ⟨T, 0, none⟩), .string key, .int .u64 t] w fun e w' => e = .returned (.tuple #[]) ∧ HySolo w0 B T room (Hy.obs room l key t) w' := by
  obtain ⟨F, h1⟩ := h.s
  exact (observeC B T room l F key t w h1 hk ht0 ht1 hl hr h.z).mono fun e w' hr => h.did h1 hr
theorem hsolo_class {w0 : World} {B T : Nat} {room : Int} {l : List Lr.E} (key : ByteArray) (a : Option Addr) (n cap : Nat) (p : Int) (L : Nat → Int) (x : Int) (ok : Bool) (c : Nat) (w : World) (hk : key.size ≤ 140737488351232) (hL : LimW w a n L) (hn : n ≤ 1000000) (ht : Hy.Told (Hy.valOf l key).1 p L n x ok c) (h : HySolo w0 B T room l w) :
    Calls Try.prog 13 #[.pointer (some ⟨T, 0, none⟩), .string key, .slice a n cap, .int .i64 p] w fun e w' => e = .returned (.int .i64 (c : Int)) ∧ HySolo w0 B T room l w' ∧ Below w.heap.size w w' := by
  obtain ⟨F, h1⟩ := h.s
  exact (classC B T room l F key a n cap p L x ok c w h1 hk hL hn ht).mono fun e w' hr => ⟨hr.e, h.below hr.b, hr.b⟩
theorem lim2 (w : World) : LimW (w.alloc (.cells #[.int .i64 4, .int .i64 20] 3)) (some ⟨w.heap.size, 0, none⟩) 2 Hy.L2 := by
  have h := heap_alloc_new w (.cells #[.int .i64 4, .int .i64 20] 3)
  refine ⟨Or.inr ⟨w.heap.size, 0, rfl, by simp, fun i hi => ?_⟩, fun i hi => by unfold Hy.L2; split <;> omega⟩
  rw [Nat.zero_add, cell_of_row _ _ _ _ _ _ h]
  rcases (show i = 0 ∨ i = 1 by omega) with rfl | rfl <;> rfl
set_option maxRecDepth 100000 in
set_option maxHeartbeats 8000000 in
theorem liveOk (w : World) : Calls Try.prog 7 #[] w (Ret (.bool true) w) := by
  have K0 := Lib.hid (fun W hb => hsolo_new 2 (by decide) w W hb)
  have K1 := Lib.hid (fun T W (h : HySolo w w.heap.size T 2 [] W) => by
    have := hsolo_obs ⟨#[97]⟩ 3 W (by decide) (by decide) (by decide) (by decide) (by decide) h
    rw [Hy.live_1] at this
    exact this)
  have K2 := Lib.hid (fun T W (h : HySolo w w.heap.size T 2 [(⟨#[97]⟩, Hy.h3)] W) => by
    have := hsolo_obs ⟨#[97]⟩ 9 W (by decide) (by decide) (by decide) (by decide) (by decide) h
    rw [Hy.live_2] at this
    exact this)
  have K3 := Lib.hid (fun T W (h : HySolo w w.heap.size T 2 [(⟨#[97]⟩, Hy.h39)] W) => hsolo_class ⟨#[97]⟩ (some ⟨W.heap.size, 0, none⟩) 2 2 50 Hy.L2 3 true 0 (W.alloc (.cells #[.int .i64 4, .int .i64 20] 3)) (by decide) (lim2 W) (by decide) (by rw [Hy.live_a]; exact Hy.told50) (h.below ((Below.refl _ _).alloc (Nat.le_refl _) _)))
  have K4 := Lib.hid (fun T W (h : HySolo w w.heap.size T 2 [(⟨#[97]⟩, Hy.h39)] W) => hsolo_class ⟨#[97]⟩ (some ⟨W.heap.size, 0, none⟩) 2 2 51 Hy.L2 15 true 1 (W.alloc (.cells #[.int .i64 4, .int .i64 20] 3)) (by decide) (lim2 W) (by decide) (by rw [Hy.live_a]; exact Hy.told51) (h.below ((Below.refl _ _).alloc (Nat.le_refl _) _)))
  have K5 := Lib.hid (fun T W (h : HySolo w w.heap.size T 2 [(⟨#[97]⟩, Hy.h39)] W) => hsolo_class ⟨#[98]⟩ none 0 0 50 Hy.L2 0 false 0 W (by decide) ⟨Or.inl rfl, fun i hi => by omega⟩ (by decide) (by rw [Hy.live_b]; exact Hy.told_b _) h)
  go_enter Try.func7, Try.ntmps7
  go_wp2_with (first
    | (go_at_call 6; (with_reducible refine (K0.out _ (Below.refl _ _)).mono ?_); rintro e wA ⟨T, rfl, hT⟩; have HV := Lib.hid hT; clear hT)
    | (go_at_call 8; (first | (with_reducible refine (K1.out _ _ HV.out).mono ?_) | (with_reducible refine (K2.out _ _ HV.out).mono ?_)); rintro e wA ⟨rfl, hT⟩; replace HV := Lib.hid hT; clear hT)
    | (go_at_call 13; (first | (with_reducible refine (K3.out _ _ HV.out).mono ?_) | (with_reducible refine (K4.out _ _ HV.out).mono ?_) | (with_reducible refine (K5.out _ _ HV.out).mono ?_)); rintro e wA ⟨rfl, hT, _⟩; replace HV := Lib.hid hT; clear hT))
  go_ret
  exact ⟨rfl, HV.out.b⟩
end Go.Proofs.Ytmdpfinadffcaaa
