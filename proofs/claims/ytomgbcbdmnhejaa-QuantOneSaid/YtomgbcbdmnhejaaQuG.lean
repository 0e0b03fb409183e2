/-
  QuantOne; the laws' walks.
-/
import Derived.Test.YtomgbcbdmnhejaaQuF
import Derived.Test.YtomgbcbdmnhejaaHistE
import Derived.Test.YtomgbcbdmnhejaaHistR
namespace Go.Proofs.Ytomgbcbdmnhejaa
open Go.RowKit
set_option linter.unusedVariables false

set_option maxRecDepth 100000 in
set_option maxHeartbeats 1000000 in
theorem quantOne_at (v p : Int) (h0 : 0 ≤ v) (h1 : v < 18446744073709551616) (w : World) :
    Calls Try.prog 5 #[.int .u64 v, .int .i64 p] w (Ret (.bool true) w) := by
  have hk := Hi.bk_lt v.toNat
  have CA : Hid (∀ W, Calls Try.prog 13 #[.agg #[.int .i64 0, .int .i64 0, .int .i64 0, .int .i64 0, .int .i64 0, .int .i64 0, .int .i64 0, .int .i64 0, .int .i64 0, .int .i64 0, .int .i64 0, .int .i64 0, .int .i64 0, .int .i64 0, .int .i64 0, .int .i64 0], .int .u64 v] W (Ret (.agg (Hi.cells (Hi.inc Hi.zeros (Hi.bk v.toNat)))) W)) := Lib.hid (fun W => by
    have h := addC Hi.zeros rfl v h0 h1 W
    rwa [Qu.add_zeros] at h)
  have CB := Lib.hid (fun W => bucketC v h0 h1 W)
  have CH := Lib.hid (fun W => highC ((Hi.bk v.toNat : Nat) : Int) W)
  have CL := Lib.hid (fun W => liveOk W)
  have hm : (Hi.inc Hi.zeros (Hi.bk v.toNat)).length = 16 := by rw [Hi.inc_length]; rfl
  by_cases hp : 1 ≤ p ∧ p ≤ 100
  · have CO := Lib.hid (fun W => ofYes _ hm p _ (Qu.one_good hk hp.1 hp.2) (Qu.one_place hk hp.1 hp.2) W)
    generalize Hi.inc Hi.zeros (Hi.bk v.toNat) = m at *
    generalize Hi.high ((Hi.bk v.toNat : Nat) : Int) = H at *
    generalize Hi.bk v.toNat = k at *
    obtain ⟨hp1, hp2⟩ := hp
    go_enter Try.func5, Try.ntmps5
    go_wp2_with (first
      | (go_at_call 13; (with_reducible refine (CA.out _).mono ?_); rintro e w1 ⟨rfl, hb1⟩; have W0 := Lib.hid (hb1.mono (Nat.le_refl _)); clear hb1)
      | (go_at_call 8; (with_reducible refine (CO.out _).mono ?_); rintro e w2 ⟨rfl, hb1⟩; replace W0 := Lib.hid (W0.out.trans (hb1.mono W0.out.size)); clear hb1)
      | (go_at_call 14; (with_reducible refine (CB.out _).mono ?_); rintro e w2 ⟨rfl, rfl⟩)
      | (go_at_call 11; (with_reducible refine (CH.out _).mono ?_); rintro e w2 ⟨rfl, rfl⟩)
      | (go_at_call 10; (with_reducible refine (CL.out _).mono ?_); rintro e w2 ⟨rfl, hb1⟩; replace W0 := Lib.hid (W0.out.trans (hb1.mono W0.out.size)); clear hb1))
    go_ret
    exact ⟨rfl, W0.out⟩
  · have CO := Lib.hid (fun W => ofNo _ hm p (fun g => hp ⟨g.lo, g.hi⟩) W)
    generalize Hi.inc Hi.zeros (Hi.bk v.toNat) = m at *
    by_cases hp1 : p < 1
    · clear hp
      go_enter Try.func5, Try.ntmps5
      go_wp2_with (first
        | (go_at_call 13; (with_reducible refine (CA.out _).mono ?_); rintro e w1 ⟨rfl, hb1⟩; have W0 := Lib.hid (hb1.mono (Nat.le_refl _)); clear hb1)
        | (go_at_call 8; (with_reducible refine (CO.out _).mono ?_); rintro e w2 ⟨rfl, hb1⟩; replace W0 := Lib.hid (W0.out.trans (hb1.mono W0.out.size)); clear hb1)
        | (go_at_call 10; (with_reducible refine (CL.out _).mono ?_); rintro e w2 ⟨rfl, hb1⟩; replace W0 := Lib.hid (W0.out.trans (hb1.mono W0.out.size)); clear hb1))
      go_ret
      exact ⟨rfl, W0.out⟩
    · have hp2 : 100 < p := by omega
      clear hp
      go_enter Try.func5, Try.ntmps5
      go_wp2_with (first
        | (go_at_call 13; (with_reducible refine (CA.out _).mono ?_); rintro e w1 ⟨rfl, hb1⟩; have W0 := Lib.hid (hb1.mono (Nat.le_refl _)); clear hb1)
        | (go_at_call 8; (with_reducible refine (CO.out _).mono ?_); rintro e w2 ⟨rfl, hb1⟩; replace W0 := Lib.hid (W0.out.trans (hb1.mono W0.out.size)); clear hb1)
        | (go_at_call 10; (with_reducible refine (CL.out _).mono ?_); rintro e w2 ⟨rfl, hb1⟩; replace W0 := Lib.hid (W0.out.trans (hb1.mono W0.out.size)); clear hb1))
      go_ret
      exact ⟨rfl, W0.out⟩

theorem quantOne_walk (v p : Int) (w : World) (w0 : (Lit.int .u64 v).wf = true) (w1 : (Lit.int .i64 p).wf = true) : Calls Try.prog 5 #[.int .u64 v, .int .i64 p] w (Ret (.bool true) w) := by
  obtain ⟨h0, h1⟩ := wf_u64 w0
  exact quantOne_at v p h0 h1 w

theorem quantTells_walk (l : List Int) (p : Int) (w : World) (hl : l.length = 16) (w1 : (Lit.int .i64 p).wf = true) : Calls Try.prog 3 #[.agg (Hi.cells l), .int .i64 p] w (Ret (.bool true) w) := by
  by_cases h : Qu.Good l p
  · obtain ⟨b, hb⟩ := h.place hl
    exact quantTells_yes l hl p b h hb w
  · exact quantTells_no l hl p h w

theorem quantRises_walk (l : List Int) (a b : Int) (w : World) (hl : l.length = 16) (w1 : (Lit.int .i64 a).wf = true) (w2 : (Lit.int .i64 b).wf = true) : Calls Try.prog 4 #[.agg (Hi.cells l), .int .i64 a, .int .i64 b] w (Ret (.bool true) w) := by
  by_cases ga : Qu.Good l a
  · obtain ⟨i, hi⟩ := ga.place hl
    have C1 := Lib.hid (fun W => ofYes l hl a i ga hi W)
    by_cases gb : Qu.Good l b
    · obtain ⟨j, hj⟩ := gb.place hl
      rcases Int.lt_or_le b a with h | h
      · exact quantRises_no l hl a b _ _ true true (fun _ _ => h) w C1 (Lib.hid (fun W => ofYes l hl b j gb hj W))
      · exact quantRises_yes l hl a b i j ga gb hi hj h w
    · exact quantRises_no l hl a b _ _ true false (fun _ h => by cases h) w C1 (Lib.hid (fun W => ofNo l hl b gb W))
  · have C1 := Lib.hid (fun W => ofNo l hl a ga W)
    by_cases gb : Qu.Good l b
    · obtain ⟨j, hj⟩ := gb.place hl
      exact quantRises_no l hl a b _ _ false true (fun h => by cases h) w C1 (Lib.hid (fun W => ofYes l hl b j gb hj W))
    · exact quantRises_no l hl a b _ _ false false (fun h => by cases h) w C1 (Lib.hid (fun W => ofNo l hl b gb W))
end Go.Proofs.Ytomgbcbdmnhejaa
