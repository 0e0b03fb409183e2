/-
  QuantRises.
-/
import Derived.Test.YtomgbcbdmnhejaaQuE
namespace Go.Proofs.Ytomgbcbdmnhejaa
open Go.RowKit
set_option linter.unusedVariables false

set_option maxRecDepth 100000 in
set_option maxHeartbeats 1000000 in
theorem quantRises_no (l : List Int) (hl : l.length = 16) (a b x y : Int) (o1 o2 : Bool) (hc : o1 = true → o2 = true → b < a) (w : World)
    (C1 : Hid (∀ W, Calls Try.prog 8 #[.agg (Hi.cells l), .int .i64 a] W (Ret (.tuple #[.int .u64 x, .bool o1]) W)))
    (C2 : Hid (∀ W, Calls Try.prog 8 #[.agg (Hi.cells l), .int .i64 b] W (Ret (.tuple #[.int .u64 y, .bool o2]) W))) :
    Calls Try.prog 4 #[.agg (Hi.cells l), .int .i64 a, .int .i64 b] w (Ret (.bool true) w) := by
  have B0 := Lib.hid (Bx.new w hl)
  have W0 := Lib.hid ((Below.refl w.heap.size w).alloc (Nat.le_refl _) (boxH l))
  have C5 := Lib.hid (fun W => liveOk W)
  cases o1 with
  | false =>
    clear hc
    go_enter Try.func4, Try.ntmps4
    go_wp2_with (first
      | (refine loadB B0.out _ rfl rfl rfl ?_)
      | (go_at_call 8; (with_reducible refine (C1.out _).mono ?_); rintro e w1 ⟨rfl, hb1⟩; replace B0 := Lib.hid (B0.out.below hb1); replace W0 := Lib.hid (W0.out.trans (hb1.mono W0.out.size)); clear hb1)
      | (go_at_call 8; (with_reducible refine (C2.out _).mono ?_); rintro e w1 ⟨rfl, hb1⟩; replace B0 := Lib.hid (B0.out.below hb1); replace W0 := Lib.hid (W0.out.trans (hb1.mono W0.out.size)); clear hb1)
      | (go_at_call 10; (with_reducible refine (C5.out _).mono ?_); rintro e w1 ⟨rfl, hb1⟩; replace W0 := Lib.hid (W0.out.trans (hb1.mono W0.out.size)); clear hb1))
    go_ret
    exact ⟨rfl, W0.out⟩
  | true =>
    cases o2 with
    | false =>
      clear hc
      go_enter Try.func4, Try.ntmps4
      go_wp2_with (first
        | (refine loadB B0.out _ rfl rfl rfl ?_)
        | (go_at_call 8; (with_reducible refine (C1.out _).mono ?_); rintro e w1 ⟨rfl, hb1⟩; replace B0 := Lib.hid (B0.out.below hb1); replace W0 := Lib.hid (W0.out.trans (hb1.mono W0.out.size)); clear hb1)
        | (go_at_call 8; (with_reducible refine (C2.out _).mono ?_); rintro e w1 ⟨rfl, hb1⟩; replace B0 := Lib.hid (B0.out.below hb1); replace W0 := Lib.hid (W0.out.trans (hb1.mono W0.out.size)); clear hb1)
        | (go_at_call 10; (with_reducible refine (C5.out _).mono ?_); rintro e w1 ⟨rfl, hb1⟩; replace W0 := Lib.hid (W0.out.trans (hb1.mono W0.out.size)); clear hb1))
      go_ret
      exact ⟨rfl, W0.out⟩
    | true =>
      replace hc := hc rfl rfl
      go_enter Try.func4, Try.ntmps4
      go_wp2_with (first
        | (refine loadB B0.out _ rfl rfl rfl ?_)
        | (go_at_call 8; (with_reducible refine (C1.out _).mono ?_); rintro e w1 ⟨rfl, hb1⟩; replace B0 := Lib.hid (B0.out.below hb1); replace W0 := Lib.hid (W0.out.trans (hb1.mono W0.out.size)); clear hb1)
        | (go_at_call 8; (with_reducible refine (C2.out _).mono ?_); rintro e w1 ⟨rfl, hb1⟩; replace B0 := Lib.hid (B0.out.below hb1); replace W0 := Lib.hid (W0.out.trans (hb1.mono W0.out.size)); clear hb1)
        | (go_at_call 10; (with_reducible refine (C5.out _).mono ?_); rintro e w1 ⟨rfl, hb1⟩; replace W0 := Lib.hid (W0.out.trans (hb1.mono W0.out.size)); clear hb1))
      go_ret
      exact ⟨rfl, W0.out⟩

/-- so many counts up to bucket k, but not above bucket i -/
def upTo (l : List Int) (i k : Nat) : Int := Hi.tot (l.take (min k (i + 1)))
theorem upTo_in {l : List Int} {i k : Nat} (hl : l.length = 16) (hk : k < 16) (h : k ≤ i) : upTo l i (k + 1) = upTo l i k + l.getD k 0 := by
  unfold upTo
  rw [Nat.min_eq_left (by omega), Nat.min_eq_left (by omega), Hi.tot_take (by omega)]
theorem upTo_out {l : List Int} {i k : Nat} (h : i < k) : upTo l i (k + 1) = upTo l i k := by
  unfold upTo
  rw [Nat.min_eq_right (by omega), Nat.min_eq_right (by omega)]
theorem upTo_all {l : List Int} {i : Nat} (h : i < 16) : upTo l i 16 = Hi.tot (l.take (i + 1)) := by
  unfold upTo
  rw [Nat.min_eq_right (by omega)]

set_option maxRecDepth 100000 in
set_option maxHeartbeats 1000000 in
theorem quantRises_yes (l : List Int) (hl : l.length = 16) (a b : Int) (i j : Nat) (ga : Qu.Good l a) (gb : Qu.Good l b) (pa : Qu.IsPlace l a i) (pb : Qu.IsPlace l b j) (hab : a ≤ b) (w : World) :
    Calls Try.prog 4 #[.agg (Hi.cells l), .int .i64 a, .int .i64 b] w (Ret (.bool true) w) := by
  have B0 := Lib.hid (Bx.new w hl)
  have W0 := Lib.hid ((Below.refl w.heap.size w).alloc (Nat.le_refl _) (boxH l))
  have C5 := Lib.hid (fun W => liveOk W)
  have C1 := Lib.hid (fun W => ofYes l hl a i ga pa W)
  have C2 := Lib.hid (fun W => ofYes l hl b j gb pb W)
  have CT := Lib.hid (fun W => totalC l hl (Hi.small.wide (Hi.ok_iff.1 ga.ok).1) W)
  have CH := Lib.hid (fun (k : Nat) W => highC (k : Int) W)
  have hi16 := pa.lt
  have hxy : Hi.high (i : Nat) ≤ Hi.high (j : Nat) := (Qu.high_le pb.lt pa.lt).2 (pa.mono ga.ok pb hab)
  have HL := Lib.hid (fun (k : Nat) (hk : k < 16) => Qu.high_le (b := i) (j := k) hi16 hk)
  have HE := Lib.hid pa.enough
  have HS := Lib.hid (fun k => Qu.ok_take ga.ok k)
  have HU : Hid (∀ k, 0 ≤ upTo l i k ∧ upTo l i k ≤ 64) := Lib.hid (fun k => HS.out _)
  obtain ⟨t1, t2, t3, t4⟩ := ga.prod
  have p1 := ga.lo
  have p2 := ga.hi
  clear ga gb pa pb
  generalize Hi.tot l = T at *
  generalize Hi.high (i : Nat) = X at *
  generalize Hi.high (j : Nat) = Y at *
  go_enter Try.func4, Try.ntmps4
  go_wp2_with (first
    | (refine loadB B0.out _ rfl rfl rfl ?_)
    | (go_at_call 8; (with_reducible refine (C1.out _).mono ?_); rintro e w1 ⟨rfl, hb1⟩; replace B0 := Lib.hid (B0.out.below hb1); replace W0 := Lib.hid (W0.out.trans (hb1.mono W0.out.size)); clear hb1)
    | (go_at_call 8; (with_reducible refine (C2.out _).mono ?_); rintro e w1 ⟨rfl, hb1⟩; replace B0 := Lib.hid (B0.out.below hb1); replace W0 := Lib.hid (W0.out.trans (hb1.mono W0.out.size)); clear hb1))
  rename_i w1
  go_loop [11, 12] (fun n k => ∃ (m : Nat), m ≤ 16 ∧ k = .int .i64 (m : Int) ∧ n = .int .i64 (upTo l i m)) (fun _ k => 16 - (intOf k).toNat)
  case atStart => exact ⟨0, by omega, rfl, by simp [upTo, Hi.tot]⟩
  case round =>
    obtain ⟨m, hm, rfl, rfl⟩ := hrel
    by_cases hlt : m < 16
    · have hk := HL.out m hlt
      have CK := Lib.hid (CH.out m)
      have u1 := HU.out m
      have u2 := HU.out (m + 1)
      have hc := B0.out.cell hlt
      by_cases hle : m ≤ i
      · have hx := hk.2 hle
        have e := upTo_in hl hlt hle
        rw [e] at u2
        replace e := Lib.hid e
        generalize upTo l i m = u at *
        generalize l.getD m 0 = x at *
        generalize Hi.high (m : Nat) = Z at *
        clear hk HL HU
        obtain ⟨u10, u11⟩ := u1
        obtain ⟨u20, u21⟩ := u2
        go_wp2_with (go_at_call 11; (with_reducible refine (CK.out _).mono ?_); rintro e w2 ⟨rfl, rfl⟩)
        go_round
        case rel => exact ⟨m + 1, by omega, by go_num, by rw [e.out]⟩
        case measure => simp [intOf]; omega
      · have hx : ¬ Hi.high (m : Nat) ≤ X := fun h => hle (hk.1 h)
        have e := Lib.hid (upTo_out (l := l) (show i < m by omega))
        generalize upTo l i m = u at *
        generalize Hi.high (m : Nat) = Z at *
        clear hk HL HU
        go_wp2_with (go_at_call 11; (with_reducible refine (CK.out _).mono ?_); rintro e w2 ⟨rfl, rfl⟩)
        go_round
        case rel => exact ⟨m + 1, by omega, by go_num, by rw [e.out]⟩
        case measure => simp [intOf]; omega
    · obtain rfl : m = 16 := by omega
      rw [upTo_all hi16]
      have h1 := HE.out
      have h2 := HS.out (i + 1)
      generalize Hi.tot (l.take (i + 1)) = s at *
      obtain ⟨s1, s2⟩ := h2
      clear HL HU HE
      go_wp2_with (first
        | (refine loadB B0.out _ rfl rfl rfl ?_)
        | (go_at_call 12; (with_reducible refine (CT.out _).mono ?_); rintro e w2 ⟨rfl, hb1⟩; replace W0 := Lib.hid (W0.out.trans (hb1.mono W0.out.size)); clear hb1)
        | (go_at_call 10; (with_reducible refine (C5.out _).mono ?_); rintro e w2 ⟨rfl, hb1⟩; replace W0 := Lib.hid (W0.out.trans (hb1.mono W0.out.size)); clear hb1))
      go_ret
      exact ⟨rfl, W0.out⟩
end Go.Proofs.Ytomgbcbdmnhejaa
