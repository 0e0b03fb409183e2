/-
  bits.Div64.
-/
import Derived.Test.YtipljafpmpagjaaFracE
import Derived.Test.YtipljafpmpagjaaFracKnuth
import Derived.Test.YtipljafpmpagjaaShelf
import Derived.Deep.QuietTactic
import Derived.BigQuiet
import Derived.Lib.ItoaNum
import Derived.Deep.CutBlock
import Derived.Deep.CutRange
namespace Go.Proofs.Ytipljafpmpagjaa
open Go.RowKit
set_option linter.unusedVariables false

theorem div64Zero (lo y : Int) (h0 : 0 ≤ lo) (h1 : lo < 18446744073709551616) (hy : 0 < y) (w : World) :
    Calls Try.prog 18 #[.int .u64 0, .int .u64 lo, .int .u64 y] w (fun e w' => e = .returned (.tuple #[.int .u64 (lo / y), .int .u64 (lo % y)]) ∧ ∃ n, w' = w.drewN n) := by
  have e0 : (y == 0) = false := by simp; omega
  have e1 : decide (y ≤ 0) = false := by simp; omega
  have e2 : IntKind.u64.wrap (lo.tdiv y) = lo / y := by
    rw [Int.tdiv_eq_ediv_of_nonneg h0]
    exact wrap64_in (Int.ediv_nonneg h0 (Int.le_of_lt hy)) (Int.lt_of_le_of_lt (Int.ediv_le_self y h0) h1)
  clear h1
  go_enter Try.func18, Try.ntmps18
  go_wp2
  go_quiet (fail)
  go_wp2
  go_ret2
  exact ⟨rfl, _, rfl⟩

/-- what a round of the guess's loop meets: the guess a, what is left b, in the words that the code reckons by -/
structure Met (Y1 Y0 U D a b : Nat) : Prop where
  g : Fr.Guess Y1 Y0 U D a b
  b : b < 4294967296

theorem met_cases {Y1 Y0 U D a b : Nat} (h : Met Y1 Y0 U D a b) (hy : 0 < Y1) (hy1 : Y1 < 4294967296) (h0 : Y0 < 4294967296) (hd : D < 4294967296) (hU : U < Y1 * 4294967296 + Y0) :
    (∃ a' b' : Nat, (4294967296 ≤ a ∨ (a < 4294967296 ∧ 4294967296 * b + D < a * Y0)) ∧ a = a' + 1 ∧ b' = b + Y1 ∧ (b' < 4294967296 → Met Y1 Y0 U D a' b') ∧ (4294967296 ≤ b' → a' = (U * 4294967296 + D) / (Y1 * 4294967296 + Y0))) ∨
    (a < 4294967296 ∧ a * Y0 ≤ 4294967296 * b + D ∧ a = (U * 4294967296 + D) / (Y1 * 4294967296 + Y0)) := by
  have hl := Fr.digit_lt hU hd
  by_cases c : 4294967296 ≤ a ∨ 4294967296 * b + D < a * Y0
  · obtain ⟨h1, h2⟩ := Fr.guess_step hy h.g hl c
    refine Or.inl ⟨a - 1, b + Y1, ?_, by omega, rfl, fun hb => ⟨h2, hb⟩, fun hb => Fr.guess_over hy h0 h2 hb (by have := h.g.top; omega)⟩
    by_cases c1 : 4294967296 ≤ a
    · exact Or.inl c1
    · exact Or.inr ⟨by omega, c.resolve_left c1⟩
  · exact Or.inr ⟨by omega, by omega, Fr.guess_fits hy h.g (by omega)⟩

theorem met_mul {a b : Nat} (ha : a < 4294967296) (hb : b < 4294967296) : a * b < 18446744073709551616 := by
  have := Nat.mul_lt_mul'' ha hb
  omega
set_option maxHeartbeats 4000000 in
set_option maxRecDepth 100000 in
theorem div64Big (hi lo y Y H L D P1 P0 A1 A2 A3 B1 C1 C2 C3 Q : Int) (s Y1 Y0 U D1 D0 Q1 R1 Q0 R0 G1 S1 G0 S0 : Nat) (w : World)
    (e0 : (y == 0) = false) (e1 : (hi == 0) = false) (e2 : decide (y ≤ hi) = false) (hs : s ≤ 63)
    (k1 : ∀ W, Calls Try.prog 22 #[.int .u64 y] W (Same (.int .i64 s) W))
    (wY : IntKind.u64.wrap (y * 2 ^ s) = Y) (wy1 : Y / 4294967296 = (Y1 : Int)) (wy0 : bits .and .u64 Y 4294967295 = (Y0 : Int))
    (wH : IntKind.u64.wrap (hi * 2 ^ s) = H) (wL : lo / 2 ^ (64 - s) = L) (wU : bits .or .u64 H L = (U : Int))
    (wD : IntKind.u64.wrap (lo * 2 ^ s) = D) (wd1 : D / 4294967296 = (D1 : Int)) (wd0 : bits .and .u64 D 4294967295 = (D0 : Int))
    (wq1 : IntKind.u64.wrap ((U : Int) / (Y1 : Int)) = (G1 : Int)) (wp1 : IntKind.u64.wrap ((G1 : Int) * Y1) = P1) (wr1 : IntKind.u64.wrap ((U : Int) - P1) = (S1 : Int))
    (wa1 : IntKind.u64.wrap ((U : Int) * 4294967296) = A1) (wa2 : IntKind.u64.wrap (A1 + D1) = A2) (wa3 : IntKind.u64.wrap ((Q1 : Int) * Y) = A3) (wa4 : IntKind.u64.wrap (A2 - A3) = (R1 : Int))
    (wq0 : IntKind.u64.wrap ((R1 : Int) / (Y1 : Int)) = (G0 : Int)) (wp0 : IntKind.u64.wrap ((G0 : Int) * Y1) = P0) (wr0 : IntKind.u64.wrap ((R1 : Int) - P0) = (S0 : Int))
    (wb1 : IntKind.u64.wrap ((Q1 : Int) * 4294967296) = B1) (wb2 : IntKind.u64.wrap (B1 + Q0) = Q)
    (wc1 : IntKind.u64.wrap ((R1 : Int) * 4294967296) = C1) (wc2 : IntKind.u64.wrap (C1 + D0) = C2) (wc3 : IntKind.u64.wrap ((Q0 : Int) * Y) = C3) (wc4 : IntKind.u64.wrap (C2 - C3) = (R0 : Int))
    (hy1 : (Y1 == 0) = false) (hy1n : ¬ Y1 = 0)
    (F : Hid (Y1 < 4294967296 ∧ Y0 < 4294967296 ∧ D1 < 4294967296 ∧ D0 < 4294967296 ∧ U < Y1 * 4294967296 + Y0 ∧ R1 < Y1 * 4294967296 + Y0 ∧ 2147483648 ≤ Y1 ∧ Q1 = (U * 4294967296 + D1) / (Y1 * 4294967296 + Y0) ∧ Q0 = (R1 * 4294967296 + D0) / (Y1 * 4294967296 + Y0) ∧ G1 = U / Y1 ∧ S1 = U % Y1 ∧ G0 = R1 / Y1 ∧ S0 = R1 % Y1)) :
    Calls Try.prog 18 #[.int .u64 hi, .int .u64 lo, .int .u64 y] w (Same (.tuple #[.int .u64 Q, .int .u64 ((R0 : Int) / 2 ^ s)]) w) := by
  have K1 := Lib.hid k1; clear k1
  go_enter Try.func18, Try.ntmps18
  go_upto_block 0 with (go_at_call 22; (with_reducible refine (K1.out _).mono ?_); rintro e w1 ⟨rfl, rfl⟩)
  go_cut [15, 16] from 67 to 85 (fun q r wx => q = .int .u64 (Q1 : Int) ∧ wx = w)
  case first =>
    go_wp2_with fail
    go_loop [15, 16] (fun q r => ∃ a b : Nat, q = .int .u64 a ∧ r = .int .u64 b ∧ Met Y1 Y0 U D1 a b) (fun q _ => (intOf q).toNat)
    case atStart => exact ⟨G1, S1, rfl, rfl, by
      obtain ⟨f1, f2, f3, f4, f5, f6, f7, f8, f9, f10, f11, f12, f13⟩ := F.out
      have := Fr.guess_start f7 f2 f5 f3
      rw [← f10, ← f11] at this
      exact ⟨this, by rw [f11]; exact Nat.lt_trans (Nat.mod_lt _ (by omega)) f1⟩⟩
    case round =>
      obtain ⟨a, b, rfl, rfl, hm⟩ := hrel
      have hcs := met_cases hm (by have := F.out; omega) F.out.1 F.out.2.1 F.out.2.2.1 F.out.2.2.2.2.1
      rw [← F.out.2.2.2.2.2.2.2.1] at hcs
      have hb : b < 4294967296 := hm.b
      have HM := Lib.hid hm; clear hm
      rcases hcs with ⟨a', b', hor, ha, hb', hgo, hend⟩ | ⟨ha, hle, hq⟩
      · have HGO := Lib.hid hgo; clear hgo
        have HEND := Lib.hid hend; clear hend
        have HA := Lib.hid ha
        have HLE : Hid (a ≤ 4294967297) := Lib.hid HM.out.g.top
        have s1 : IntKind.u64.wrap ((a : Int) - 1) = (a' : Int) := by rw [show (a : Int) - 1 = (a' : Int) by omega]; exact cwrap_id _ (by have := HLE.out; omega)
        have s2 : IntKind.u64.wrap ((b : Int) + (Y1 : Int)) = (b' : Int) := by rw [show (b : Int) + (Y1 : Int) = (b' : Int) by omega]; exact cwrap_id _ (by have := F.out.1; omega)
        clear ha hb'
        rcases hor with hge | ⟨hlt, hgt⟩
        · have t1 : decide (4294967296 ≤ (a : Int)) = true := by simp; omega
          clear hge hb
          by_cases hover : 4294967296 ≤ b'
          · have t2 : decide (4294967296 ≤ (b' : Int)) = true := by simp; omega
            have HQ := Lib.hid (HEND.out hover); clear hover
            go_wp2
            go_meet
            exact ⟨by rw [HQ.out], rfl⟩
          · have t2 : decide (4294967296 ≤ (b' : Int)) = false := by simp; omega
            have HG := Lib.hid (HGO.out (by omega)); clear hover
            go_wp2
            exact ⟨⟨a', b', rfl, rfl, HG.out⟩, by have := HA.out; simp [intOf]; omega⟩
        · have t1 : decide (4294967296 ≤ (a : Int)) = false := by simp; omega
          obtain ⟨p, hp⟩ : ∃ p : Int, p = (a : Int) * (Y0 : Int) := ⟨_, rfl⟩
          have m1 : IntKind.u64.wrap ((a : Int) * (Y0 : Int)) = p := by rw [hp, cmul]; exact cwrap_id _ (met_mul hlt F.out.2.1)
          obtain ⟨z, hz⟩ : ∃ z : Int, z = 4294967296 * (b : Int) := ⟨_, rfl⟩
          have m2 : IntKind.u64.wrap (4294967296 * (b : Int)) = z := by rw [hz]; exact wrap64_in (by omega) (by omega)
          obtain ⟨z2, hz2⟩ : ∃ z2 : Int, z2 = 4294967296 * (b : Int) + D1 := ⟨_, rfl⟩
          have m3 : IntKind.u64.wrap (z + (D1 : Int)) = z2 := by rw [hz, hz2]; exact wrap64_in (by omega) (by have := F.out.2.2.1; omega)
          have t3 : decide (z2 < p) = true := by rw [hz2, hp, cmul]; simp only [decide_eq_true_eq]; omega
          clear hp hz hz2 hlt hgt hb
          by_cases hover : 4294967296 ≤ b'
          · have t2 : decide (4294967296 ≤ (b' : Int)) = true := by simp; omega
            have HQ := Lib.hid (HEND.out hover); clear hover
            go_wp2
            go_meet
            exact ⟨by rw [HQ.out], rfl⟩
          · have t2 : decide (4294967296 ≤ (b' : Int)) = false := by simp; omega
            have HG := Lib.hid (HGO.out (by omega)); clear hover
            go_wp2
            exact ⟨⟨a', b', rfl, rfl, HG.out⟩, by have := HA.out; simp [intOf]; omega⟩
      · have t1 : decide (4294967296 ≤ (a : Int)) = false := by simp; omega
        obtain ⟨p, hp⟩ : ∃ p : Int, p = (a : Int) * (Y0 : Int) := ⟨_, rfl⟩
        have m1 : IntKind.u64.wrap ((a : Int) * (Y0 : Int)) = p := by rw [hp, cmul]; exact cwrap_id _ (met_mul ha F.out.2.1)
        obtain ⟨z, hz⟩ : ∃ z : Int, z = 4294967296 * (b : Int) := ⟨_, rfl⟩
        have m2 : IntKind.u64.wrap (4294967296 * (b : Int)) = z := by rw [hz]; exact wrap64_in (by omega) (by omega)
        obtain ⟨z2, hz2⟩ : ∃ z2 : Int, z2 = 4294967296 * (b : Int) + D1 := ⟨_, rfl⟩
        have m3 : IntKind.u64.wrap (z + (D1 : Int)) = z2 := by rw [hz, hz2]; exact wrap64_in (by omega) (by have := F.out.2.2.1; omega)
        have t3 : decide (z2 < p) = false := by rw [hz2, hp, cmul]; simp only [decide_eq_false_iff_not]; omega
        have HQ := Lib.hid hq; clear hq
        clear hp hz hz2 hle hb ha
        go_wp2
        go_meet
        exact ⟨by rw [HQ.out], rfl⟩
  case rest =>
    obtain ⟨rfl, rfl⟩ := hcut
    go_upto_block 2 with fail
    go_cut [18, 16] from 102 to 120 (fun q r wx => q = .int .u64 (Q0 : Int) ∧ wx = wc)
    case first =>
      go_wp2_with fail
      go_loop [18, 16] (fun q r => ∃ a b : Nat, q = .int .u64 a ∧ r = .int .u64 b ∧ Met Y1 Y0 R1 D0 a b) (fun q _ => (intOf q).toNat)
      case atStart => exact ⟨G0, S0, rfl, rfl, by
        obtain ⟨f1, f2, f3, f4, f5, f6, f7, f8, f9, f10, f11, f12, f13⟩ := F.out
        have := Fr.guess_start f7 f2 f6 f4
        rw [← f12, ← f13] at this
        exact ⟨this, by rw [f13]; exact Nat.lt_trans (Nat.mod_lt _ (by omega)) f1⟩⟩
      case round =>
        obtain ⟨a, b, rfl, rfl, hm⟩ := hrel
        have hcs := met_cases hm (by have := F.out; omega) F.out.1 F.out.2.1 F.out.2.2.2.1 F.out.2.2.2.2.2.1
        rw [← F.out.2.2.2.2.2.2.2.2.1] at hcs
        have hb : b < 4294967296 := hm.b
        have HM := Lib.hid hm; clear hm
        rcases hcs with ⟨a', b', hor, ha, hb', hgo, hend⟩ | ⟨ha, hle, hq⟩
        · have HGO := Lib.hid hgo; clear hgo
          have HEND := Lib.hid hend; clear hend
          have HA := Lib.hid ha
          have HLE : Hid (a ≤ 4294967297) := Lib.hid HM.out.g.top
          have s1 : IntKind.u64.wrap ((a : Int) - 1) = (a' : Int) := by rw [show (a : Int) - 1 = (a' : Int) by omega]; exact cwrap_id _ (by have := HLE.out; omega)
          have s2 : IntKind.u64.wrap ((b : Int) + (Y1 : Int)) = (b' : Int) := by rw [show (b : Int) + (Y1 : Int) = (b' : Int) by omega]; exact cwrap_id _ (by have := F.out.1; omega)
          clear ha hb'
          rcases hor with hge | ⟨hlt, hgt⟩
          · have t1 : decide (4294967296 ≤ (a : Int)) = true := by simp; omega
            clear hge hb
            by_cases hover : 4294967296 ≤ b'
            · have t2 : decide (4294967296 ≤ (b' : Int)) = true := by simp; omega
              have HQ := Lib.hid (HEND.out hover); clear hover
              go_wp2
              go_meet
              exact ⟨by rw [HQ.out], rfl⟩
            · have t2 : decide (4294967296 ≤ (b' : Int)) = false := by simp; omega
              have HG := Lib.hid (HGO.out (by omega)); clear hover
              go_wp2
              exact ⟨⟨a', b', rfl, rfl, HG.out⟩, by have := HA.out; simp [intOf]; omega⟩
          · have t1 : decide (4294967296 ≤ (a : Int)) = false := by simp; omega
            obtain ⟨p, hp⟩ : ∃ p : Int, p = (a : Int) * (Y0 : Int) := ⟨_, rfl⟩
            have m1 : IntKind.u64.wrap ((a : Int) * (Y0 : Int)) = p := by rw [hp, cmul]; exact cwrap_id _ (met_mul hlt F.out.2.1)
            obtain ⟨z, hz⟩ : ∃ z : Int, z = 4294967296 * (b : Int) := ⟨_, rfl⟩
            have m2 : IntKind.u64.wrap (4294967296 * (b : Int)) = z := by rw [hz]; exact wrap64_in (by omega) (by omega)
            obtain ⟨z2, hz2⟩ : ∃ z2 : Int, z2 = 4294967296 * (b : Int) + D0 := ⟨_, rfl⟩
            have m3 : IntKind.u64.wrap (z + (D0 : Int)) = z2 := by rw [hz, hz2]; exact wrap64_in (by omega) (by have := F.out.2.2.2.1; omega)
            have t3 : decide (z2 < p) = true := by rw [hz2, hp, cmul]; simp only [decide_eq_true_eq]; omega
            clear hp hz hz2 hlt hgt hb
            by_cases hover : 4294967296 ≤ b'
            · have t2 : decide (4294967296 ≤ (b' : Int)) = true := by simp; omega
              have HQ := Lib.hid (HEND.out hover); clear hover
              go_wp2
              go_meet
              exact ⟨by rw [HQ.out], rfl⟩
            · have t2 : decide (4294967296 ≤ (b' : Int)) = false := by simp; omega
              have HG := Lib.hid (HGO.out (by omega)); clear hover
              go_wp2
              exact ⟨⟨a', b', rfl, rfl, HG.out⟩, by have := HA.out; simp [intOf]; omega⟩
        · have t1 : decide (4294967296 ≤ (a : Int)) = false := by simp; omega
          obtain ⟨p, hp⟩ : ∃ p : Int, p = (a : Int) * (Y0 : Int) := ⟨_, rfl⟩
          have m1 : IntKind.u64.wrap ((a : Int) * (Y0 : Int)) = p := by rw [hp, cmul]; exact cwrap_id _ (met_mul ha F.out.2.1)
          obtain ⟨z, hz⟩ : ∃ z : Int, z = 4294967296 * (b : Int) := ⟨_, rfl⟩
          have m2 : IntKind.u64.wrap (4294967296 * (b : Int)) = z := by rw [hz]; exact wrap64_in (by omega) (by omega)
          obtain ⟨z2, hz2⟩ : ∃ z2 : Int, z2 = 4294967296 * (b : Int) + D0 := ⟨_, rfl⟩
          have m3 : IntKind.u64.wrap (z + (D0 : Int)) = z2 := by rw [hz, hz2]; exact wrap64_in (by omega) (by have := F.out.2.2.2.1; omega)
          have t3 : decide (z2 < p) = false := by rw [hz2, hp, cmul]; simp only [decide_eq_false_iff_not]; omega
          have HQ := Lib.hid hq; clear hq
          clear hp hz hz2 hle hb ha
          go_wp2
          go_meet
          exact ⟨by rw [HQ.out], rfl⟩
    case rest =>
      obtain ⟨rfl, rfl⟩ := hcut
      go_wp2
      go_ret2
      exact ⟨rfl, rfl⟩
end Go.Proofs.Ytipljafpmpagjaa
