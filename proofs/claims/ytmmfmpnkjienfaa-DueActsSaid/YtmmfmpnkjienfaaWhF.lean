/-
  The place of a tick, by the program: level and slot.
-/
import Derived.Test.YtmmfmpnkjienfaaWhP
import Derived.Test.YtmmfmpnkjienfaaWhPl
import Derived.Test.YtmmfmpnkjienfaaShelf
import Derived.BigQuiet
namespace Go.Proofs.Ytmmfmpnkjienfaa
open Go.RowKit
set_option linter.unusedVariables false

theorem or_xor (x n : Nat) (hx : x < 18446744073709551616) (hn : n < 18446744073709551616) : bits .or .u64 (bits .xor .u64 (x : Int) (n : Int)) 1 = (((x ^^^ n) ||| 1 : Nat) : Int) := by
  rw [u64_xor_nat x n hx hn, show (1 : Int) = ((1 : Nat) : Int) from rfl, u64_or_nat _ 1 (Nat.xor_lt_two_pow (n := 64) hx hn) (by omega)]

/-- it returns r; nothing is written, it may have drawn -/
structure Drew (r : Value) (w : World) (e : Ending) (w' : World) : Prop where
  e : e = .returned r
  w : ∃ q, w' = w.drewN q

set_option maxRecDepth 100000 in
set_option maxHeartbeats 1000000 in
theorem findCore (now a X M L D : Int) (P : Nat) (w : World) (c0 : w.cell? ⟨P, 0, none⟩ = some (.int .u64 now))
    (E : bits .or .u64 (bits .xor .u64 (later a now) now) 1 = X) (C : Hid (∀ W, Calls Try.prog 58 #[.int .u64 X] W (Same (.int .i64 M) W))) (hM : 1 ≤ M ∧ M ≤ 64) (hL : (M - 1) / 4 = L) (hL0 : 0 ≤ L) (hL1 : L ≤ 15)
    (hD : Hid (wrap64 ((later a now / 2 ^ (L * 4).toNat).tmod 16) = D)) :
    Calls Try.prog 51 #[.pointer (some ⟨P, 0, none⟩), .int .u64 a] w (Drew (.tuple #[.int .i64 L, .int .i64 D]) w) := by
  have hmax := fun ts t P w => run_max64 ts t P w a now
  generalize later a now = x at *
  obtain ⟨m1, m2⟩ := hM
  go_enter Try.func51, Try.ntmps51
  go_upto_region 4 with (go_at_call 58; (with_reducible refine (C.out _).mono ?_); rintro e w' ⟨rfl, rfl⟩)
  go_quiet (fail)
  replace hD := hD.out
  go_wp2
  rw [hD, hL]
  go_ret2
  exact ⟨rfl, _, rfl⟩

/-- the level and the digit of a tick that is not before now, as the walk spells them -/
theorem findC (now a : Int) (P : Nat) (w : World) (hn : (Lit.int .u64 now).wf = true) (ha : (Lit.int .u64 a).wf = true) (c0 : w.cell? ⟨P, 0, none⟩ = some (.int .u64 now)) :
    Calls Try.prog 51 #[.pointer (some ⟨P, 0, none⟩), .int .u64 a] w (Drew (.tuple #[.int .i64 (Wh.lev now.toNat (max a.toNat now.toNat) : Nat), .int .i64 (Wh.dig now.toNat (max a.toNat now.toNat) : Nat)]) w) := by
  obtain ⟨hn0, hn1⟩ := wf_u64 hn
  obtain ⟨ha0, ha1⟩ := wf_u64 ha
  have hx : later a now = ((max a.toNat now.toNat : Nat) : Int) := by unfold later; split <;> omega
  obtain ⟨n, rfl⟩ : ∃ n : Nat, now = (n : Int) := ⟨now.toNat, by omega⟩
  generalize hm : max a.toNat (n : Int).toNat = m at *
  have hm1 : m < 18446744073709551616 := by omega
  have hn2 : n < 18446744073709551616 := by omega
  simp only [Int.toNat_natCast]
  obtain ⟨b1, b2, b3, b4⟩ := Wh.lev_bounds (n := n) (a := m) hm1 hn2
  have hl := Wh.lev_lt (n := n) (a := m) hm1 hn2
  refine findCore n a (((m ^^^ n) ||| 1 : Nat) : Int) (Lib.bitLen ((m ^^^ n) ||| 1) : Nat) _ _ P w c0 ?_ ?_ ?_ ?_ ?_ ?_ ?_
  · rw [hx, or_xor m n hm1 hn2]
  · intro W
    have hk : (m ^^^ n) ||| 1 < 2 ^ 64 := Wh.or_one_lt (Nat.xor_lt_two_pow (n := 64) hm1 hn2)
    refine (Try.bits_Len64 (((m ^^^ n) ||| 1 : Nat) : Int) W (by omega) (by omega)).mono fun e w' h => ⟨by rw [h.1]; simp, h.2.symm⟩
  · omega
  · unfold Wh.lev; omega
  · omega
  · omega
  · show wrap64 _ = _
    have e1 : (((Wh.lev n m : Nat) : Int) * 4).toNat = 4 * Wh.lev n m := by omega
    rw [hx, e1]
    have e2 : (m : Int) / 2 ^ (4 * Wh.lev n m) = ((m / 16 ^ Wh.lev n m : Nat) : Int) := by
      rw [Wh.pow16]; simp
    have hlt : m / 16 ^ Wh.lev n m % 16 < 16 := Nat.mod_lt _ (by decide)
    rw [e2, Int.tmod_eq_emod_of_nonneg (Int.natCast_nonneg _), show ((m / 16 ^ Wh.lev n m : Nat) : Int) % 16 = ((m / 16 ^ Wh.lev n m % 16 : Nat) : Int) from rfl]
    show wrap64 ((m / 16 ^ Wh.lev n m % 16 : Nat) : Int) = ((m / 16 ^ Wh.lev n m % 16 : Nat) : Int)
    generalize m / 16 ^ Wh.lev n m % 16 = y at *
    unfold wrap64
    omega
end Go.Proofs.Ytmmfmpnkjienfaa
