/-
  The program's earliest: the least tick of a slot.
-/
import Derived.Test.YtmmfmpnkjienfaaWhK
namespace Go.Proofs.Ytmmfmpnkjienfaa
open Go.RowKit
set_option linter.unusedVariables false

/-- the least tick of xs, or q -/
def leastFrom (q : Int) (xs : List Wh.E) : Int := xs.foldl (fun m e => Wh.min2 m e.2) q
theorem leastFrom_snoc (q : Int) (xs : List Wh.E) (e : Wh.E) : leastFrom q (xs ++ [e]) = Wh.min2 (leastFrom q xs) e.2 := by simp [leastFrom]
theorem leastFrom_le : ∀ (xs : List Wh.E) (q : Int), leastFrom q xs ≤ q ∧ (∀ e ∈ xs, leastFrom q xs ≤ e.2) ∧ (leastFrom q xs = q ∨ ∃ e ∈ xs, leastFrom q xs = e.2)
  | [], q => ⟨Int.le_refl _, by simp, Or.inl rfl⟩
  | x :: r, q => by
    obtain ⟨h1, h2, h3⟩ := leastFrom_le r (Wh.min2 q x.2)
    have e : leastFrom q (x :: r) = leastFrom (Wh.min2 q x.2) r := rfl
    have hm : Wh.min2 q x.2 ≤ q ∧ Wh.min2 q x.2 ≤ x.2 ∧ (Wh.min2 q x.2 = q ∨ Wh.min2 q x.2 = x.2) := by unfold Wh.min2; split <;> omega
    rw [e]
    refine ⟨by omega, fun y hy => ?_, ?_⟩
    · rcases List.mem_cons.1 hy with rfl | hy
      · omega
      · exact h2 y hy
    · rcases h3 with h3 | ⟨y, hy, h3⟩
      · rcases hm.2.2 with h4 | h4
        · exact Or.inl (h3.trans h4)
        · exact Or.inr ⟨x, List.mem_cons_self, h3.trans h4⟩
      · exact Or.inr ⟨y, List.mem_cons_of_mem _ hy, h3⟩
/-- m is the least tick of l -/
def IsLeast (l : List Wh.E) (m : Int) : Prop := (∃ e ∈ l, e.2 = m) ∧ ∀ e ∈ l, m ≤ e.2
theorem leastFrom_is {l xs : List Wh.E} {m q : Int} (h : IsLeast l m) (hp : xs.Perm l) (hq : ∀ e ∈ l, e.2 ≤ q) : leastFrom q xs = m := by
  obtain ⟨⟨e, he, rfl⟩, h2⟩ := h
  obtain ⟨a1, a2, a3⟩ := leastFrom_le xs q
  have b1 := a2 e (hp.mem_iff.2 he)
  have b2 := hq e he
  rcases a3 with a3 | ⟨y, hy, a3⟩
  · omega
  · have := h2 y (hp.mem_iff.1 hy)
    omega

set_option maxRecDepth 100000 in
set_option maxHeartbeats 1000000 in
theorem earliestC (b : Nat) (l : List Wh.E) (w : World) (m : Int) (hM : MapE w b l) (hn : (l.map (·.1)).Nodup) (hm : IsLeast l m) (hq : ∀ e ∈ l, e.2 ≤ 18446744073709551615) :
    Calls Try.prog 41 #[.map (some b)] w (Ret (.int .u64 m) w) := by
  have hb := hM.lt
  have HM := Lib.hid hM; clear hM
  have HN := Lib.hid hn; clear hn
  have HS := Lib.hid hm; clear hm
  have HQ := Lib.hid hq; clear hq
  have hmin := run_min64
  go_enter Try.func41, Try.ntmps41
  go_wp2_with (at_range; refine wpRangeE _ rfl _ _ rfl Try.underlying69 b l rfl HM.out HN.out ?_; intro w0 cnt0 hR0 hB0 hs0)
  go_frame
  go_loopw [3] (fun v wr => ∃ (xs : List Wh.E) (cnt : Nat) (q : Int), v = .int .u64 q ∧ RangeE wr b w.heap.size l xs cnt ∧ Below w.heap.size w wr ∧ Hid (q = leastFrom 18446744073709551615 xs)) (fun _ wr => wr.rangeLeft b w.heap.size)
  case atStart => exact ⟨[], _, _, rfl, hR0, hB0, Lib.hid rfl⟩
  case round =>
    obtain ⟨xs, cnt, q, rfl, hR, hB, hq⟩ := hrel
    go_wp2_with (at_next; refine wpNextE _ rfl _ rfl b w.heap.size cnt l xs rfl hR ?_ ?_)
    · intro hp
      have e := leastFrom_is HS.out hp HQ.out
      rw [← hq.out] at e
      subst e
      go_wp2
      go_ret
      exact ⟨rfl, hB⟩
    · intro x c w1 cnt1 hwx hwc hmem hR1 hlt hc1 hs1 hen
      go_wp2
      go_roundw
      case rel => exact ⟨_, cnt1, _, rfl, hR1, hB.trans (hc1.below (B := w.heap.size) (fun k hk => by omega) hB.size), Lib.hid (by rw [leastFrom_snoc, ← hq.out])⟩
      case measure => rw [hR1.left_eq, hR.left_eq]; exact hlt
end Go.Proofs.Ytmmfmpnkjienfaa
