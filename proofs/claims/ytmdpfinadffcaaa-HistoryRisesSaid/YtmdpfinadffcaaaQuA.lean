/-
  The document's Place and Of.
-/
import Derived.Test.YtmdpfinadffcaaaHistD
import Derived.Test.YtmdpfinadffcaaaQuMath
namespace Go.Proofs.Ytmdpfinadffcaaa
open Go.RowKit
set_option linter.unusedVariables false

set_option maxRecDepth 100000 in
set_option maxHeartbeats 1000000 in
theorem refPlaceNo (l : List Int) (hl : l.length = 16) (p : Int) (h : ¬ Qu.Good l p) (w : World) :
    Calls Try.prog 44 #[.agg (Hi.cells l), .int .i64 p] w (Ret (.int .i64 (-1)) w) := by
  have B0 := Lib.hid (Bx.new w hl)
  have W0 := Lib.hid ((Below.refl w.heap.size w).alloc (Nat.le_refl _) (boxH l))
  have CR := Lib.hid (fun W => refRightC l hl W)
  cases ho : Hi.ok l with
  | false =>
    rw [ho] at CR
    clear h
    go_enter Try.func44, Try.ntmps44
    go_wp2_with (first
      | (refine loadB B0.out _ rfl rfl rfl ?_)
      | (go_at_call 26; (with_reducible refine (CR.out _).mono ?_); rintro e w1 ⟨rfl, hb1⟩; replace W0 := Lib.hid (W0.out.trans (hb1.mono W0.out.size)); clear hb1))
    go_ret
    exact ⟨rfl, W0.out⟩
  | true =>
    have CT := Lib.hid (fun W => refTotalC l hl (Hi.small.wide (Hi.ok_iff.1 ho).1) W)
    rw [ho] at CR
    have hc : Hi.tot l ≠ 0 → p < 1 ∨ 100 < p := fun h0 => by
      rcases Int.lt_or_le p 1 with h1 | h1
      · exact Or.inl h1
      · rcases Int.lt_or_le 100 p with h2 | h2
        · exact Or.inr h2
        · exact absurd ⟨ho, h0, h1, h2⟩ h
    clear h ho
    generalize Hi.tot l = T at *
    by_cases h0 : T = 0
    · subst h0
      clear hc
      go_enter Try.func44, Try.ntmps44
      go_wp2_with (first
        | (refine loadB B0.out _ rfl rfl rfl ?_)
        | (go_at_call 26; (with_reducible refine (CR.out _).mono ?_); rintro e w1 ⟨rfl, hb1⟩; replace B0 := Lib.hid (B0.out.below (hb1.mono (by simp))); replace W0 := Lib.hid (W0.out.trans (hb1.mono W0.out.size)); clear hb1)
        | (go_at_call 27; (with_reducible refine (CT.out _).mono ?_); rintro e w1 ⟨rfl, hb1⟩; replace W0 := Lib.hid (W0.out.trans (hb1.mono W0.out.size)); clear hb1))
      go_ret
      exact ⟨rfl, W0.out⟩
    · replace hc := hc h0
      by_cases h1 : p < 1
      · clear hc
        go_enter Try.func44, Try.ntmps44
        go_wp2_with (first
          | (refine loadB B0.out _ rfl rfl rfl ?_)
          | (go_at_call 26; (with_reducible refine (CR.out _).mono ?_); rintro e w1 ⟨rfl, hb1⟩; replace B0 := Lib.hid (B0.out.below (hb1.mono (by simp))); replace W0 := Lib.hid (W0.out.trans (hb1.mono W0.out.size)); clear hb1)
          | (go_at_call 27; (with_reducible refine (CT.out _).mono ?_); rintro e w1 ⟨rfl, hb1⟩; replace W0 := Lib.hid (W0.out.trans (hb1.mono W0.out.size)); clear hb1))
        go_ret
        exact ⟨rfl, W0.out⟩
      · have h2 : 100 < p := by omega
        clear hc
        go_enter Try.func44, Try.ntmps44
        go_wp2_with (first
          | (refine loadB B0.out _ rfl rfl rfl ?_)
          | (go_at_call 26; (with_reducible refine (CR.out _).mono ?_); rintro e w1 ⟨rfl, hb1⟩; replace B0 := Lib.hid (B0.out.below (hb1.mono (by simp))); replace W0 := Lib.hid (W0.out.trans (hb1.mono W0.out.size)); clear hb1)
          | (go_at_call 27; (with_reducible refine (CT.out _).mono ?_); rintro e w1 ⟨rfl, hb1⟩; replace W0 := Lib.hid (W0.out.trans (hb1.mono W0.out.size)); clear hb1))
        go_ret
        exact ⟨rfl, W0.out⟩

set_option maxRecDepth 100000 in
set_option maxHeartbeats 1000000 in
theorem refPlaceYes (l : List Int) (hl : l.length = 16) (p : Int) (b : Nat) (hg : Qu.Good l p) (hb : Qu.IsPlace l p b) (w : World) :
    Calls Try.prog 44 #[.agg (Hi.cells l), .int .i64 p] w (Ret (.int .i64 (b : Int)) w) := by
  have B0 := Lib.hid (Bx.new w hl)
  have W0 := Lib.hid ((Below.refl w.heap.size w).alloc (Nat.le_refl _) (boxH l))
  have CR := Lib.hid (fun W => refRightC l hl W)
  rw [hg.ok] at CR
  have CT := Lib.hid (fun W => refTotalC l hl (Hi.small.wide (Hi.ok_iff.1 hg.ok).1) W)
  obtain ⟨t1, t2, t3, t4⟩ := hg.prod
  have p1 := hg.lo
  have p2 := hg.hi
  have hb16 := hb.lt
  have HE := Lib.hid hb.enough
  have HL := Lib.hid hb.least
  have HS := Lib.hid (fun k => Qu.ok_take hg.ok k)
  have HT := Lib.hid (fun (k : Nat) (hk : k < 16) => Hi.tot_take (l := l) (k := k) (by omega))
  have H1 : Hid (Hi.tot (l.take 1) = l.getD 0 0) := Lib.hid (by have := HT.out 0 (by omega); simpa [Hi.tot] using this)
  clear hg hb
  generalize Hi.tot l = T at *
  have f1 : (T == 0) = false := by simp; omega
  go_enter Try.func44, Try.ntmps44
  go_wp2_with (first
    | (refine loadB B0.out _ rfl rfl rfl ?_)
    | (go_at_call 26; (with_reducible refine (CR.out _).mono ?_); rintro e w1 ⟨rfl, hb1⟩; replace B0 := Lib.hid (B0.out.below (hb1.mono (by simp))); replace W0 := Lib.hid (W0.out.trans (hb1.mono W0.out.size)); clear hb1)
    | (go_at_call 27; (with_reducible refine (CT.out _).mono ?_); rintro e w2 ⟨rfl, hb1⟩; replace B0 := Lib.hid (B0.out.below hb1); replace W0 := Lib.hid (W0.out.trans (hb1.mono W0.out.size)); clear hb1; have hc0 := B0.out.cell (k := 0) (by omega); rw [← H1.out] at hc0))
  go_loopw [5, 6] (fun i n wr => ∃ (k : Nat), k ≤ b ∧ i = .int .i64 (k : Int) ∧ n = .int .i64 (Hi.tot (l.take (k + 1))) ∧ Hid (Bx wr w.heap.size l) ∧ Hid (Below w.heap.size w wr)) (fun i _ _ => b - (intOf i).toNat)
  case atStart => exact ⟨0, by omega, rfl, rfl, B0, W0⟩
  case round =>
    obtain ⟨k, hk, rfl, rfl, HB, HW⟩ := hrel
    clear B0 W0
    obtain ⟨s1, s2⟩ := HS.out (k + 1)
    by_cases hlt : k < b
    · have hx := HL.out k hlt
      have hn := HT.out (k + 1) (by omega)
      have hn2 := HS.out (k + 1 + 1)
      obtain ⟨s, hs⟩ : ∃ s, s = Hi.tot (l.take (k + 1)) := ⟨_, rfl⟩
      obtain ⟨x, hxe⟩ : ∃ x, x = l.getD (k + 1) 0 := ⟨_, rfl⟩
      rw [hn] at hn2
      rw [← hs] at s1 s2 hx hn hn2 ⊢
      rw [← hxe] at hn hn2
      have hn := Lib.hid hn
      replace hxe := Lib.hid hxe
      obtain ⟨n1, n2⟩ := hn2
      clear hs
      go_wp2_with (first
        | (refine loadB HB.out _ rfl rfl rfl ?_)
        | (go_at_call 27; (with_reducible refine (CT.out _).mono ?_); rintro e w3 ⟨rfl, hb1⟩; replace HB := Lib.hid (HB.out.below (hb1.mono (by have := HW.out.size; omega))); replace HW := Lib.hid (HW.out.trans (hb1.mono HW.out.size)); clear hb1; have hc := HB.out.cell (k := k + 1) (by omega); rw [← hxe.out] at hc))
      go_round
      case rel => exact ⟨k + 1, by omega, by go_num, by rw [hn.out], HB, HW⟩
      case measure => simp [intOf]; omega
    · obtain rfl : k = b := by omega
      have hx := HE.out
      generalize Hi.tot (l.take (k + 1)) = s at *
      go_wp2_with (first
        | (refine loadB HB.out _ rfl rfl rfl ?_)
        | (go_at_call 27; (with_reducible refine (CT.out _).mono ?_); rintro e w3 ⟨rfl, hb1⟩; replace HW := Lib.hid (HW.out.trans (hb1.mono HW.out.size)); clear hb1))
      go_ret
      exact ⟨rfl, HW.out⟩

set_option maxRecDepth 100000 in
theorem refOfNo (l : List Int) (hl : l.length = 16) (p : Int) (h : ¬ Qu.Good l p) (w : World) :
    Calls Try.prog 21 #[.agg (Hi.cells l), .int .i64 p] w (Ret (.tuple #[.int .u64 0, .bool false]) w) := by
  have B0 := Lib.hid (Bx.new w hl)
  have W0 := Lib.hid ((Below.refl w.heap.size w).alloc (Nat.le_refl _) (boxH l))
  have CP := Lib.hid (fun W => refPlaceNo l hl p h W)
  have CH := Lib.hid (fun W => refHighC (-1) W)
  rw [Hi.high_lo (by omega)] at CH
  clear h
  go_enter Try.func21, Try.ntmps21
  go_wp2_with (first
    | (refine loadB B0.out _ rfl rfl rfl ?_)
    | (go_at_call 44; (with_reducible refine (CP.out _).mono ?_); rintro e w1 ⟨rfl, hb1⟩; replace W0 := Lib.hid (W0.out.trans (hb1.mono W0.out.size)); clear hb1)
    | (go_at_call 45; (with_reducible refine (CH.out _).mono ?_); rintro e w2 ⟨rfl, rfl⟩))
  go_ret2
  exact ⟨rfl, W0.out⟩

set_option maxRecDepth 100000 in
theorem refOfYes (l : List Int) (hl : l.length = 16) (p : Int) (b : Nat) (hg : Qu.Good l p) (hb : Qu.IsPlace l p b) (w : World) :
    Calls Try.prog 21 #[.agg (Hi.cells l), .int .i64 p] w (Ret (.tuple #[.int .u64 (Hi.high (b : Nat)), .bool true]) w) := by
  have B0 := Lib.hid (Bx.new w hl)
  have W0 := Lib.hid ((Below.refl w.heap.size w).alloc (Nat.le_refl _) (boxH l))
  have CP := Lib.hid (fun W => refPlaceYes l hl p b hg hb W)
  have CH := Lib.hid (fun W => refHighC (b : Nat) W)
  clear hg hb
  go_enter Try.func21, Try.ntmps21
  go_wp2_with (first
    | (refine loadB B0.out _ rfl rfl rfl ?_)
    | (go_at_call 44; (with_reducible refine (CP.out _).mono ?_); rintro e w1 ⟨rfl, hb1⟩; replace W0 := Lib.hid (W0.out.trans (hb1.mono W0.out.size)); clear hb1)
    | (go_at_call 45; (with_reducible refine (CH.out _).mono ?_); rintro e w2 ⟨rfl, rfl⟩))
  go_ret2
  exact ⟨rfl, W0.out⟩
end Go.Proofs.Ytmdpfinadffcaaa
