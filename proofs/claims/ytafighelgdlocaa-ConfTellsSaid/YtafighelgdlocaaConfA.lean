/-
  Rows of numbers within their limits; limits that rise; both sides.
-/
import Derived.Test.YtafighelgdlocaaConfMath
import Derived.BigQuiet
namespace Go.Proofs.Ytafighelgdlocaa
open Go.RowKit
set_option linter.unusedVariables false

theorem inC (n a b : Int) (w : World) : Calls Try.prog 23 #[.int .i64 n, .int .i64 a, .int .i64 b] w (Same (.bool (Cf.inR n a b)) w) := by
  unfold Cf.inR
  cases h : decide (a ≤ n) with
  | true =>
    go_enter Try.func23, Try.ntmps23
    go_wp2
    go_ret
    exact ⟨rfl, rfl⟩
  | false =>
    go_enter Try.func23, Try.ntmps23
    go_wp2
    go_ret
    exact ⟨rfl, rfl⟩

set_option maxRecDepth 100000 in
set_option maxHeartbeats 1000000 in
theorem withinC (rs : List Cf.Row) (g cap : Nat) (w : World) (hg : w.heap[g]? = some (.cells (Cf.cellsOf rs).toArray 52)) (hc : rs.length ≤ 100) :
    Calls Try.prog 20 #[.slice (some ⟨g, 0, none⟩) rs.length cap] w (Ret (.bool (rs.all Cf.rowOk)) w) := by
  obtain ⟨b, hB⟩ : ∃ b, b = rs.all Cf.rowOk := ⟨_, rfl⟩
  rw [← hB]
  have HB := Lib.hid hB; clear hB
  have hgl := lt_block hg
  have HG := Lib.hid hg; clear hg
  go_enter Try.func20, Try.ntmps20
  go_wp2
  go_loopw [7] (fun i wr => ∃ k : Nat, k ≤ rs.length ∧ i = .int .i64 (k : Int) ∧ Below w.heap.size w wr ∧ Hid (b = (rs.drop k).all Cf.rowOk)) (fun i _ => rs.length - (intOf i).toNat)
  case atStart => exact ⟨0, by omega, rfl, Below.refl _ _, by simpa using HB⟩
  case round =>
    obtain ⟨k, hk, rfl, hb, hrest⟩ := hrel
    have hgw := (hb.block g hgl).trans HG.out
    by_cases hlt : k < rs.length
    · obtain ⟨d0, d1, d2⟩ := Cf.cellsOf_at rs k hlt
      have c0 : wr.cell? ⟨g, k * 3, none⟩ = some (.int .i64 rs[k].1) := by rw [cell_of_row wr g _ _ _ _ hgw, List.getElem?_toArray]; exact d0
      have c1 : wr.cell? ⟨g, k * 3 + 1, none⟩ = some (.int .i64 rs[k].2.1) := by rw [cell_of_row wr g _ _ _ _ hgw, List.getElem?_toArray]; exact d1
      have c2 : wr.cell? ⟨g, k * 3 + 2, none⟩ = some (.int .i64 rs[k].2.2) := by rw [cell_of_row wr g _ _ _ _ hgw, List.getElem?_toArray]; exact d2
      have hr := hrest.out
      rw [List.drop_eq_getElem_cons hlt, List.all_cons] at hr
      have hok : Cf.rowOk rs[k] = Cf.inR rs[k].1 rs[k].2.1 rs[k].2.2 := rfl
      rw [hok] at hr
      clear d0 d1 d2 hok hgw hrest HB
      generalize rs[k].1 = v at *
      generalize rs[k].2.1 = lo at *
      generalize rs[k].2.2 = hi at *
      cases h1 : decide (v < lo) with
      | true =>
        rw [Cf.inR_lo h1, Bool.false_and] at hr
        subst hr
        go_wp2
        go_ret
        exact ⟨rfl, hb.alloc hb.size _⟩
      | false =>
        cases h2 : decide (v > hi) with
        | true =>
          rw [Cf.inR_hi h2, Bool.false_and] at hr
          subst hr
          go_wp2
          go_ret
          exact ⟨rfl, hb.alloc hb.size _⟩
        | false =>
          rw [Cf.inR_yes h1 h2, Bool.true_and] at hr
          have HR := Lib.hid hr; clear hr
          go_wp2
          go_roundw
          case rel => exact ⟨k + 1, by omega, by go_num, hb.alloc hb.size _, HR⟩
          case measure => simp [intOf]; omega
    · obtain rfl : k = rs.length := by omega
      have hr := hrest.out
      rw [List.drop_length, List.all_nil] at hr
      clear hrest HB
      subst hr
      go_wp2
      go_ret
      exact ⟨rfl, hb⟩
/-- a row of numbers, as it came in -/
def LimAt (w : World) (a : Option Addr) (len : Nat) (l : Nat → Int) : Prop := len = 0 ∨ ∃ b off : Nat, a = some ⟨b, off, none⟩ ∧ b < w.heap.size ∧ ∀ i, i < len → w.cell? ⟨b, off + i, none⟩ = some (.int .i64 (l i))
theorem LimAt.below {w w' : World} {a : Option Addr} {len : Nat} {l : Nat → Int} (h : LimAt w a len l) (hb : Below w.heap.size w w') : LimAt w' a len l := by
  rcases h with h | ⟨b, off, rfl, hl, hc⟩
  · exact Or.inl h
  · exact Or.inr ⟨b, off, rfl, Nat.lt_of_lt_of_le hl hb.size, fun i hi => (hb.cell (p := ⟨b, off + i, none⟩) hl).trans (hc i hi)⟩
theorem LimAt.cell {w : World} {a : Option Addr} {len : Nat} {l : Nat → Int} (h : LimAt w a len l) {i : Nat} (hi : i < len) : ∃ b off : Nat, a = some ⟨b, off, none⟩ ∧ w.cell? ⟨b, off + i, none⟩ = some (.int .i64 (l i)) := by
  rcases h with h | ⟨b, off, rfl, hl, hc⟩
  · omega
  · exact ⟨b, off, rfl, hc i hi⟩

set_option maxRecDepth 100000 in
set_option maxHeartbeats 1000000 in
theorem risingC (a : Option Addr) (len cap : Nat) (l : Nat → Int) (w : World) (hl : len ≤ 100) (h : LimAt w a len l) :
    Calls Try.prog 19 #[.slice a len cap] w (Same (.bool (Cf.rise l len 0)) w) := by
  have HL := Lib.hid h; clear h
  obtain ⟨b, hB⟩ : ∃ b, b = Cf.rise l len 0 := ⟨_, rfl⟩
  rw [← hB]
  have HB := Lib.hid hB; clear hB
  go_enter Try.func19, Try.ntmps19
  go_wp2
  go_loop [3, 8] (fun last i => ∃ k : Nat, k ≤ len ∧ i = .int .i64 (k : Int) ∧ last = .int .i64 (Cf.prev l k) ∧ Hid (b = Cf.rise l (len - k) k)) (fun _ i => len - (intOf i).toNat)
  case atStart => exact ⟨0, by omega, rfl, rfl, HB⟩
  case round =>
    obtain ⟨k, hk, rfl, rfl, hr⟩ := hrel
    by_cases hlt : k < len
    · obtain ⟨g, off, rfl, hc⟩ := HL.out.cell hlt
      have hr := hr.out
      rw [show len - k = (len - (k + 1)) + 1 by omega] at hr
      cases h1 : decide (l k ≤ Cf.prev l k) with
      | true =>
        rw [Cf.rise_lo h1] at hr
        clear HB
        subst hr
        generalize Cf.prev l k = q at *
        generalize l k = v at *
        go_wp2
        go_ret
        exact ⟨rfl, rfl⟩
      | false =>
        cases h2 : decide (l k > 1048576) with
        | true =>
          rw [Cf.rise_hi h2] at hr
          clear HB
          subst hr
          generalize Cf.prev l k = q at *
          generalize l k = v at *
          go_wp2
          go_ret
          exact ⟨rfl, rfl⟩
        | false =>
          rw [Cf.rise_step h1 h2] at hr
          have HR := Lib.hid hr; clear hr HB
          have hv : Hid (l k = Cf.prev l (k + 1)) := Lib.hid rfl
          generalize Cf.prev l k = q at *
          generalize l k = v at *
          go_wp2
          go_round
          case rel => exact ⟨k + 1, by omega, by go_num, by rw [hv.out], HR⟩
          case measure => simp [intOf]; omega
    · obtain rfl : k = len := by omega
      have hr := hr.out
      rw [Nat.sub_self] at hr
      have hr : b = true := hr
      clear HB
      subst hr
      go_wp2
      go_ret
      exact ⟨rfl, rfl⟩

set_option maxRecDepth 100000 in
set_option maxHeartbeats 1000000 in
theorem risesC (a : Option Addr) (len cap : Nat) (l : Nat → Int) (w : World) (hl : len ≤ 100) (h : LimAt w a len l) :
    Calls Try.prog 24 #[.slice a len cap] w (Ret (.bool (Cf.rise l len 0)) w) := by
  have HL := Lib.hid h; clear h
  obtain ⟨b, hB⟩ : ∃ b, b = Cf.rise l len 0 := ⟨_, rfl⟩
  rw [← hB]
  have HB := Lib.hid hB; clear hB
  have IC := Lib.hid inC
  go_enter Try.func24, Try.ntmps24
  go_wp2
  go_loopw [3] (fun i wr => ∃ k : Nat, k ≤ len ∧ i = .int .i64 (k : Int) ∧ 0 ≤ Cf.prev l k ∧ Below w.heap.size w wr ∧ Hid (b = Cf.rise l (len - k) k)) (fun i _ => len - (intOf i).toNat)
  case atStart => exact ⟨0, by omega, rfl, Int.le_refl 0, Below.refl _ _, HB⟩
  case round =>
    obtain ⟨k, hk, rfl, hp, hb, hr⟩ := hrel
    have HLw := Lib.hid (HL.out.below hb)
    by_cases hlt : k < len
    · obtain ⟨g, off, ha, hc⟩ := HLw.out.cell hlt
      have hr := hr.out
      rw [show len - k = (len - (k + 1)) + 1 by omega] at hr
      cases h1 : Cf.inR (l k) 1 1048576 with
      | false =>
        rw [Cf.rise_in hp h1] at hr
        clear HB hp
        subst hr ha
        have k1 := fun W => inC (l k) 1 1048576 W
        rw [h1] at k1
        have K1 := Lib.hid k1; clear k1 h1
        generalize Cf.prev l k = q at *
        generalize l k = v at *
        go_wp2
        go_quiet ((first | (go_at_call 23; with_reducible exact Calls.quiet_of_same ((K1.out _).mono fun _ _ h => ⟨h.e, h.w.symm⟩))))
        go_wp2
        go_ret
        exact ⟨rfl, below_drewN hb _⟩
      | true =>
        have k1 := fun W => inC (l k) 1 1048576 W
        rw [h1] at k1
        have K1 := Lib.hid k1; clear k1
        have hstep := fun h2 => Cf.rise_ok (k := len - (k + 1)) h1 h2
        have hpos := Cf.inR_is (l k) 1 1048576
        rw [h1] at hpos
        replace hpos := Lib.hid (of_decide_eq_true hpos.symm).1
        clear h1
        by_cases h0 : 0 < k
        · have ep := Cf.prev_succ l k h0
          obtain ⟨g2, off2, ha2, hc2⟩ := HLw.out.cell (i := k - 1) (by omega)
          rw [ha] at ha2
          injection ha2 with ha2
          injection ha2 with e1 e2
          subst e1 e2 ha
          rw [ep] at hstep hp
          rw [show (off + (k - 1) : Nat) = off + (k - 1) from rfl] at hc2
          have hlt1 : k - 1 < len := by omega
          cases h2 : decide (l k ≤ l (k - 1)) with
          | true =>
            rw [Cf.rise_lo (by rw [ep]; exact h2)] at hr
            clear HB ep hstep
            subst hr
            generalize l (k - 1) = q at *
            generalize l k = v at *
            go_wp2
            go_quiet ((first | (go_at_call 23; with_reducible exact Calls.quiet_of_same ((K1.out _).mono fun _ _ h => ⟨h.e, h.w.symm⟩))))
            go_wp2
            go_ret
            exact ⟨rfl, below_drewN hb _⟩
          | false =>
            obtain ⟨s1, s2⟩ := hstep h2
            rw [s1] at hr
            have HR := Lib.hid hr
            have S2 := Lib.hid s2
            clear HB ep hstep hr s1 s2
            generalize l (k - 1) = q at *
            generalize l k = v at *
            go_wp2
            go_quiet ((first | (go_at_call 23; with_reducible exact Calls.quiet_of_same ((K1.out _).mono fun _ _ h => ⟨h.e, h.w.symm⟩))))
            go_wp2
            go_roundw
            case rel => exact ⟨k + 1, by omega, by go_num, S2.out, below_drewN hb _, HR⟩
            case measure => simp [intOf]; omega
        · obtain rfl : k = 0 := by omega
          subst ha
          obtain ⟨s1, s2⟩ := hstep (decide_eq_false (by show ¬ l 0 ≤ 0; have := hpos.out; omega))
          rw [s1] at hr
          have HR := Lib.hid hr
          have S2 := Lib.hid s2
          clear HB hstep hr s1 s2 hpos hp
          have hc : wr.cell? ⟨g, off, none⟩ = some (.int .i64 (l 0)) := hc
          generalize l 0 = v at *
          go_wp2
          go_quiet ((first | (go_at_call 23; with_reducible exact Calls.quiet_of_same ((K1.out _).mono fun _ _ h => ⟨h.e, h.w.symm⟩))))
          go_wp2
          go_roundw
          case rel => exact ⟨1, by omega, by go_num, S2.out, below_drewN hb _, HR⟩
          case measure => simp [intOf]; omega
    · obtain rfl : k = len := by omega
      have hr := hr.out
      rw [Nat.sub_self] at hr
      have hr : b = true := hr
      clear HB
      subst hr
      go_wp2
      go_ret
      exact ⟨rfl, hb⟩
end Go.Proofs.Ytafighelgdlocaa
