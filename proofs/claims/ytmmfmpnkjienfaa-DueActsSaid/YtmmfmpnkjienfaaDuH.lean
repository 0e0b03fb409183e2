/-
  The set's calls that only read: key, At, Now, Len, Next, find.
-/
import Derived.Test.YtmmfmpnkjienfaaDuG
namespace Go.Proofs.Ytmmfmpnkjienfaa
open Go.RowKit
set_option linter.unusedVariables false

theorem keyYes (k i : Int) (w : World) (h : Wh.May k i) : Calls Try.prog 26 #[.int .i64 k, .int .i64 i] w (Same (.tuple #[.int .i64 (Wh.key k i), .bool true]) w) := by
  obtain ⟨h1, h2, h3, h4⟩ := h
  unfold Wh.key
  have t1 : decide (k < 1) = false := decide_eq_false (by omega)
  have t2 : decide (4 < k) = false := decide_eq_false (by omega)
  have t3 : decide (i < 0) = false := decide_eq_false (by omega)
  have t4 : decide (1099511627776 < i) = false := decide_eq_false (by omega)
  go_enter Try.func26, Try.ntmps26
  go_wp2
  go_ret2
  exact ⟨rfl, rfl⟩
theorem keyNo (k i : Int) (w : World) (h : ¬ Wh.May k i) : Calls Try.prog 26 #[.int .i64 k, .int .i64 i] w (Same (.tuple #[.int .i64 0, .bool false]) w) := by
  unfold Wh.May at h
  by_cases h1 : k < 1
  · have t1 : decide (k < 1) = true := decide_eq_true h1
    clear h
    go_enter Try.func26, Try.ntmps26
    go_wp2
    go_ret2
    exact ⟨rfl, rfl⟩
  · have t1 : decide (k < 1) = false := decide_eq_false h1
    by_cases h2 : 4 < k
    · have t2 : decide (4 < k) = true := decide_eq_true h2
      clear h
      go_enter Try.func26, Try.ntmps26
      go_wp2
      go_ret2
      exact ⟨rfl, rfl⟩
    · have t2 : decide (4 < k) = false := decide_eq_false h2
      by_cases h3 : i < 0
      · have t3 : decide (i < 0) = true := decide_eq_true h3
        clear h
        go_enter Try.func26, Try.ntmps26
        go_wp2
        go_ret2
        exact ⟨rfl, rfl⟩
      · have t3 : decide (i < 0) = false := decide_eq_false h3
        have h4 : 1099511627776 < i := by omega
        have t4 : decide (1099511627776 < i) = true := decide_eq_true h4
        clear h
        go_enter Try.func26, Try.ntmps26
        go_wp2
        go_ret2
        exact ⟨rfl, rfl⟩

theorem key_wf {k i : Int} (h : Wh.May k i) : (Lit.int .i64 (Wh.key k i)).wf = true := by
  have := Wh.key_good h
  have e1 : IntKind.i64.min = -9223372036854775808 := by decide
  have e2 : IntKind.i64.max = 9223372036854775807 := by decide
  simp [Lit.wf]
  omega
/-- what At returns -/
def atR2 (l : List Wh.E) (k i : Int) : Option Int := if Wh.May k i then Wh.find l (Wh.key k i) else none
set_option maxRecDepth 100000 in
theorem dAtC (k i : Int) (w : World) (B D : Nat) (now : Int) (l r : List Wh.E) (P : Nat) (F : Nat → Prop) (a : Option Addr) (cap : Nat) (h : DAt w B D now l r P F a cap) :
    Calls Try.prog 9 #[.pointer (some ⟨D, 0, none⟩), .int .i64 k, .int .i64 i] w (Same (atV (atR2 l k i)) w) := by
  have c0 := h.ptr
  unfold atR2
  by_cases hm : Wh.May k i
  · rw [if_pos hm]
    have KK := Lib.hid (fun W => keyYes k i W hm)
    have ka := fun W (hW : W = w) => whAtS (Wh.key k i) W B P now l F (key_wf hm) (hW ▸ h.wh)
    generalize Wh.key k i = kk at *
    unfold atV at ka ⊢
    generalize (Wh.find l kk).getD 0 = x at *
    generalize (Wh.find l kk).isSome = b at *
    have KA := Lib.hid ka
    clear ka h hm
    go_enter Try.func9, Try.ntmps9
    go_wp2_with (first | (go_at_call 26; (with_reducible refine (KK.out _).mono ?_); rintro e w1 ⟨rfl, rfl⟩) | (go_at_call 27; (with_reducible refine (KA.out _ rfl).mono ?_); rintro e w1 ⟨rfl, rfl⟩))
    go_ret2
    exact ⟨rfl, rfl⟩
  · rw [if_neg hm]
    have KK := Lib.hid (fun W => keyNo k i W hm)
    clear h hm
    go_enter Try.func9, Try.ntmps9
    go_wp2_with (go_at_call 26; (with_reducible refine (KK.out _).mono ?_); rintro e w1 ⟨rfl, rfl⟩)
    go_ret2
    exact ⟨rfl, rfl⟩
set_option maxRecDepth 100000 in
theorem dNowC (w : World) (B D : Nat) (now : Int) (l r : List Wh.E) (P : Nat) (F : Nat → Prop) (a : Option Addr) (cap : Nat) (h : DAt w B D now l r P F a cap) :
    Calls Try.prog 14 #[.pointer (some ⟨D, 0, none⟩)] w (Same (.int .u64 now) w) := by
  have c0 := h.ptr
  have KA := Lib.hid (whNowS w B P now l F h.wh)
  clear h
  go_enter Try.func14, Try.ntmps14
  go_wp2_with (go_at_call 31; (with_reducible refine KA.out.mono ?_); rintro e w1 ⟨rfl, rfl⟩)
  go_ret
  exact ⟨rfl, rfl⟩
set_option maxRecDepth 100000 in
theorem dLenC (w : World) (B D : Nat) (now : Int) (l r : List Wh.E) (P : Nat) (F : Nat → Prop) (a : Option Addr) (cap : Nat) (h : DAt w B D now l r P F a cap) :
    Calls Try.prog 13 #[.pointer (some ⟨D, 0, none⟩)] w (Same (.int .i64 (l.length : Int)) w) := by
  have c0 := h.ptr
  have KA := Lib.hid (whLenS w B P now l F h.wh)
  clear h
  go_enter Try.func13, Try.ntmps13
  go_wp2_with (go_at_call 30; (with_reducible refine KA.out.mono ?_); rintro e w1 ⟨rfl, rfl⟩)
  go_ret
  exact ⟨rfl, rfl⟩

set_option maxRecDepth 100000 in
theorem dFindC (k t : Int) (w : World) (B D : Nat) (now : Int) (l r : List Wh.E) (P : Nat) (F : Nat → Prop) (a : Option Addr) (cap : Nat) (h : DAt w B D now l r P F a cap) (hr : r.length ≤ 100000) (hs : r.Pairwise Wh.less) :
    Calls Try.prog 32 #[.pointer (some ⟨D, 0, none⟩), .int .i64 k, .int .u64 t] w (RetFind r (k, t) w) := by
  have c1 := h.sl
  have KA := Lib.hid (searchC w B a cap r k t hr hs h.rd)
  clear h hs
  generalize r.length = n at *
  go_enter Try.func32, Try.ntmps32
  go_wp2_with (go_at_call 43; (with_reducible refine KA.out.mono ?_); rintro e w1 ⟨⟨i, b, rfl, hp, hf⟩, hb⟩; have HP := Lib.hid hp; have HF := Lib.hid hf; clear hp hf)
  go_ret2
  exact ⟨⟨i, b, rfl, HP.out, HF.out⟩, hb⟩

set_option maxRecDepth 100000 in
set_option maxHeartbeats 1000000 in
theorem dNextC (w : World) (B D : Nat) (now : Int) (l : List Wh.E) (G : Nat → Prop) (hl : l.length ≤ 1000) (h : DIs w B D now l G) :
    Calls Try.prog 11 #[.pointer (some ⟨D, 0, none⟩)] w (RetW DIs (atV (Wh.nextR l)) B D now l G w) := by
  have h' := Lib.hid h
  obtain ⟨P, F, a, cap, h, rfl⟩ := h
  have c0 := h.ptr
  have c1 := h.sl
  have hnl := Wh.nodup_of h.nd
  cases hr : Wh.turned l now with
  | nil =>
    have hfin : ∀ e w', RetW WIs (atV (Wh.nextR l)) B P now l F w e w' → RetW DIs (atV (Wh.nextR l)) B D now l (DF D F a) w e w' := fun e w' hw => by
      obtain ⟨F', g1, g2⟩ := hw.s
      exact (h.start.wheel g1 g2 hw.c h.nd h.good).ret hw.r
    have KA := Lib.hid (nextC w B P now l F h.nd hl h.wh)
    have HF := Lib.hid hfin
    rw [hr] at c1
    clear h hfin hnl hr
    unfold atV at KA HF ⊢
    generalize (Wh.nextR l).getD 0 = x at *
    generalize (Wh.nextR l).isSome = b at *
    go_enter Try.func11, Try.ntmps11
    go_wp2_with (go_at_call 28; (with_reducible refine KA.out.mono ?_); intro e w1 hw; obtain rfl := hw.r; have HW := Lib.hid (HF.out _ _ hw); clear hw)
    go_ret2
    exact HW.out
  | cons e t =>
    obtain ⟨hf, _⟩ := Wh.turned_head hnl hr
    have hn : Wh.nextR l = some e.2 := by rw [Wh.nextR_first hnl, hf]; rfl
    obtain ⟨g, off, cur, rfl, hB, hg, _, hc⟩ := h.rd.got (by rw [hr]; exact Nat.succ_pos _)
    rw [hr] at hc c1
    obtain ⟨_, _, d2⟩ := rd_cells hg hc 0 (Nat.succ_pos _)
    simp only [Nat.zero_mul, Nat.add_zero, List.getElem_cons_zero] at d2
    have hat : atV (Wh.nextR l) = .tuple #[.int .u64 e.2, .bool true] := by rw [hn]; rfl
    rw [hat]
    have hpos : (0 : Int) < ((e :: t).length : Int) := by simp
    have hpos2 : 0 < (e :: t).length := by simp
    generalize (e :: t).length = n at *
    generalize e.2 = x at *
    clear h hn hf hr hc hg hat hnl
    go_enter Try.func11, Try.ntmps11
    go_wp2
    go_ret2
    exact DIs.asks rfl h'.out (Below.refl _ _)
end Go.Proofs.Ytmmfmpnkjienfaa
