/-
  text.Count, Name, Head; the document's Head.
-/
import Derived.Test.YtbflcandbhfbdaaTextA
import Derived.Test.YtbflcandbhfbdaaShelf
import Derived.Lib.OthersKept
import Derived.BigCall
namespace Go.Proofs.Ytbflcandbhfbdaa
open Go.RowKit
set_option linter.unusedVariables false

/-- one step of a range over a string -/
theorem next_step (s : ByteArray) (pos : Nat) (h : pos < s.size) : ∃ r p : Nat, Utf8.decode s pos = (r, p - pos) ∧ pos < p ∧ p ≤ s.size ∧ r ≤ 2147483647 ∧ validRune (r : Int) = true ∧
    Tx.runesL ((bl s).drop pos) = (r : Int) :: Tx.runesL ((bl s).drop p) ∧ p = pos + (Tx.dec ((bl s).drop pos)).2 := by
  have e := Tx.decode_eq s pos
  have hne : (bl s).drop pos ≠ [] := by
    intro e
    have := congrArg List.length e
    rw [List.length_drop, bl_length, List.length_nil] at this
    omega
  have h1 := Tx.dec_pos ((bl s).drop pos)
  have h2 := Tx.dec_le _ hne
  rw [List.length_drop, bl_length] at h2
  have h3 := decode_le s pos
  rw [e] at h3
  have h4 := Tx.dec_valid ((bl s).drop pos)
  have h5 := Tx.runesL_step _ hne
  rw [List.drop_drop] at h5
  refine ⟨(Tx.dec ((bl s).drop pos)).1, pos + (Tx.dec ((bl s).drop pos)).2, ?_, by omega, by omega, h3, h4, h5, rfl⟩
  rw [show pos + (Tx.dec ((bl s).drop pos)).2 - pos = (Tx.dec ((bl s).drop pos)).2 by omega]
  exact e
theorem drop_end (s : ByteArray) (pos : Nat) (h : ¬ pos < s.size) : Tx.runesL ((bl s).drop pos) = [] := by
  rw [List.drop_eq_nil_of_le (by rw [bl_length]; omega)]
  rfl

/-- the world with an iterator behind it -/
theorem iter_below (w : World) (s : ByteArray) (pos : Nat) : Below w.heap.size w (w.iter s pos) := (Below.refl _ _).alloc (Nat.le_refl _) _

set_option maxRecDepth 100000 in
theorem countC (s : ByteArray) (w : World) (hs : s.size ≤ 9223372036854775807) :
    Calls Try.prog 14 #[.string s] w (Ret (.int .i64 ((Tx.runesL (bl s)).length : Int)) w) := by
  have hm := (Tx.runesL_length (bl s)).1
  rw [bl_length] at hm
  obtain ⟨m, hM⟩ : ∃ m, m = (Tx.runesL (bl s)).length := ⟨_, rfl⟩
  rw [← hM] at hm ⊢
  have HM := Lib.hid hM; clear hM
  go_enter Try.func14, Try.ntmps14
  go_wp2
  go_loopw [3] (fun n wr => ∃ pos k : Nat, pos ≤ s.size ∧ n = .int .i64 (k : Int) ∧ wr = w.iter s pos ∧ k + (Tx.runesL ((bl s).drop pos)).length = m) (fun _ wr => s.size - wr.iterPos w.heap.size)
  case atStart => exact ⟨0, 0, by omega, rfl, rfl, by rw [HM.out]; simp⟩
  case round =>
    obtain ⟨pos, k, hpos, rfl, rfl, hk⟩ := hrel
    by_cases hp : pos < s.size
    · obtain ⟨r, p, hd, hp1, hp2, hr, hv, hrun, hq⟩ := next_step s pos hp
      have hnx : ∀ ty, (Instr.next (.pointer (some ⟨w.heap.size, 0, none⟩)) true ty).run Try.prog (w.iter s pos) = .ok (.tuple #[.bool true, .int .i64 pos, .int .i32 r]) (w.iter s p) := fun ty => by
        rw [run_next_any w s pos ty hp, hd, show pos + (p - pos) = p by omega]
      rw [hrun, List.length_cons] at hk
      clear hd hrun hq
      have hk2 : k + 1 ≤ m := by omega
      have HK := Lib.hid hk; clear hk
      go_wp2
      go_roundw
      case rel => exact ⟨p, k + 1, hp2, by go_num, rfl, by have := HK.out; omega⟩
      case measure => simp; omega
    · have hnx : ∀ ty, (Instr.next (.pointer (some ⟨w.heap.size, 0, none⟩)) true ty).run Try.prog (w.iter s pos) = .ok (.tuple #[.bool false]) (w.iter s pos) := fun ty => run_next_end w s pos ty hp
      rw [drop_end s pos hp] at hk
      simp only [List.length_nil, Nat.add_zero] at hk
      subst hk
      go_wp2
      go_ret
      exact ⟨rfl, iter_below _ _ _⟩

/-- whether the rest makes a name, behind k runes that a name may contain -/
def nameRest (k : Nat) (l : List Int) : Bool := l.all Tx.nameR && decide (1 ≤ k + l.length) && decide (k + l.length ≤ 16)
theorem nameRest_all (l : List UInt8) : nameRest 0 (Tx.runesL l) = Tx.nameL l := by simp [nameRest, Tx.nameL]
theorem nameRest_many (k : Nat) (r : Int) (l : List Int) (h : 16 ≤ k) : nameRest k (r :: l) = false := by
  simp only [nameRest, List.length_cons]
  rw [show decide (k + (l.length + 1) ≤ 16) = false by simp; omega, Bool.and_false]
theorem nameRest_bad (k : Nat) (r : Int) (l : List Int) (h : Tx.nameR r = false) : nameRest k (r :: l) = false := by
  simp [nameRest, h]
theorem nameRest_good (k : Nat) (r : Int) (l : List Int) (h : Tx.nameR r = true) : nameRest k (r :: l) = nameRest (k + 1) l := by
  simp only [nameRest, List.all_cons, h, Bool.true_and, List.length_cons]
  have e : k + (l.length + 1) = k + 1 + l.length := by omega
  simp only [e]
theorem nameRest_end (k : Nat) (h : k ≤ 16) : nameRest k [] = decide (0 < k) := by
  simp only [nameRest, List.all_nil, Bool.true_and, List.length_nil, Nat.add_zero]
  rw [decide_eq_true h, Bool.and_true]
  congr 1

set_option maxRecDepth 100000 in
theorem nameC (s : ByteArray) (w : World) (hs : s.size ≤ 9223372036854775807) :
    Calls Try.prog 10 #[.string s] w (Ret (.bool (Tx.nameL (bl s))) w) := by
  rw [← nameRest_all]
  obtain ⟨b, hB⟩ : ∃ b, b = nameRest 0 (Tx.runesL (bl s)) := ⟨_, rfl⟩
  rw [← hB]
  have HB := Lib.hid hB; clear hB
  go_enter Try.func10, Try.ntmps10
  go_wp2
  go_loopw [3] (fun n wr => ∃ pos k : Nat, pos ≤ s.size ∧ n = .int .i64 (k : Int) ∧ k ≤ 16 ∧ wr = w.iter s pos ∧ Hid (b = nameRest k (Tx.runesL ((bl s).drop pos)))) (fun _ wr => s.size - wr.iterPos w.heap.size)
  case atStart => exact ⟨0, 0, by omega, rfl, by omega, rfl, by simpa using HB⟩
  case round =>
    obtain ⟨pos, k, hpos, rfl, hk, rfl, hb⟩ := hrel
    by_cases hp : pos < s.size
    · obtain ⟨r, p, hd, hp1, hp2, hr, hv, hrun, hq⟩ := next_step s pos hp
      have hnx : ∀ ty, (Instr.next (.pointer (some ⟨w.heap.size, 0, none⟩)) true ty).run Try.prog (w.iter s pos) = .ok (.tuple #[.bool true, .int .i64 pos, .int .i32 r]) (w.iter s p) := fun ty => by
        rw [run_next_any w s pos ty hp, hd, show pos + (p - pos) = p by omega]
      have hb1 : b = nameRest k ((r : Int) :: Tx.runesL ((bl s).drop p)) := by rw [hb.out, hrun]
      clear hd hrun hq hb hv HB
      by_cases h16 : k = 16
      · subst h16
        rw [nameRest_many _ _ _ (Nat.le_refl _)] at hb1
        subst hb1
        go_wp2
        go_ret
        exact ⟨rfl, iter_below _ _ _⟩
      · have hk2 : k + 1 ≤ 16 := by omega
        have c := fun W => inNameC (r : Int) W (by omega) (by omega)
        cases hn : Tx.nameR (r : Int) with
        | true =>
          rw [hn] at c
          rw [nameRest_good _ _ _ hn] at hb1
          have HB1 := Lib.hid hb1
          have C := Lib.hid c
          clear hn c h16 hb1
          go_wp2_with (go_at_call 22; (with_reducible refine (C.out _).mono ?_); rintro e w1 ⟨rfl, rfl⟩)
          go_roundw
          case rel => exact ⟨p, k + 1, hp2, by go_num, by omega, rfl, HB1⟩
          case measure => simp; omega
        | false =>
          rw [hn] at c
          rw [nameRest_bad _ _ _ hn] at hb1
          subst hb1
          have C := Lib.hid c
          clear hn c h16
          go_wp2_with (go_at_call 22; (with_reducible refine (C.out _).mono ?_); rintro e w1 ⟨rfl, rfl⟩)
          go_ret
          exact ⟨rfl, iter_below _ _ _⟩
    · have hb1 := hb.out
      have hnx : ∀ ty, (Instr.next (.pointer (some ⟨w.heap.size, 0, none⟩)) true ty).run Try.prog (w.iter s pos) = .ok (.tuple #[.bool false]) (w.iter s pos) := fun ty => run_next_end w s pos ty hp
      rw [drop_end s pos hp, nameRest_end k hk] at hb1
      clear hb HB
      go_wp2
      go_ret
      exact ⟨ret_b (by rw [hb1]), iter_below _ _ _⟩

/-! ### the first runes -/
/-- the first n runes of a string -/
def Hd (s : ByteArray) (n : Int) : ByteArray := ⟨((bl s).take (Tx.headF n.toNat (bl s))).toArray⟩
theorem hd_bl (s : ByteArray) (n : Int) : bl (Hd s n) = (bl s).take (Tx.headF n.toNat (bl s)) := bl_mk _
theorem hd_size (s : ByteArray) (n : Int) : (Hd s n).size = Tx.headF n.toNat (bl s) := by
  have := Tx.headF_le n.toNat (bl s)
  unfold Hd
  rw [size_mk, List.length_take]
  omega
theorem hd_le (s : ByteArray) (n : Int) : (Hd s n).size ≤ s.size := by
  have := Tx.headF_le n.toNat (bl s)
  rw [hd_size, ← bl_length]; exact this
theorem extract_bl (s : ByteArray) (a b : Nat) : bl (s.extract a b) = ((bl s).take b).drop a := by
  simp [bl, ByteArray.data_extract, Array.toList_extract, List.drop_take]
theorem bl_inj {a b : ByteArray} (h : bl a = bl b) : a = b := by
  have := congrArg (fun l : List UInt8 => (⟨l.toArray⟩ : ByteArray)) h
  simpa [mk_bl] using this
theorem hd_extract (s : ByteArray) (n : Int) : s.extract 0 (Tx.headF n.toNat (bl s)) = Hd s n := bl_inj (by rw [extract_bl, hd_bl, List.drop_zero])
theorem hd_prefix (s : ByteArray) (n : Int) : s.extract 0 (Hd s n).size = Hd s n := by rw [hd_size, hd_extract]
theorem hd_count (s : ByteArray) (n : Int) : (Tx.runesL (bl (Hd s n))).length = min n.toNat (Tx.runesL (bl s)).length := by
  rw [hd_bl, Tx.runes_take, List.length_take]
theorem hd_rest (s : ByteArray) (n : Int) : (Tx.runesL (bl (s.extract (Hd s n).size s.size))).length = (Tx.runesL (bl s)).length - n.toNat := by
  rw [extract_bl, List.take_of_length_le (by rw [bl_length]; omega), hd_size, Tx.runes_drop, List.length_drop]
theorem headF_all : ∀ (n : Nat) (l : List UInt8), (Tx.runesL l).length ≤ n → Tx.headF n l = l.length
  | 0, l, h => by
    have := (Tx.runesL_length l).2
    simp [Tx.headF]; omega
  | n + 1, l, h => by
    by_cases hl : l = []
    · subst hl; simp [Tx.headF]
    · rw [Tx.headF_step n l hl]
      rw [Tx.runesL_step l hl, List.length_cons] at h
      rw [headF_all n _ (by omega), List.length_drop]
      have := Tx.dec_le l hl
      omega
theorem headF_succ : ∀ (n : Nat) (l : List UInt8), Tx.headF n l < l.length → Tx.headF (n + 1) l = Tx.headF n l + (Tx.dec (l.drop (Tx.headF n l))).2
  | 0, l, h => by
    have hl : l ≠ [] := by intro e; subst e; simp [Tx.headF] at h
    rw [Tx.headF_step 0 l hl]
    simp [Tx.headF]
  | n + 1, l, h => by
    have hl : l ≠ [] := by intro e; subst e; simp [Tx.headF] at h
    rw [Tx.headF_step (n + 1) l hl, Tx.headF_step n l hl]
    rw [Tx.headF_step n l hl] at h
    rw [headF_succ n (l.drop (Tx.dec l).2) (by rw [List.length_drop]; omega), List.drop_drop]
    omega
theorem hd_small (s : ByteArray) (n : Int) (h : n < 1) : Hd s n = s.extract 0 0 := by
  rw [← hd_extract, show n.toNat = 0 by omega, Tx.headF]
theorem hd_at (s : ByteArray) (n : Int) (k : Nat) (h : n = k) : s.extract 0 (Tx.headF k (bl s)) = Hd s n := by
  subst h; rw [← hd_extract]; rfl
theorem hd_end (s : ByteArray) (n : Int) (k : Nat) (h : (k : Int) ≤ n) (hk : ¬ Tx.headF k (bl s) < s.size) : Hd s n = s := by
  apply bl_inj
  rw [hd_bl]
  have e : Tx.headF k (bl s) = (bl s).length := by have := Tx.headF_le k (bl s); rw [bl_length] at *; omega
  have h1 := Tx.runes_drop k (bl s)
  rw [e, List.drop_length] at h1
  have h2 : (Tx.runesL (bl s)).length ≤ k := by
    have := congrArg List.length h1
    rw [List.length_drop] at this
    simp [Tx.runesL_nil] at this
    omega
  rw [headF_all n.toNat (bl s) (by omega), List.take_length]
attribute [irreducible] Hd

theorem cloneC (s : ByteArray) (w : World) (hs : s.size ≤ 281474976710656) : Calls Try.prog 25 #[.string s] w (Ret (.string s) w) := by
  have c := fun W => Try.stringslite_Clone s W hs
  have C := Lib.hid c; clear c
  go_enter Try.func25, Try.ntmps25
  go_wp2_with (go_at_call 28; (with_reducible refine (C.out _).mono ?_); rintro e w1 ⟨rfl, hb⟩)
  go_ret
  exact ⟨rfl, hb⟩

set_option maxRecDepth 100000 in
theorem headC (s : ByteArray) (n : Int) (w : World) (hs : s.size ≤ 281474976710656) (h0 : -9223372036854775808 ≤ n) (h1 : n ≤ 9223372036854775807) :
    Calls Try.prog 16 #[.string s, .int .i64 n] w (Ret (.string (Hd s n)) w) := by
  go_enter Try.func16, Try.ntmps16
  go_wp2
  go_loopw [1] (fun m wr => ∃ pos k : Nat, pos ≤ s.size ∧ m = .int .i64 (n - (k : Int)) ∧ (k = 0 ∨ (k : Int) ≤ n) ∧ wr = w.iter s pos ∧ Hid (pos = Tx.headF k (bl s))) (fun _ wr => s.size - wr.iterPos w.heap.size)
  case atStart => exact ⟨0, 0, by omega, by simp, Or.inl rfl, rfl, rfl⟩
  case round =>
    obtain ⟨pos, k, hpos, rfl, hk, rfl, hb⟩ := hrel
    by_cases hp : pos < s.size
    · obtain ⟨r, p, hd, hp1, hp2, hr, hv, hrun, hq⟩ := next_step s pos hp
      have hnx : ∀ ty, (Instr.next (.pointer (some ⟨w.heap.size, 0, none⟩)) true ty).run Try.prog (w.iter s pos) = .ok (.tuple #[.bool true, .int .i64 pos, .int .i32 r]) (w.iter s p) := fun ty => by
        rw [run_next_any w s pos ty hp, hd, show pos + (p - pos) = p by omega]
      have hb1 : p = Tx.headF (k + 1) (bl s) := by
        rw [headF_succ k (bl s) (by rw [← hb.out, bl_length]; exact hp), ← hb.out]; exact hq
      clear hd hrun hq hv
      have HB1 := Lib.hid hb1; clear hb1
      by_cases hn : n - (k : Int) < 1
      · have hH : s.extract 0 pos = Hd s n := by
          rcases hk with rfl | hk
          · have hb2 : pos = 0 := hb.out
            rw [hb2, hd_small s n (by omega)]
          · rw [hb.out]; exact hd_at s n k (by omega)
        have c := fun W => cloneC (Hd s n) W (by have := hd_le s n; omega)
        rw [← hH] at c ⊢
        clear hH hk hb HB1
        have C := Lib.hid c; clear c
        go_wp2_with (go_at_call 25; (with_reducible refine (C.out _).mono ?_); rintro e w1 ⟨rfl, hbx⟩)
        go_ret
        exact ⟨rfl, (iter_below _ _ _).trans (hbx.mono (by simp [World.iter]))⟩
      · clear hb
        have hk2 : (k : Int) + 1 ≤ n := by omega
        have hn2 : 1 ≤ n - (k : Int) := by omega
        clear hk hn
        go_wp2
        go_roundw
        case rel => exact ⟨p, k + 1, hp2, by go_num, Or.inr (by omega), rfl, HB1⟩
        case measure => simp; omega
    · have hH : Hd s n = s := by
        rcases hk with rfl | hk
        · have hb2 : pos = 0 := hb.out
          have hz : s.size = 0 := by omega
          have := hd_le s n
          apply bl_inj
          have e1 : bl (Hd s n) = [] := List.eq_nil_of_length_eq_zero (by rw [bl_length]; omega)
          have e2 : bl s = [] := List.eq_nil_of_length_eq_zero (by rw [bl_length]; omega)
          rw [e1, e2]
        · exact hd_end s n k hk (by rw [← hb.out]; exact hp)
      have hnx : ∀ ty, (Instr.next (.pointer (some ⟨w.heap.size, 0, none⟩)) true ty).run Try.prog (w.iter s pos) = .ok (.tuple #[.bool false]) (w.iter s pos) := fun ty => run_next_end w s pos ty hp
      have c := fun W => cloneC s W hs
      have HH := Lib.hid hH
      have C := Lib.hid c; clear c hH hb hk
      go_wp2_with (go_at_call 25; (with_reducible refine (C.out _).mono ?_); rintro e w1 ⟨rfl, hbx⟩)
      go_ret
      exact ⟨by rw [HH.out]; rfl, (iter_below _ _ _).trans (hbx.mono (by simp [World.iter]))⟩

set_option maxRecDepth 100000 in
theorem refHeadC (s : ByteArray) (n : Int) (w : World) (hs : s.size ≤ 9223372036854775807) (h0 : -9223372036854775808 ≤ n) (h1 : n ≤ 9223372036854775807) :
    Calls Try.prog 17 #[.string s, .int .i64 n] w (Ret (.string (Hd s n)) w) := by
  go_enter Try.func17, Try.ntmps17
  go_wp2
  go_loopw [5] (fun m wr => ∃ pos k : Nat, pos ≤ s.size ∧ k ≤ pos ∧ m = .int .i64 (k : Int) ∧ (k = 0 ∨ (k : Int) ≤ n) ∧ wr = w.iter s pos ∧ Hid (pos = Tx.headF k (bl s))) (fun _ wr => s.size - wr.iterPos w.heap.size)
  case atStart => exact ⟨0, 0, by omega, by omega, by simp, Or.inl rfl, rfl, rfl⟩
  case round =>
    obtain ⟨pos, k, hpos, hkp, rfl, hk, rfl, hb⟩ := hrel
    by_cases hp : pos < s.size
    · obtain ⟨r, p, hd, hp1, hp2, hr, hv, hrun, hq⟩ := next_step s pos hp
      have hnx : ∀ ty, (Instr.next (.pointer (some ⟨w.heap.size, 0, none⟩)) true ty).run Try.prog (w.iter s pos) = .ok (.tuple #[.bool true, .int .i64 pos, .int .i32 r]) (w.iter s p) := fun ty => by
        rw [run_next_any w s pos ty hp, hd, show pos + (p - pos) = p by omega]
      have hb1 : p = Tx.headF (k + 1) (bl s) := by
        rw [headF_succ k (bl s) (by rw [← hb.out, bl_length]; exact hp), ← hb.out]; exact hq
      clear hd hrun hq hv
      have HB1 := Lib.hid hb1; clear hb1
      by_cases hn : n ≤ (k : Int)
      · have hH : s.extract 0 pos = Hd s n := by
          rcases hk with rfl | hk
          · have hb2 : pos = 0 := hb.out
            rw [hb2, hd_small s n (by omega)]
          · rw [hb.out]; exact hd_at s n k (by omega)
        rw [← hH]
        clear hH hk hb HB1
        go_wp2
        go_ret
        exact ⟨rfl, iter_below _ _ _⟩
      · clear hb
        have hk2 : (k : Int) < n := by omega
        clear hk hn
        go_wp2
        go_roundw
        case rel => exact ⟨p, k + 1, hp2, by omega, by go_num, Or.inr (by omega), rfl, HB1⟩
        case measure => simp; omega
    · have hH : Hd s n = s := by
        rcases hk with rfl | hk
        · have hb2 : pos = 0 := hb.out
          have hz : s.size = 0 := by omega
          have := hd_le s n
          apply bl_inj
          have e1 : bl (Hd s n) = [] := List.eq_nil_of_length_eq_zero (by rw [bl_length]; omega)
          have e2 : bl s = [] := List.eq_nil_of_length_eq_zero (by rw [bl_length]; omega)
          rw [e1, e2]
        · exact hd_end s n k hk (by rw [← hb.out]; exact hp)
      have hnx : ∀ ty, (Instr.next (.pointer (some ⟨w.heap.size, 0, none⟩)) true ty).run Try.prog (w.iter s pos) = .ok (.tuple #[.bool false]) (w.iter s pos) := fun ty => run_next_end w s pos ty hp
      by_cases hn : n < 1
      · have hz : s = ⟨#[]⟩ := by
          rcases hk with rfl | hk
          · have hb2 : pos = 0 := hb.out
            have hz : s.size = 0 := by omega
            apply bl_inj
            exact List.eq_nil_of_length_eq_zero (by rw [bl_length]; omega)
          · have hk0 : k = 0 := by omega
            subst hk0
            have hb2 : pos = 0 := hb.out
            apply bl_inj
            exact List.eq_nil_of_length_eq_zero (by rw [bl_length]; omega)
        have HH := Lib.hid (hH.trans hz)
        clear hH hb hk hz
        go_wp2
        go_ret
        exact ⟨by rw [HH.out]; rfl, iter_below _ _ _⟩
      · have HH := Lib.hid hH
        clear hH hb hk
        go_wp2
        go_ret
        exact ⟨by rw [HH.out]; rfl, iter_below _ _ _⟩
end Go.Proofs.Ytbflcandbhfbdaa
