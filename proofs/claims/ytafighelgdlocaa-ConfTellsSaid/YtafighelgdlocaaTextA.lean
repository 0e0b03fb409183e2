/-
  The kinds of runes: isLower, Kind, inName; the document's between, small, great, Kind.
-/
import Derived.Test.YtafighelgdlocaaBase
import Derived.Test.YtafighelgdlocaaTextMath
namespace Go.Proofs.Ytafighelgdlocaa
open Go.RowKit
set_option linter.unusedVariables false

theorem ret_b {a b : Bool} (h : a = b) : Ending.returned (.bool a) = .returned (.bool b) := by rw [h]
theorem ret_i {k : IntKind} {a b : Int} (h : a = b) : Ending.returned (.int k a) = .returned (.int k b) := by rw [h]

set_option maxRecDepth 100000 in
theorem isLowerC (r : Int) (w : World) (h0 : -2147483648 ≤ r) (h1 : r ≤ 2147483647) :
    Calls Try.prog 37 #[.int .i32 r] w (Same (.bool (Tx.lowB r)) w) := by
  go_enter Try.func37, Try.ntmps37
  go_wp2
  all_goals
    go_ret
    refine ⟨ret_b ?_, rfl⟩
    rw [Bool.eq_iff_iff, Tx.lowB_iff]
    (try simp) <;> omega

theorem kd_low {r : Int} (h : Tx.lowB r = true) : Tx.kd r = 1 := by unfold Tx.kd; rw [if_pos h]
theorem kd_dig {r : Int} (h : Tx.lowB r = false) (h0 : 48 ≤ r) (h1 : r ≤ 57) : Tx.kd r = 2 := by unfold Tx.kd; rw [if_neg (by simp [h]), if_pos ⟨h0, h1⟩]
theorem kd_sign {r : Int} (h : Tx.lowB r = false) (h0 : r = 45 ∨ r = 46) : Tx.kd r = 3 := by unfold Tx.kd; rw [if_neg (by simp [h]), if_neg (by omega), if_pos h0]
theorem kd_up {r : Int} (h : Tx.lowB r = false) (h0 : ¬ (48 ≤ r ∧ r ≤ 57)) (h1 : ¬ (r = 45 ∨ r = 46)) (h2 : Tx.uppB r = true) : Tx.kd r = 4 := by unfold Tx.kd; rw [if_neg (by simp [h]), if_neg h0, if_neg h1, if_pos h2]
theorem kd_no {r : Int} (h : Tx.lowB r = false) (h0 : ¬ (48 ≤ r ∧ r ≤ 57)) (h1 : ¬ (r = 45 ∨ r = 46)) (h2 : Tx.uppB r = false) : Tx.kd r = 0 := by unfold Tx.kd; rw [if_neg (by simp [h]), if_neg h0, if_neg h1, if_neg (by simp [h2])]

/-- what Kind's second call of isLower answers, wrapped round or not -/
theorem isLowerUp (r : Int) (w : World) (h0 : -2147483648 ≤ r) (h1 : r ≤ 2147483647) :
    Calls Try.prog 37 #[.int .i32 (wrap32 (r + 32))] w (Same (.bool (Tx.uppB r)) w) := by
  by_cases h : r ≤ 2147483615
  · have e : wrap32 (r + 32) = r + 32 := by go_arith
    have c := isLowerC (r + 32) w (by omega) (by omega)
    rw [Tx.low_up] at c
    rw [e]
    exact c
  · have e : wrap32 (r + 32) = r + 32 - 4294967296 := by go_arith
    have c := isLowerC (r + 32 - 4294967296) w (by omega) (by omega)
    have e1 : Tx.lowB (r + 32 - 4294967296) = false := by
      rw [Bool.eq_false_iff, Ne, Tx.lowB_iff]; omega
    have e2 : Tx.uppB r = false := by
      rw [Bool.eq_false_iff, Ne, Tx.uppB_iff]; omega
    rw [e1] at c
    rw [e, e2]
    exact c

set_option maxRecDepth 100000 in
theorem kindC (r : Int) (w : World) (h0 : -2147483648 ≤ r) (h1 : r ≤ 2147483647) :
    Calls Try.prog 33 #[.int .i32 r] w (Same (.int .i64 (Tx.kd r)) w) := by
  have c1 := fun W => isLowerC r W h0 h1
  have c2 := fun W => isLowerUp r W h0 h1
  have C2 := Lib.hid c2; clear c2
  cases hl : Tx.lowB r with
  | true =>
    rw [kd_low hl]
    rw [hl] at c1
    have C1 := Lib.hid c1; clear c1 hl
    go_enter Try.func33, Try.ntmps33
    go_wp2_with (go_at_call 37; (with_reducible refine (C1.out _).mono ?_); rintro e w1 ⟨rfl, rfl⟩)
    go_ret
    exact ⟨rfl, rfl⟩
  | false =>
    rw [hl] at c1
    have C1 := Lib.hid c1; clear c1
    by_cases hd : 48 ≤ r ∧ r ≤ 57
    · obtain ⟨d0, d1⟩ := hd
      rw [kd_dig hl d0 d1]
      clear hl
      go_enter Try.func33, Try.ntmps33
      go_wp2_with (go_at_call 37; (with_reducible refine (C1.out _).mono ?_); rintro e w1 ⟨rfl, rfl⟩)
      go_ret
      exact ⟨rfl, rfl⟩
    · by_cases hs : r = 45 ∨ r = 46
      · rw [kd_sign hl hs]
        clear hl hd
        rcases hs with rfl | rfl
        all_goals
          go_enter Try.func33, Try.ntmps33
          go_wp2_with (go_at_call 37; (with_reducible refine (C1.out _).mono ?_); rintro e w1 ⟨rfl, rfl⟩)
          go_ret
          exact ⟨rfl, rfl⟩
      · have s1 : (r == 45) = false := by simp; omega
        have s2 : (r == 46) = false := by simp; omega
        cases hu : Tx.uppB r with
        | true =>
          rw [kd_up hl hd hs hu]
          rw [hu] at C2
          clear hl hu hs
          by_cases hd0 : 48 ≤ r
          · have hd1 : 57 < r := by omega
            clear hd
            go_enter Try.func33, Try.ntmps33
            go_wp2_with (first | (go_at_call 37; (with_reducible refine (C1.out _).mono ?_); rintro e w1 ⟨rfl, rfl⟩) | (go_at_call 37; (with_reducible refine (C2.out _).mono ?_); rintro e w1 ⟨rfl, rfl⟩))
            go_ret
            exact ⟨rfl, rfl⟩
          · have e : wrap32 (r + 32) = r + 32 := by go_arith
            rw [e] at C2
            clear hd e
            go_enter Try.func33, Try.ntmps33
            go_wp2_with (first | (go_at_call 37; (with_reducible refine (C1.out _).mono ?_); rintro e w1 ⟨rfl, rfl⟩) | (go_at_call 37; (with_reducible refine (C2.out _).mono ?_); rintro e w1 ⟨rfl, rfl⟩))
            go_ret
            exact ⟨rfl, rfl⟩
        | false =>
          rw [kd_no hl hd hs hu]
          rw [hu] at C2
          clear hl hu hs
          by_cases hd0 : 48 ≤ r
          · have hd1 : 57 < r := by omega
            clear hd
            go_enter Try.func33, Try.ntmps33
            go_wp2_with (first | (go_at_call 37; (with_reducible refine (C1.out _).mono ?_); rintro e w1 ⟨rfl, rfl⟩) | (go_at_call 37; (with_reducible refine (C2.out _).mono ?_); rintro e w1 ⟨rfl, rfl⟩))
            go_ret
            exact ⟨rfl, rfl⟩
          · have e : wrap32 (r + 32) = r + 32 := by go_arith
            rw [e] at C2
            clear hd e
            go_enter Try.func33, Try.ntmps33
            go_wp2_with (first | (go_at_call 37; (with_reducible refine (C1.out _).mono ?_); rintro e w1 ⟨rfl, rfl⟩) | (go_at_call 37; (with_reducible refine (C2.out _).mono ?_); rintro e w1 ⟨rfl, rfl⟩))
            go_ret
            exact ⟨rfl, rfl⟩

set_option maxRecDepth 100000 in
theorem inNameC (r : Int) (w : World) (h0 : -2147483648 ≤ r) (h1 : r ≤ 2147483647) :
    Calls Try.prog 30 #[.int .i32 r] w (Same (.bool (Tx.nameR r)) w) := by
  have c := fun W => kindC r W h0 h1
  have hr := Tx.kd_range r
  unfold Tx.nameR
  obtain ⟨k, hk⟩ : ∃ k, k = Tx.kd r := ⟨_, rfl⟩
  rw [← hk] at c hr ⊢
  clear hk
  have C := Lib.hid c; clear c
  have hk : k = 0 ∨ k = 1 ∨ k = 2 ∨ k = 3 ∨ k = 4 := by omega
  clear hr
  rcases hk with rfl | rfl | rfl | rfl | rfl
  all_goals
    go_enter Try.func30, Try.ntmps30
    go_wp2_with (go_at_call 33; (with_reducible refine (C.out _).mono ?_); rintro e w1 ⟨rfl, rfl⟩)
    go_ret
    exact ⟨rfl, rfl⟩

/-! ### the document's -/
theorem betweenC (r a b : Int) (w : World) :
    Calls Try.prog 35 #[.int .i32 r, .int .i32 a, .int .i32 b] w (Same (.bool (decide (a ≤ r ∧ r ≤ b))) w) := by
  go_enter Try.func35, Try.ntmps35
  go_wp2
  all_goals
    go_ret
    refine ⟨ret_b ?_, rfl⟩
    rw [Bool.eq_iff_iff]
    (try simp) <;> omega

theorem betweenT (r a b : Int) (h : a ≤ r ∧ r ≤ b) (w : World) : Calls Try.prog 35 #[.int .i32 r, .int .i32 a, .int .i32 b] w (Same (.bool true) w) := by
  have c := betweenC r a b w
  rwa [decide_eq_true h] at c
theorem betweenF (r a b : Int) (h : ¬ (a ≤ r ∧ r ≤ b)) (w : World) : Calls Try.prog 35 #[.int .i32 r, .int .i32 a, .int .i32 b] w (Same (.bool false) w) := by
  have c := betweenC r a b w
  rwa [decide_eq_false h] at c

set_option maxRecDepth 100000 in
theorem smallC (r : Int) (w : World) : Calls Try.prog 34 #[.int .i32 r] w (Same (.bool (Tx.lowB r)) w) := by
  have hh : (97 ≤ r ∧ r ≤ 122) ∨ (224 ≤ r ∧ r ≤ 254 ∧ r ≠ 247) ∨ r = 247 ∨ (945 ≤ r ∧ r ≤ 969 ∧ r ≠ 962) ∨ r = 962 ∨ (1072 ≤ r ∧ r ≤ 1103) ∨ (¬ (97 ≤ r ∧ r ≤ 122) ∧ ¬ (224 ≤ r ∧ r ≤ 254) ∧ ¬ (945 ≤ r ∧ r ≤ 969) ∧ ¬ (1072 ≤ r ∧ r ≤ 1103)) := by omega
  rcases hh with h | h | rfl | h | rfl | h | h
  · have hl : Tx.lowB r = true := by rw [Tx.lowB_iff]; omega
    rw [hl]; clear hl
    have H := Lib.hid h; clear h
    go_enter Try.func34, Try.ntmps34
    go_wp2_with (first | (go_at_call 35; (with_reducible refine (betweenT r _ _ (by have := H.out; omega) _).mono ?_); rintro e w1 ⟨rfl, rfl⟩) | (go_at_call 35; (with_reducible refine (betweenF r _ _ (by have := H.out; omega) _).mono ?_); rintro e w1 ⟨rfl, rfl⟩))
    go_ret
    exact ⟨rfl, rfl⟩
  · have hl : Tx.lowB r = true := by rw [Tx.lowB_iff]; omega
    rw [hl]; clear hl
    have ne : (r != 247) = true := by simp; omega
    have H := Lib.hid h; clear h
    go_enter Try.func34, Try.ntmps34
    go_wp2_with (first | (go_at_call 35; (with_reducible refine (betweenT r _ _ (by have := H.out; omega) _).mono ?_); rintro e w1 ⟨rfl, rfl⟩) | (go_at_call 35; (with_reducible refine (betweenF r _ _ (by have := H.out; omega) _).mono ?_); rintro e w1 ⟨rfl, rfl⟩))
    go_ret
    exact ⟨rfl, rfl⟩
  · have hl : Tx.lowB 247 = false := by decide
    rw [hl]; clear hl
    go_enter Try.func34, Try.ntmps34
    go_wp2_with (first | (go_at_call 35; (with_reducible refine (betweenT 247 _ _ (by omega) _).mono ?_); rintro e w1 ⟨rfl, rfl⟩) | (go_at_call 35; (with_reducible refine (betweenF 247 _ _ (by omega) _).mono ?_); rintro e w1 ⟨rfl, rfl⟩))
    go_ret
    exact ⟨rfl, rfl⟩
  · have hl : Tx.lowB r = true := by rw [Tx.lowB_iff]; omega
    rw [hl]; clear hl
    have ne : (r != 962) = true := by simp; omega
    have H := Lib.hid h; clear h
    go_enter Try.func34, Try.ntmps34
    go_wp2_with (first | (go_at_call 35; (with_reducible refine (betweenT r _ _ (by have := H.out; omega) _).mono ?_); rintro e w1 ⟨rfl, rfl⟩) | (go_at_call 35; (with_reducible refine (betweenF r _ _ (by have := H.out; omega) _).mono ?_); rintro e w1 ⟨rfl, rfl⟩))
    go_ret
    exact ⟨rfl, rfl⟩
  · have hl : Tx.lowB 962 = false := by decide
    rw [hl]; clear hl
    go_enter Try.func34, Try.ntmps34
    go_wp2_with (first | (go_at_call 35; (with_reducible refine (betweenT 962 _ _ (by omega) _).mono ?_); rintro e w1 ⟨rfl, rfl⟩) | (go_at_call 35; (with_reducible refine (betweenF 962 _ _ (by omega) _).mono ?_); rintro e w1 ⟨rfl, rfl⟩))
    go_ret
    exact ⟨rfl, rfl⟩
  · have hl : Tx.lowB r = true := by rw [Tx.lowB_iff]; omega
    rw [hl]; clear hl
    have H := Lib.hid h; clear h
    go_enter Try.func34, Try.ntmps34
    go_wp2_with (first | (go_at_call 35; (with_reducible refine (betweenT r _ _ (by have := H.out; omega) _).mono ?_); rintro e w1 ⟨rfl, rfl⟩) | (go_at_call 35; (with_reducible refine (betweenF r _ _ (by have := H.out; omega) _).mono ?_); rintro e w1 ⟨rfl, rfl⟩))
    go_ret
    exact ⟨rfl, rfl⟩
  · have hl : Tx.lowB r = false := by rw [Bool.eq_false_iff, Ne, Tx.lowB_iff]; omega
    rw [hl]; clear hl
    have H := Lib.hid h; clear h
    go_enter Try.func34, Try.ntmps34
    go_wp2_with (first | (go_at_call 35; (with_reducible refine (betweenT r _ _ (by have := H.out; omega) _).mono ?_); rintro e w1 ⟨rfl, rfl⟩) | (go_at_call 35; (with_reducible refine (betweenF r _ _ (by have := H.out; omega) _).mono ?_); rintro e w1 ⟨rfl, rfl⟩))
    go_ret
    exact ⟨rfl, rfl⟩

set_option maxRecDepth 100000 in
theorem greatC (r : Int) (w : World) : Calls Try.prog 36 #[.int .i32 r] w (Same (.bool (Tx.uppB r)) w) := by
  have hh : (65 ≤ r ∧ r ≤ 90) ∨ (192 ≤ r ∧ r ≤ 222 ∧ r ≠ 215) ∨ r = 215 ∨ (913 ≤ r ∧ r ≤ 937 ∧ r ≠ 930) ∨ r = 930 ∨ (1040 ≤ r ∧ r ≤ 1071) ∨ (¬ (65 ≤ r ∧ r ≤ 90) ∧ ¬ (192 ≤ r ∧ r ≤ 222) ∧ ¬ (913 ≤ r ∧ r ≤ 937) ∧ ¬ (1040 ≤ r ∧ r ≤ 1071)) := by omega
  rcases hh with h | h | rfl | h | rfl | h | h
  · have hl : Tx.uppB r = true := by rw [Tx.uppB_iff]; omega
    rw [hl]; clear hl
    have H := Lib.hid h; clear h
    go_enter Try.func36, Try.ntmps36
    go_wp2_with (first | (go_at_call 35; (with_reducible refine (betweenT r _ _ (by have := H.out; omega) _).mono ?_); rintro e w1 ⟨rfl, rfl⟩) | (go_at_call 35; (with_reducible refine (betweenF r _ _ (by have := H.out; omega) _).mono ?_); rintro e w1 ⟨rfl, rfl⟩))
    go_ret
    exact ⟨rfl, rfl⟩
  · have hl : Tx.uppB r = true := by rw [Tx.uppB_iff]; omega
    rw [hl]; clear hl
    have ne : (r != 215) = true := by simp; omega
    have H := Lib.hid h; clear h
    go_enter Try.func36, Try.ntmps36
    go_wp2_with (first | (go_at_call 35; (with_reducible refine (betweenT r _ _ (by have := H.out; omega) _).mono ?_); rintro e w1 ⟨rfl, rfl⟩) | (go_at_call 35; (with_reducible refine (betweenF r _ _ (by have := H.out; omega) _).mono ?_); rintro e w1 ⟨rfl, rfl⟩))
    go_ret
    exact ⟨rfl, rfl⟩
  · have hl : Tx.uppB 215 = false := by decide
    rw [hl]; clear hl
    go_enter Try.func36, Try.ntmps36
    go_wp2_with (first | (go_at_call 35; (with_reducible refine (betweenT 215 _ _ (by omega) _).mono ?_); rintro e w1 ⟨rfl, rfl⟩) | (go_at_call 35; (with_reducible refine (betweenF 215 _ _ (by omega) _).mono ?_); rintro e w1 ⟨rfl, rfl⟩))
    go_ret
    exact ⟨rfl, rfl⟩
  · have hl : Tx.uppB r = true := by rw [Tx.uppB_iff]; omega
    rw [hl]; clear hl
    have ne : (r != 930) = true := by simp; omega
    have H := Lib.hid h; clear h
    go_enter Try.func36, Try.ntmps36
    go_wp2_with (first | (go_at_call 35; (with_reducible refine (betweenT r _ _ (by have := H.out; omega) _).mono ?_); rintro e w1 ⟨rfl, rfl⟩) | (go_at_call 35; (with_reducible refine (betweenF r _ _ (by have := H.out; omega) _).mono ?_); rintro e w1 ⟨rfl, rfl⟩))
    go_ret
    exact ⟨rfl, rfl⟩
  · have hl : Tx.uppB 930 = false := by decide
    rw [hl]; clear hl
    go_enter Try.func36, Try.ntmps36
    go_wp2_with (first | (go_at_call 35; (with_reducible refine (betweenT 930 _ _ (by omega) _).mono ?_); rintro e w1 ⟨rfl, rfl⟩) | (go_at_call 35; (with_reducible refine (betweenF 930 _ _ (by omega) _).mono ?_); rintro e w1 ⟨rfl, rfl⟩))
    go_ret
    exact ⟨rfl, rfl⟩
  · have hl : Tx.uppB r = true := by rw [Tx.uppB_iff]; omega
    rw [hl]; clear hl
    have H := Lib.hid h; clear h
    go_enter Try.func36, Try.ntmps36
    go_wp2_with (first | (go_at_call 35; (with_reducible refine (betweenT r _ _ (by have := H.out; omega) _).mono ?_); rintro e w1 ⟨rfl, rfl⟩) | (go_at_call 35; (with_reducible refine (betweenF r _ _ (by have := H.out; omega) _).mono ?_); rintro e w1 ⟨rfl, rfl⟩))
    go_ret
    exact ⟨rfl, rfl⟩
  · have hl : Tx.uppB r = false := by rw [Bool.eq_false_iff, Ne, Tx.uppB_iff]; omega
    rw [hl]; clear hl
    have H := Lib.hid h; clear h
    go_enter Try.func36, Try.ntmps36
    go_wp2_with (first | (go_at_call 35; (with_reducible refine (betweenT r _ _ (by have := H.out; omega) _).mono ?_); rintro e w1 ⟨rfl, rfl⟩) | (go_at_call 35; (with_reducible refine (betweenF r _ _ (by have := H.out; omega) _).mono ?_); rintro e w1 ⟨rfl, rfl⟩))
    go_ret
    exact ⟨rfl, rfl⟩

set_option maxRecDepth 100000 in
theorem refKindC (r : Int) (w : World) : Calls Try.prog 32 #[.int .i32 r] w (Same (.int .i64 (Tx.kd r)) w) := by
  have C1 := Lib.hid (fun W => smallC r W)
  have C2 := Lib.hid (fun W => greatC r W)
  cases hl : Tx.lowB r with
  | true =>
    rw [kd_low hl]
    rw [hl] at C1
    have C3 := C1
    clear hl
    go_enter Try.func32, Try.ntmps32
    go_wp2_with (first | (go_at_call 34; (with_reducible refine (C1.out _).mono ?_); rintro e w1 ⟨rfl, rfl⟩) | (go_at_call 36; (with_reducible refine (C2.out _).mono ?_); rintro e w1 ⟨rfl, rfl⟩) | (go_at_call 35; (with_reducible refine (C3.out _).mono ?_); rintro e w1 ⟨rfl, rfl⟩))
    go_ret
    exact ⟨rfl, rfl⟩
  | false =>
    rw [hl] at C1
    by_cases hd : 48 ≤ r ∧ r ≤ 57
    · rw [kd_dig hl hd.1 hd.2]
      have C3 := Lib.hid (fun W => betweenT r 48 57 hd W)
      clear hl hd
      go_enter Try.func32, Try.ntmps32
      go_wp2_with (first | (go_at_call 34; (with_reducible refine (C1.out _).mono ?_); rintro e w1 ⟨rfl, rfl⟩) | (go_at_call 36; (with_reducible refine (C2.out _).mono ?_); rintro e w1 ⟨rfl, rfl⟩) | (go_at_call 35; (with_reducible refine (C3.out _).mono ?_); rintro e w1 ⟨rfl, rfl⟩))
      go_ret
      exact ⟨rfl, rfl⟩
    · have C3 := Lib.hid (fun W => betweenF r 48 57 hd W)
      by_cases hs : r = 45 ∨ r = 46
      · rw [kd_sign hl hs]
        clear hl hd
        rcases hs with rfl | rfl
        all_goals
          go_enter Try.func32, Try.ntmps32
          go_wp2_with (first | (go_at_call 34; (with_reducible refine (C1.out _).mono ?_); rintro e w1 ⟨rfl, rfl⟩) | (go_at_call 36; (with_reducible refine (C2.out _).mono ?_); rintro e w1 ⟨rfl, rfl⟩) | (go_at_call 35; (with_reducible refine (C3.out _).mono ?_); rintro e w1 ⟨rfl, rfl⟩))
          go_ret
          exact ⟨rfl, rfl⟩
      · have s1 : (r == 45) = false := by simp; omega
        have s2 : (r == 46) = false := by simp; omega
        cases hu : Tx.uppB r with
        | true =>
          rw [kd_up hl hd hs hu]
          rw [hu] at C2
          clear hl hu hs hd
          go_enter Try.func32, Try.ntmps32
          go_wp2_with (first | (go_at_call 34; (with_reducible refine (C1.out _).mono ?_); rintro e w1 ⟨rfl, rfl⟩) | (go_at_call 36; (with_reducible refine (C2.out _).mono ?_); rintro e w1 ⟨rfl, rfl⟩) | (go_at_call 35; (with_reducible refine (C3.out _).mono ?_); rintro e w1 ⟨rfl, rfl⟩))
          go_ret
          exact ⟨rfl, rfl⟩
        | false =>
          rw [kd_no hl hd hs hu]
          rw [hu] at C2
          clear hl hu hs hd
          go_enter Try.func32, Try.ntmps32
          go_wp2_with (first | (go_at_call 34; (with_reducible refine (C1.out _).mono ?_); rintro e w1 ⟨rfl, rfl⟩) | (go_at_call 36; (with_reducible refine (C2.out _).mono ?_); rintro e w1 ⟨rfl, rfl⟩) | (go_at_call 35; (with_reducible refine (C3.out _).mono ?_); rintro e w1 ⟨rfl, rfl⟩))
          go_ret
          exact ⟨rfl, rfl⟩
end Go.Proofs.Ytafighelgdlocaa
