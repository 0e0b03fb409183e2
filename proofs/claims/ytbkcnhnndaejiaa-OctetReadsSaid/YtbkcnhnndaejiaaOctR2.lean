import Derived.Test.YtbkcnhnndaejiaaOctR
namespace Go.Proofs.Ytbkcnhnndaejiaa
open Go.RowKit
set_option linter.unusedVariables false
open Bil (bl)


theorem refNumRd (B : Nat) (s : ByteArray) (e : Int) (w : World) (hs : s.size ≤ 140737488351232) (he : 0 ≤ e ∧ e ≤ 9) (h : Rd tR w B s e) :
    Calls Try.prog 35 #[.pointer (some ⟨B, 0, none⟩)] w
      (RetR tR B (.int .u64 ((Bil.rdS 0 s e (Bil.unchain (bl s))).1 : Nat)) (Bil.rdS 0 s e (Bil.unchain (bl s))).2.1 (Bil.rdS 0 s e (Bil.unchain (bl s))).2.2 w) := by
  obtain ⟨hB, c0, c1, f0, f1⟩ := h.facts
  by_cases h0 : e = 0
  · subst h0
    have hc := fun W => refUnchain s W (by omega)
    have hn := Bil.unchain_n (bl s)
    have hlt := Bil.unchain_lt (bl s)
    rw [Bil.bl_length] at hn
    have hbad := Bil.rdS_err 0 s (Bil.unchain (bl s))
    have hok := Bil.rdS_ok 0 s (Bil.unchain (bl s))
    have he2 := Bil.unchain_e (bl s)
    have hub := Bil.unchain_bad (bl s)
    obtain ⟨r, HR⟩ : ∃ r, Hid (Bil.rdS 0 s 0 (Bil.unchain (bl s)) = r) := ⟨_, rfl⟩
    rw [HR.out] at hbad hok ⊢
    obtain ⟨v, n, e1, hu⟩ : ∃ v n e1, Bil.unchain (bl s) = (v, n, e1) := ⟨_, _, _, rfl⟩
    rw [hu] at hn hlt he2 hbad hok hub
    simp only [hu] at hc
    simp only at hn hlt he2 hbad hok hub
    clear HR hu
    obtain ⟨V, HV⟩ : ∃ V : Int, Hid (V = (v : Int)) := ⟨_, rfl⟩
    rw [← HV.out] at hc
    obtain ⟨hn1, hn2⟩ := hn
    have HC := Lib.hid hc; clear hc
    have HLT := Lib.hid hlt; clear hlt
    by_cases h1 : e1 = 0
    · subst h1
      have hr := hok rfl
      subst hr
      clear hok hbad hub
      go_enter Try.func35, Try.ntmps35
      go_wp2_with (first | (go_at_call 14; (with_reducible refine (HC.out _).mono ?_); rintro e w1 ⟨rfl, rfl⟩))
      go_enter Try.func47, Try.ntmps47
      go_wp2
      go_ret
      refine ⟨?_, (Only.refl B w).setCell 0 _, h.set0 _⟩
      rw [← HV.out]; rfl
    · have hr := hbad h1
      have hne : (e1 != 0) = true := bne_iff_ne.2 h1
      obtain ⟨rfl, rfl⟩ := hub h1
      have HV0 : Hid (V = 0) := HV.out
      subst hr
      clear hok hbad h1 hub
      go_enter Try.func35, Try.ntmps35
      go_wp2_with (first | (go_at_call 14; (with_reducible refine (HC.out _).mono ?_); rintro e w1 ⟨rfl, rfl⟩))
      go_enter Try.func47, Try.ntmps47
      go_wp2
      go_ret
      refine ⟨?_, (Only.refl B w).setCell 1 _, h.set1 _⟩
      rw [← show V = ((0 : Nat) : Int) from HV0.out]; rfl
  · rw [Bil.rdS_bad _ _ _ _ h0]
    have hne : (e != 0) = true := bne_iff_ne.2 h0
    go_enter Try.func35, Try.ntmps35
    go_wp2
    go_ret
    exact ⟨rfl, Only.refl _ _, h⟩

theorem refIntRd (B : Nat) (s : ByteArray) (e m : Int) (w : World) (hs : s.size ≤ 140737488351232) (he : 0 ≤ e ∧ e ≤ 9) (hm0 : -9223372036854775808 ≤ m) (hm1 : m ≤ 9223372036854775807) (h : Rd tR w B s e) :
    Calls Try.prog 36 #[.pointer (some ⟨B, 0, none⟩), .int .i64 m] w
      (RetR tR B (.int .i64 ((Bil.rdS 0 s e (Bil.intD m (bl s))).1 : Nat)) (Bil.rdS 0 s e (Bil.intD m (bl s))).2.1 (Bil.rdS 0 s e (Bil.intD m (bl s))).2.2 w) := by
  obtain ⟨hB, c0, c1, f0, f1⟩ := h.facts
  by_cases h0 : e = 0
  · subst h0
    have hc := fun W => refUnchain s W (by omega)
    have hn := Bil.unchain_n (bl s)
    have hlt := Bil.unchain_lt (bl s)
    rw [Bil.bl_length] at hn
    have hbad := Bil.rdS_err 0 s (Bil.intD m (bl s))
    have hok := Bil.rdS_ok 0 s (Bil.intD m (bl s))
    have he2 := Bil.unchain_e (bl s)
    have hub := Bil.unchain_bad (bl s)
    have hD : Bil.intD m (bl s) = if (Bil.unchain (bl s)).2.2 ≠ 0 then (0, 0, (Bil.unchain (bl s)).2.2) else if Bil.aboveB (Bil.unchain (bl s)).1 m = true then (0, 0, 4) else Bil.unchain (bl s) := by unfold Bil.intD; rfl
    obtain ⟨r, HR⟩ : ∃ r, Hid (Bil.rdS 0 s 0 (Bil.intD m (bl s)) = r) := ⟨_, rfl⟩
    rw [HR.out] at hbad hok ⊢
    rw [hD] at hbad hok
    obtain ⟨v, n, e1, hu⟩ : ∃ v n e1, Bil.unchain (bl s) = (v, n, e1) := ⟨_, _, _, rfl⟩
    rw [hu] at hn hlt he2 hbad hok hub
    simp only [hu] at hc
    simp only at hn hlt he2 hbad hok hub
    clear HR hu hD
    obtain ⟨V, HV⟩ : ∃ V : Int, Hid (V = (v : Int)) := ⟨_, rfl⟩
    have hV0 : 0 ≤ V := by rw [HV.out]; omega
    have hV1 : V < 18446744073709551616 := by rw [HV.out]; omega
    rw [← HV.out] at hc hbad hok
    obtain ⟨hn1, hn2⟩ := hn
    have HC := Lib.hid hc; clear hc
    have HLT := Lib.hid hlt; clear hlt
    by_cases h1 : e1 = 0
    · subst h1
      simp only [ne_eq, not_true_eq_false, if_false] at hbad hok
      by_cases hab : Bil.aboveB V m = true
      · simp only [hab, if_true] at hbad
        have hr := hbad (by omega)
        subst hr
        clear hok hbad hub
        have hor : m < 0 ∨ (0 ≤ m ∧ m < V) := by
          unfold Bil.aboveB at hab
          have := of_decide_eq_true hab
          omega
        rcases hor with hm | ⟨hm2, hmv⟩
        · go_enter Try.func36, Try.ntmps36
          go_wp2_with (first | (go_at_call 14; (with_reducible refine (HC.out _).mono ?_); rintro e w1 ⟨rfl, rfl⟩))
          go_enter Try.func47, Try.ntmps47
          go_wp2
          go_ret
          exact ⟨rfl, (Only.refl B w).setCell 1 _, h.set1 _⟩
        · have hd0 : decide (m < 0) = false := by simpa using hm2
          clear hm0
          go_enter Try.func36, Try.ntmps36
          go_wp2_with (first | (go_at_call 14; (with_reducible refine (HC.out _).mono ?_); rintro e w1 ⟨rfl, rfl⟩))
          go_enter Try.func47, Try.ntmps47
          go_wp2
          go_ret
          exact ⟨rfl, (Only.refl B w).setCell 1 _, h.set1 _⟩
      · have hab' : Bil.aboveB V m = false := by simpa using hab
        have hVm : V ≤ m := by
          unfold Bil.aboveB at hab'
          have := of_decide_eq_false hab'
          omega
        have hm2 : 0 ≤ m := by omega
        have hd0 : decide (m < 0) = false := by simpa using hm2
        have hdv : decide (m < V) = false := by simpa using hVm
        simp only [hab', if_false, Bool.false_eq_true] at hok
        have hr := hok trivial
        subst hr
        clear hok hbad hab hub hm0
        go_enter Try.func36, Try.ntmps36
        go_wp2_with (first | (go_at_call 14; (with_reducible refine (HC.out _).mono ?_); rintro e w1 ⟨rfl, rfl⟩))
        go_enter Try.func47, Try.ntmps47
        go_wp2
        go_ret
        refine ⟨?_, (Only.refl B w).setCell 0 _, h.set0 _⟩
        rw [← HV.out]; rfl
    · simp only [ne_eq, h1, not_false_eq_true, if_true] at hbad
      have hr := hbad trivial
      have hne : (e1 != 0) = true := bne_iff_ne.2 h1
      have hne2 : (e1 == 0) = false := beq_eq_false_iff_ne.2 h1
      obtain ⟨rfl, rfl⟩ := hub h1
      have HV0 : Hid (V = 0) := HV.out
      have hV : V = 0 := HV.out
      subst hr
      clear hok hbad h1 hub
      go_enter Try.func36, Try.ntmps36
      go_wp2_with (first | (go_at_call 14; (with_reducible refine (HC.out _).mono ?_); rintro e w1 ⟨rfl, rfl⟩))
      go_enter Try.func47, Try.ntmps47
      go_wp2
      go_ret
      exact ⟨rfl, (Only.refl B w).setCell 1 _, h.set1 _⟩
  · rw [Bil.rdS_bad _ _ _ _ h0]
    have hne : (e != 0) = true := bne_iff_ne.2 h0
    go_enter Try.func36, Try.ntmps36
    go_wp2
    go_ret
    exact ⟨rfl, Only.refl _ _, h⟩


theorem refFlagRd (B : Nat) (s : ByteArray) (e : Int) (w : World) (hs : s.size ≤ 140737488351232) (he : 0 ≤ e ∧ e ≤ 9) (h : Rd tR w B s e) :
    Calls Try.prog 38 #[.pointer (some ⟨B, 0, none⟩)] w
      (RetR tR B (.bool (Bil.rdS false s e (Bil.flagD (bl s))).1) (Bil.rdS false s e (Bil.flagD (bl s))).2.1 (Bil.rdS false s e (Bil.flagD (bl s))).2.2 w) := by
  obtain ⟨hB, c0, c1, f0, f1⟩ := h.facts
  by_cases h0 : e = 0
  · subst h0
    have hc := fun W => refUnchain s W (by omega)
    have hn := Bil.unchain_n (bl s)
    have hlt := Bil.unchain_lt (bl s)
    rw [Bil.bl_length] at hn
    have hbad := Bil.rdS_err false s (Bil.flagD (bl s))
    have hok := Bil.rdS_ok false s (Bil.flagD (bl s))
    have he2 := Bil.unchain_e (bl s)
    have hub := Bil.unchain_bad (bl s)
    have hD : Bil.flagD (bl s) = if (Bil.unchain (bl s)).2.2 ≠ 0 then (false, 0, (Bil.unchain (bl s)).2.2) else if 1 < (Bil.unchain (bl s)).1 then (false, 0, 3) else ((Bil.unchain (bl s)).1 == 1, (Bil.unchain (bl s)).2.1, 0) := by unfold Bil.flagD; rfl
    obtain ⟨r, HR⟩ : ∃ r, Hid (Bil.rdS false s 0 (Bil.flagD (bl s)) = r) := ⟨_, rfl⟩
    rw [HR.out] at hbad hok ⊢
    rw [hD] at hbad hok
    obtain ⟨v, n, e1, hu⟩ : ∃ v n e1, Bil.unchain (bl s) = (v, n, e1) := ⟨_, _, _, rfl⟩
    rw [hu] at hn hlt he2 hbad hok hub
    simp only [hu] at hc
    simp only at hn hlt he2 hbad hok hub
    clear HR hu hD
    obtain ⟨V, HV⟩ : ∃ V : Int, Hid (V = (v : Int)) := ⟨_, rfl⟩
    have hV0 : 0 ≤ V := by rw [HV.out]; omega
    have hV1 : V < 18446744073709551616 := by rw [HV.out]; omega
    rw [← HV.out] at hc
    obtain ⟨hn1, hn2⟩ := hn
    have HC := Lib.hid hc; clear hc
    have HLT := Lib.hid hlt; clear hlt
    by_cases h1 : e1 = 0
    · subst h1
      simp only [ne_eq, not_true_eq_false, if_false] at hbad hok
      by_cases hab : 1 < v
      · simp only [hab, if_true] at hbad
        have hab' : (1 : Int) < V := by rw [HV.out]; omega
        have hr := hbad (by omega)
        subst hr
        clear hok hbad
        go_enter Try.func38, Try.ntmps38
        go_wp2_with (first | (go_at_call 14; (with_reducible refine (HC.out _).mono ?_); rintro e w1 ⟨rfl, rfl⟩))
        go_enter Try.func47, Try.ntmps47
        go_wp2
        go_ret
        exact ⟨rfl, (Only.refl B w).setCell 1 _, h.set1 _⟩
      · have hab' : ¬ (1 : Int) < V := by rw [HV.out]; omega
        simp only [hab, if_false] at hok
        have hr := hok trivial
        subst hr
        have HQ : Hid ((v == 1) = (V == 1)) := by
          show _ = _
          rw [HV.out, Bool.eq_iff_iff]; simp; omega
        clear hok hbad hab
        go_enter Try.func38, Try.ntmps38
        go_wp2_with (first | (go_at_call 14; (with_reducible refine (HC.out _).mono ?_); rintro e w1 ⟨rfl, rfl⟩))
        go_enter Try.func47, Try.ntmps47
        go_wp2
        go_ret
        refine ⟨?_, (Only.refl B w).setCell 0 _, h.set0 _⟩
        rw [HQ.out]; rfl
    · simp only [ne_eq, h1, not_false_eq_true, if_true] at hbad
      have hr := hbad trivial
      have hne : (e1 != 0) = true := bne_iff_ne.2 h1
      have hne2 : (e1 == 0) = false := beq_eq_false_iff_ne.2 h1
      subst hr
      clear hok hbad h1
      go_enter Try.func38, Try.ntmps38
      go_wp2_with (first | (go_at_call 14; (with_reducible refine (HC.out _).mono ?_); rintro e w1 ⟨rfl, rfl⟩))
      go_enter Try.func47, Try.ntmps47
      go_wp2
      go_ret
      exact ⟨rfl, (Only.refl B w).setCell 1 _, h.set1 _⟩
  · rw [Bil.rdS_bad _ _ _ _ h0]
    have hne : (e != 0) = true := bne_iff_ne.2 h0
    go_enter Try.func38, Try.ntmps38
    go_wp2
    go_ret
    exact ⟨rfl, Only.refl _ _, h⟩


theorem refStrRd (B : Nat) (s : ByteArray) (e m : Int) (w : World) (hs : s.size ≤ 140737488351232) (he : 0 ≤ e ∧ e ≤ 9) (hm0 : -9223372036854775808 ≤ m) (hm1 : m ≤ 9223372036854775807) (h : Rd tR w B s e) :
    Calls Try.prog 37 #[.pointer (some ⟨B, 0, none⟩), .int .i64 m] w
      (RetR tR B (.string ⟨(Bil.rdS [] s e (Bil.strD m (bl s))).1.toArray⟩) (Bil.rdS [] s e (Bil.strD m (bl s))).2.1 (Bil.rdS [] s e (Bil.strD m (bl s))).2.2 w) := by
  obtain ⟨hB, c0, c1, f0, f1⟩ := h.facts
  by_cases h0 : e = 0
  · subst h0
    have hc := fun W => refUntext s m W hs hm0 hm1
    have hn := Bil.untext_n (bl s) m
    rw [Bil.bl_length] at hn
    have hbad := Bil.rdS_err [] s (Bil.strD m (bl s))
    have hok := Bil.rdS_ok [] s (Bil.strD m (bl s))
    have he2 := Bil.untext_e (bl s) m
    have hub := Bil.untext_bad (bl s) m
    have hD : Bil.strD m (bl s) = ((Bil.untext (bl s) m).1, (Bil.untext (bl s) m).2.1.toNat, (Bil.untext (bl s) m).2.2) := by unfold Bil.strD; rfl
    obtain ⟨r, HR⟩ : ∃ r, Hid (Bil.rdS [] s 0 (Bil.strD m (bl s)) = r) := ⟨_, rfl⟩
    rw [HR.out] at hbad hok ⊢
    rw [hD] at hbad hok
    obtain ⟨a, n, e1, hu⟩ : ∃ a n e1, Bil.untext (bl s) m = (a, n, e1) := ⟨_, _, _, rfl⟩
    rw [hu] at hn he2 hbad hok hub
    simp only [hu] at hc
    simp only at hn he2 hbad hok hub
    clear HR hu hD
    obtain ⟨hn0, hn1, hn2⟩ := hn
    have HC := Lib.hid hc; clear hc
    have HH := Lib.hid h; clear h
    by_cases h1 : e1 = 0
    · subst h1
      have hr := hok rfl
      subst hr
      clear hok hbad hub
      go_enter Try.func37, Try.ntmps37
      go_wp2_with (go_at_call 18; (with_reducible refine (HC.out _).mono ?_); rintro e w1 ⟨rfl, hbx⟩; have hR1 := HH.out.below hbx hB; obtain ⟨hB1, d0, d1, g0, g1⟩ := hR1.facts; have HR1 := Lib.hid hR1; clear hR1; have HB1 := Lib.hid hbx; clear hbx)
      go_enter Try.func47, Try.ntmps47
      go_wp2
      go_ret
      exact ⟨rfl, (Only.of_below HB1.out).setCell 0 _, HR1.out.set0 _⟩
    · have hr := hbad h1
      have hne : (e1 != 0) = true := bne_iff_ne.2 h1
      have ha := hub h1
      subst hr
      subst ha
      clear hok hbad h1 hub
      go_enter Try.func37, Try.ntmps37
      go_wp2_with (go_at_call 18; (with_reducible refine (HC.out _).mono ?_); rintro e w1 ⟨rfl, hbx⟩; have hR1 := HH.out.below hbx hB; obtain ⟨hB1, d0, d1, g0, g1⟩ := hR1.facts; have HR1 := Lib.hid hR1; clear hR1; have HB1 := Lib.hid hbx; clear hbx)
      go_enter Try.func47, Try.ntmps47
      go_wp2
      go_ret
      exact ⟨rfl, (Only.of_below HB1.out).setCell 1 _, HR1.out.set1 _⟩
  · rw [Bil.rdS_bad _ _ _ _ h0]
    have hne : (e != 0) = true := bne_iff_ne.2 h0
    go_enter Try.func37, Try.ntmps37
    go_wp2
    go_ret
    exact ⟨rfl, Only.refl _ _, h⟩

end Go.Proofs.Ytbkcnhnndaejiaa
