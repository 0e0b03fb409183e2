/-
  What the methods of octet's Reader return and how they change it.
-/
import Derived.Test.YtbkcnhnndaejiaaOctD
namespace Go.Proofs.Ytbkcnhnndaejiaa
open Go.RowKit
set_option linter.unusedVariables false
open Bil (bl)

theorem bcell {W w1 : World} (hb : Below W.heap.size W w1) : (∀ b o, b < W.heap.size → w1.cell? ⟨b, o, none⟩ = W.cell? ⟨b, o, none⟩) ∧ (∀ b o, b < W.heap.size → w1.frozen? ⟨b, o, none⟩ = W.frozen? ⟨b, o, none⟩) :=
  ⟨fun b o h => hb.cell (p := ⟨b, o, none⟩) h, fun b o h => hb.frozen (p := ⟨b, o, none⟩) h⟩

/-- what was there is as it was, but for block B -/
structure Only (B : Nat) (w w' : World) : Prop where
  os : w'.os = w.os
  tape : w'.tape = w.tape
  output : w'.output = w.output
  size : w.heap.size ≤ w'.heap.size
  block : ∀ k, k < w.heap.size → k ≠ B → w'.heap[k]? = w.heap[k]?
theorem Only.refl (B : Nat) (w : World) : Only B w w := ⟨rfl, rfl, rfl, Nat.le_refl _, fun _ _ _ => rfl⟩
theorem Only.trans {B : Nat} {a b c : World} (h : Only B a b) (k : Only B b c) : Only B a c :=
  ⟨k.os.trans h.os, k.tape.trans h.tape, k.output.trans h.output, Nat.le_trans h.size k.size, fun i h1 h2 => (k.block i (Nat.lt_of_lt_of_le h1 h.size) h2).trans (h.block i h1 h2)⟩
theorem Only.of_below {B : Nat} {w w' : World} (h : Below w.heap.size w w') : Only B w w' := ⟨h.os, h.tape, h.output, h.size, fun k h1 _ => h.block k h1⟩
theorem Only.below {B b : Nat} {w w' : World} (h : Only B w w') (hb : b ≤ B) (hs : b ≤ w.heap.size) : Below b w w' := ⟨h.os, h.tape, h.output, h.size, fun k hk => h.block k (by omega) (by omega)⟩
theorem Only.setCell {B : Nat} {w w' : World} (h : Only B w w') (o : Nat) (v : Value) : Only B w (w'.setCell ⟨B, o, none⟩ v) :=
  ⟨h.os, h.tape, h.output, by simpa [World.setCell] using h.size, fun k h1 h2 => (Below.heap_setCell w' ⟨B, o, none⟩ v k h2).trans (h.block k h1 h2)⟩
theorem Only.drew {B : Nat} {w w' : World} (h : Only B w w') : Only B w w'.drew := ⟨h.os, h.tape, h.output, h.size, h.block⟩
theorem Only.alloc {B : Nat} {w w' : World} (h : Only B w w') (o : Obj) : Only B w (w'.alloc o) :=
  ⟨h.os, h.tape, h.output, Nat.le_trans h.size (by show w'.heap.size ≤ (w'.heap.push _).size; simp), fun k h1 h2 => (Below.heap_alloc w' o k (Nat.lt_of_lt_of_le h1 h.size)).trans (h.block k h1 h2)⟩

/-- block B is a struct of a string and a number -/
def Rd (ty : TypeId) (w : World) (B : Nat) (s : ByteArray) (e : Int) : Prop := w.heap[B]? = some (.cells #[.string s, .int .i64 e] ty (0, 0))
theorem lt_block {w : World} {B : Nat} {o : Obj} (h : w.heap[B]? = some o) : B < w.heap.size := by
  rcases Nat.lt_or_ge B w.heap.size with h' | h'
  · exact h'
  · rw [Array.getElem?_eq_none h'] at h; cases h
theorem Rd.facts {ty : TypeId} {w : World} {B : Nat} {s : ByteArray} {e : Int} (h : Rd ty w B s e) : B < w.heap.size ∧ w.cell? ⟨B, 0, none⟩ = some (.string s) ∧ w.cell? ⟨B, 1, none⟩ = some (.int .i64 e) ∧ w.frozen? ⟨B, 0, none⟩ = false ∧ w.frozen? ⟨B, 1, none⟩ = false := by
  unfold Rd at h
  refine ⟨lt_block h, ?_, ?_, frozen_of_row _ _ _ _ _ h, frozen_of_row _ _ _ _ _ h⟩
  · rw [cell_of_row _ _ _ _ _ _ h]; rfl
  · rw [cell_of_row _ _ _ _ _ _ h]; rfl
theorem Rd.below {ty : TypeId} {w w' : World} {B b : Nat} {s : ByteArray} {e : Int} (h : Rd ty w B s e) (hb : Below b w w') (hB : B < b) : Rd ty w' B s e := (hb.block B hB).trans h
theorem Rd.only {ty : TypeId} {w w' : World} {B C : Nat} {s : ByteArray} {e : Int} (h : Rd ty w B s e) (hb : Only C w w') (hC : B ≠ C) : Rd ty w' B s e := (hb.block B (lt_block h) hC).trans h
theorem Rd.set0 {ty : TypeId} {w : World} {B : Nat} {s : ByteArray} {e : Int} (h : Rd ty w B s e) (s' : ByteArray) : Rd ty (w.setCell ⟨B, 0, none⟩ (.string s')) B s' e := by
  have := heap_setCell_same w B 0 _ _ (.string s') h
  exact this
theorem Rd.set1 {ty : TypeId} {w : World} {B : Nat} {s : ByteArray} {e : Int} (h : Rd ty w B s e) (e' : Int) : Rd ty (w.setCell ⟨B, 1, none⟩ (.int .i64 e')) B s e' := by
  have := heap_setCell_same w B 1 _ _ (.int .i64 e') h
  exact this

theorem Rd.alloc {ty : TypeId} {w : World} {B : Nat} {s : ByteArray} {e : Int} (h : Rd ty w B s e) (o : Obj) : Rd ty (w.alloc o) B s e := (Below.heap_alloc w o B (lt_block h)).trans h

/-- it returns r; of what was there only block B may have changed, and it holds s and e now -/
structure RetR (ty : TypeId) (B : Nat) (r : Value) (s : ByteArray) (e : Int) (w : World) (en : Ending) (w' : World) : Prop where
  ret : en = .returned r
  only : Only B w w'
  rd : Rd ty w' B s e

abbrev tO : TypeId := 69
abbrev tR : TypeId := 52

theorem octNumRd (B : Nat) (s : ByteArray) (e : Int) (w : World) (hs : s.size ≤ 140737488351232) (he : 0 ≤ e ∧ e ≤ 9) (h : Rd tO w B s e) :
    Calls Try.prog 27 #[.pointer (some ⟨B, 0, none⟩)] w
      (RetR tO B (.int .u64 ((Bil.rdS 0 s e (Bil.unchain (bl s))).1 : Nat)) (Bil.rdS 0 s e (Bil.unchain (bl s))).2.1 (Bil.rdS 0 s e (Bil.unchain (bl s))).2.2 w) := by
  obtain ⟨hB, c0, c1, f0, f1⟩ := h.facts
  by_cases h0 : e = 0
  · subst h0
    have hc := fun W => octUnchain s W (by omega)
    have hn := Bil.unchain_n (bl s)
    have hlt := Bil.unchain_lt (bl s)
    rw [Bil.bl_length] at hn
    have hbad := Bil.rdS_err 0 s (Bil.unchain (bl s))
    have hok := Bil.rdS_ok 0 s (Bil.unchain (bl s))
    have he2 := Bil.unchain_e (bl s)
    obtain ⟨r, HR⟩ : ∃ r, Hid (Bil.rdS 0 s 0 (Bil.unchain (bl s)) = r) := ⟨_, rfl⟩
    rw [HR.out] at hbad hok ⊢
    obtain ⟨v, n, e1, hu⟩ : ∃ v n e1, Bil.unchain (bl s) = (v, n, e1) := ⟨_, _, _, rfl⟩
    rw [hu] at hn hlt he2 hbad hok
    simp only [hu] at hc
    simp only at hn hlt he2 hbad hok
    clear HR hu
    obtain ⟨V, HV⟩ : ∃ V : Int, Hid (V = (v : Int)) := ⟨_, rfl⟩
    rw [← HV.out] at hc
    obtain ⟨hn1, hn2⟩ := hn
    have HC := Lib.hid hc; clear hc
    have HLT := Lib.hid hlt; clear hlt
    by_cases h1 : e1 = 0
    · subst h1
      have hr := hok rfl
      subst hr
      clear hok hbad
      go_enter Try.func27, Try.ntmps27
      go_wp2_with fail
      go_enter Try.func39, Try.ntmps39
      go_wp2_with (first | (go_at_call 13; (with_reducible refine (HC.out _).mono ?_); rintro e w1 ⟨rfl, rfl⟩))
      go_ret
      refine ⟨?_, (Only.refl B w).setCell 0 _, h.set0 _⟩
      rw [← HV.out]; rfl
    · have hr := hbad h1
      have hne : (e1 != 0) = true := bne_iff_ne.2 h1
      subst hr
      clear hok hbad h1
      go_enter Try.func27, Try.ntmps27
      go_wp2_with fail
      go_enter Try.func39, Try.ntmps39
      go_wp2_with (first | (go_at_call 13; (with_reducible refine (HC.out _).mono ?_); rintro e w1 ⟨rfl, rfl⟩))
      go_ret
      exact ⟨rfl, (Only.refl B w).setCell 1 _, h.set1 _⟩
  · rw [Bil.rdS_bad _ _ _ _ h0]
    have hne : (e != 0) = true := bne_iff_ne.2 h0
    go_enter Try.func27, Try.ntmps27
    go_wp2_with fail
    go_enter Try.func39, Try.ntmps39
    go_wp2
    go_ret
    exact ⟨rfl, Only.refl _ _, h⟩
theorem octIntRd (B : Nat) (s : ByteArray) (e m : Int) (w : World) (hs : s.size ≤ 140737488351232) (he : 0 ≤ e ∧ e ≤ 9) (hm0 : -9223372036854775808 ≤ m) (hm1 : m ≤ 9223372036854775807) (h : Rd tO w B s e) :
    Calls Try.prog 28 #[.pointer (some ⟨B, 0, none⟩), .int .i64 m] w
      (RetR tO B (.int .i64 ((Bil.rdS 0 s e (Bil.intD m (bl s))).1 : Nat)) (Bil.rdS 0 s e (Bil.intD m (bl s))).2.1 (Bil.rdS 0 s e (Bil.intD m (bl s))).2.2 w) := by
  obtain ⟨hB, c0, c1, f0, f1⟩ := h.facts
  by_cases h0 : e = 0
  · subst h0
    have hc := fun W => octUnchain s W (by omega)
    have hn := Bil.unchain_n (bl s)
    have hlt := Bil.unchain_lt (bl s)
    rw [Bil.bl_length] at hn
    have hbad := Bil.rdS_err 0 s (Bil.intD m (bl s))
    have hok := Bil.rdS_ok 0 s (Bil.intD m (bl s))
    have he2 := Bil.unchain_e (bl s)
    have hD : Bil.intD m (bl s) = if (Bil.unchain (bl s)).2.2 ≠ 0 then (0, 0, (Bil.unchain (bl s)).2.2) else if Bil.aboveB (Bil.unchain (bl s)).1 m = true then (0, 0, 4) else Bil.unchain (bl s) := by unfold Bil.intD; rfl
    obtain ⟨r, HR⟩ : ∃ r, Hid (Bil.rdS 0 s 0 (Bil.intD m (bl s)) = r) := ⟨_, rfl⟩
    rw [HR.out] at hbad hok ⊢
    rw [hD] at hbad hok
    obtain ⟨v, n, e1, hu⟩ : ∃ v n e1, Bil.unchain (bl s) = (v, n, e1) := ⟨_, _, _, rfl⟩
    rw [hu] at hn hlt he2 hbad hok
    simp only [hu] at hc
    simp only at hn hlt he2 hbad hok
    clear HR hu hD
    obtain ⟨V, HV⟩ : ∃ V : Int, Hid (V = (v : Int)) := ⟨_, rfl⟩
    have hV0 : 0 ≤ V := by rw [HV.out]; omega
    have hV1 : V < 18446744073709551616 := by rw [HV.out]; omega
    rw [← HV.out] at hc hbad hok
    obtain ⟨hn1, hn2⟩ := hn
    have HC := Lib.hid hc; clear hc
    have HLT := Lib.hid hlt; clear hlt
    by_cases h1 : e1 = 0
    · subst h1
      simp only [ne_eq, not_true_eq_false, if_false] at hbad hok
      by_cases hab : Bil.aboveB V m = true
      · simp only [hab, if_true] at hbad
        have hr := hbad (by omega)
        subst hr
        clear hok hbad
        go_enter Try.func28, Try.ntmps28
        go_wp2_with fail
        go_enter Try.func40, Try.ntmps40
        go_wp2_with fail
        go_enter Try.func41, Try.ntmps41
        go_wp2_with (first | (go_at_call 13; (with_reducible refine (HC.out _).mono ?_); rintro e w1 ⟨rfl, rfl⟩) | (go_at_call 33; refine (octAbove V m _ hV0 hV1 hm1 hm0).mono ?_; rintro e w' ⟨rfl, rfl⟩))
        go_ret
        exact ⟨rfl, ((Only.refl B w).setCell 1 _).alloc _, (h.set1 _).alloc _⟩
      · have hab' : Bil.aboveB V m = false := by simpa using hab
        have hVm : V ≤ m := by
          unfold Bil.aboveB at hab'
          have := of_decide_eq_false hab'
          omega
        simp only [hab', if_false, Bool.false_eq_true] at hok
        have hr := hok trivial
        subst hr
        clear hok hbad hab
        go_enter Try.func28, Try.ntmps28
        go_wp2_with fail
        go_enter Try.func40, Try.ntmps40
        go_wp2_with fail
        go_enter Try.func41, Try.ntmps41
        go_wp2_with (first | (go_at_call 13; (with_reducible refine (HC.out _).mono ?_); rintro e w1 ⟨rfl, rfl⟩) | (go_at_call 33; refine (octAbove V m _ hV0 hV1 hm1 hm0).mono ?_; rintro e w' ⟨rfl, rfl⟩))
        go_ret
        refine ⟨?_, ((Only.refl B w).setCell 0 _).alloc _, (h.set0 _).alloc _⟩
        rw [← HV.out]; rfl
    · simp only [ne_eq, h1, not_false_eq_true, if_true] at hbad
      have hr := hbad trivial
      have hne : (e1 != 0) = true := bne_iff_ne.2 h1
      have hne2 : (e1 == 0) = false := beq_eq_false_iff_ne.2 h1
      subst hr
      clear hok hbad h1
      go_enter Try.func28, Try.ntmps28
      go_wp2_with fail
      go_enter Try.func40, Try.ntmps40
      go_wp2_with fail
      go_enter Try.func41, Try.ntmps41
      go_wp2_with (first | (go_at_call 13; (with_reducible refine (HC.out _).mono ?_); rintro e w1 ⟨rfl, rfl⟩))
      go_ret
      exact ⟨rfl, ((Only.refl B w).setCell 1 _).alloc _, (h.set1 _).alloc _⟩
  · rw [Bil.rdS_bad _ _ _ _ h0]
    have hne : (e != 0) = true := bne_iff_ne.2 h0
    go_enter Try.func28, Try.ntmps28
    go_wp2_with fail
    go_enter Try.func40, Try.ntmps40
    go_wp2
    go_ret
    exact ⟨rfl, (Only.refl _ _).alloc _, h.alloc _⟩

theorem octFlagRd (B : Nat) (s : ByteArray) (e : Int) (w : World) (hs : s.size ≤ 140737488351232) (he : 0 ≤ e ∧ e ≤ 9) (h : Rd tO w B s e) :
    Calls Try.prog 30 #[.pointer (some ⟨B, 0, none⟩)] w
      (RetR tO B (.bool (Bil.rdS false s e (Bil.flagD (bl s))).1) (Bil.rdS false s e (Bil.flagD (bl s))).2.1 (Bil.rdS false s e (Bil.flagD (bl s))).2.2 w) := by
  obtain ⟨hB, c0, c1, f0, f1⟩ := h.facts
  by_cases h0 : e = 0
  · subst h0
    have hc := fun W => octUnchain s W (by omega)
    have hn := Bil.unchain_n (bl s)
    have hlt := Bil.unchain_lt (bl s)
    rw [Bil.bl_length] at hn
    have hbad := Bil.rdS_err false s (Bil.flagD (bl s))
    have hok := Bil.rdS_ok false s (Bil.flagD (bl s))
    have he2 := Bil.unchain_e (bl s)
    have hD : Bil.flagD (bl s) = if (Bil.unchain (bl s)).2.2 ≠ 0 then (false, 0, (Bil.unchain (bl s)).2.2) else if 1 < (Bil.unchain (bl s)).1 then (false, 0, 3) else ((Bil.unchain (bl s)).1 == 1, (Bil.unchain (bl s)).2.1, 0) := by unfold Bil.flagD; rfl
    obtain ⟨r, HR⟩ : ∃ r, Hid (Bil.rdS false s 0 (Bil.flagD (bl s)) = r) := ⟨_, rfl⟩
    rw [HR.out] at hbad hok ⊢
    rw [hD] at hbad hok
    obtain ⟨v, n, e1, hu⟩ : ∃ v n e1, Bil.unchain (bl s) = (v, n, e1) := ⟨_, _, _, rfl⟩
    rw [hu] at hn hlt he2 hbad hok
    simp only [hu] at hc
    simp only at hn hlt he2 hbad hok
    clear HR hu hD
    obtain ⟨V, HV⟩ : ∃ V : Int, Hid (V = (v : Int)) := ⟨_, rfl⟩
    have hV0 : 0 ≤ V := by rw [HV.out]; omega
    have hV1 : V < 18446744073709551616 := by rw [HV.out]; omega
    rw [← HV.out] at hc
    obtain ⟨hn1, hn2⟩ := hn
    have HC := Lib.hid hc; clear hc
    have HLT := Lib.hid hlt; clear hlt
    by_cases h1 : e1 = 0
    · subst h1
      simp only [ne_eq, not_true_eq_false, if_false] at hbad hok
      by_cases hab : 1 < v
      · simp only [hab, if_true] at hbad
        have hab' : (1 : Int) < V := by rw [HV.out]; omega
        have hr := hbad (by omega)
        subst hr
        clear hok hbad
        go_enter Try.func30, Try.ntmps30
        go_wp2_with fail
        go_enter Try.func44, Try.ntmps44
        go_wp2_with fail
        go_enter Try.func45, Try.ntmps45
        go_wp2_with (first | (go_at_call 13; (with_reducible refine (HC.out _).mono ?_); rintro e w1 ⟨rfl, rfl⟩))
        go_ret
        exact ⟨rfl, (Only.refl B w).setCell 1 _, h.set1 _⟩
      · have hab' : ¬ (1 : Int) < V := by rw [HV.out]; omega
        simp only [hab, if_false] at hok
        have hr := hok trivial
        subst hr
        have HQ : Hid ((v == 1) = (V == 1)) := by
          show _ = _
          rw [HV.out, Bool.eq_iff_iff]; simp; omega
        clear hok hbad hab
        go_enter Try.func30, Try.ntmps30
        go_wp2_with fail
        go_enter Try.func44, Try.ntmps44
        go_wp2_with fail
        go_enter Try.func45, Try.ntmps45
        go_wp2_with (first | (go_at_call 13; (with_reducible refine (HC.out _).mono ?_); rintro e w1 ⟨rfl, rfl⟩))
        go_ret
        refine ⟨?_, (Only.refl B w).setCell 0 _, h.set0 _⟩
        rw [HQ.out]; rfl
    · simp only [ne_eq, h1, not_false_eq_true, if_true] at hbad
      have hr := hbad trivial
      have hne : (e1 != 0) = true := bne_iff_ne.2 h1
      have hne2 : (e1 == 0) = false := beq_eq_false_iff_ne.2 h1
      subst hr
      clear hok hbad h1
      go_enter Try.func30, Try.ntmps30
      go_wp2_with fail
      go_enter Try.func44, Try.ntmps44
      go_wp2_with fail
      go_enter Try.func45, Try.ntmps45
      go_wp2_with (first | (go_at_call 13; (with_reducible refine (HC.out _).mono ?_); rintro e w1 ⟨rfl, rfl⟩))
      go_ret
      exact ⟨rfl, (Only.refl B w).setCell 1 _, h.set1 _⟩
  · rw [Bil.rdS_bad _ _ _ _ h0]
    have hne : (e != 0) = true := bne_iff_ne.2 h0
    go_enter Try.func30, Try.ntmps30
    go_wp2_with fail
    go_enter Try.func44, Try.ntmps44
    go_wp2
    go_ret
    exact ⟨rfl, Only.refl _ _, h⟩


theorem octStrRd (B : Nat) (s : ByteArray) (e m : Int) (w : World) (hs : s.size ≤ 140737488351232) (he : 0 ≤ e ∧ e ≤ 9) (hm0 : -9223372036854775808 ≤ m) (hm1 : m ≤ 9223372036854775807) (h : Rd tO w B s e) :
    Calls Try.prog 29 #[.pointer (some ⟨B, 0, none⟩), .int .i64 m] w
      (RetR tO B (.string ⟨(Bil.rdS [] s e (Bil.strD m (bl s))).1.toArray⟩) (Bil.rdS [] s e (Bil.strD m (bl s))).2.1 (Bil.rdS [] s e (Bil.strD m (bl s))).2.2 w) := by
  obtain ⟨hB, c0, c1, f0, f1⟩ := h.facts
  by_cases h0 : e = 0
  · subst h0
    have hc := fun W => octUntext s m W hs hm0 hm1
    have hn := Bil.untext_n (bl s) m
    rw [Bil.bl_length] at hn
    have hbad := Bil.rdS_err [] s (Bil.strD m (bl s))
    have hok := Bil.rdS_ok [] s (Bil.strD m (bl s))
    have he2 := Bil.untext_e (bl s) m
    have hD : Bil.strD m (bl s) = ((Bil.untext (bl s) m).1, (Bil.untext (bl s) m).2.1.toNat, (Bil.untext (bl s) m).2.2) := by unfold Bil.strD; rfl
    obtain ⟨r, HR⟩ : ∃ r, Hid (Bil.rdS [] s 0 (Bil.strD m (bl s)) = r) := ⟨_, rfl⟩
    rw [HR.out] at hbad hok ⊢
    rw [hD] at hbad hok
    obtain ⟨a, n, e1, hu⟩ : ∃ a n e1, Bil.untext (bl s) m = (a, n, e1) := ⟨_, _, _, rfl⟩
    rw [hu] at hn he2 hbad hok
    simp only [hu] at hc
    simp only at hn he2 hbad hok
    clear HR hu hD
    obtain ⟨hn0, hn1, hn2⟩ := hn
    have HC := Lib.hid hc; clear hc
    have HH := Lib.hid h; clear h
    by_cases h1 : e1 = 0
    · subst h1
      have hr := hok rfl
      subst hr
      clear hok hbad
      go_enter Try.func29, Try.ntmps29
      go_wp2_with fail
      go_enter Try.func42, Try.ntmps42
      go_wp2_with fail
      go_enter Try.func43, Try.ntmps43
      go_wp2_with (go_at_call 17; (with_reducible refine (HC.out _).mono ?_); rintro e w1 ⟨rfl, hbx⟩; have hR1 := (HH.out.alloc (.cells #[.int .i64 m] 3)).below hbx (Nat.lt_of_lt_of_le hB (by show w.heap.size ≤ (w.heap.push _).size; simp)); obtain ⟨hB1, d0, d1, g0, g1⟩ := hR1.facts; have HR1 := Lib.hid hR1; clear hR1; have HB1 := Lib.hid hbx; clear hbx)
      go_ret
      exact ⟨rfl, (((Only.refl B w).alloc _).trans (Only.of_below HB1.out)).setCell 0 _, HR1.out.set0 _⟩
    · have hr := hbad h1
      have hne : (e1 != 0) = true := bne_iff_ne.2 h1
      subst hr
      clear hok hbad h1
      go_enter Try.func29, Try.ntmps29
      go_wp2_with fail
      go_enter Try.func42, Try.ntmps42
      go_wp2_with fail
      go_enter Try.func43, Try.ntmps43
      go_wp2_with (go_at_call 17; (with_reducible refine (HC.out _).mono ?_); rintro e w1 ⟨rfl, hbx⟩; have hR1 := (HH.out.alloc (.cells #[.int .i64 m] 3)).below hbx (Nat.lt_of_lt_of_le hB (by show w.heap.size ≤ (w.heap.push _).size; simp)); obtain ⟨hB1, d0, d1, g0, g1⟩ := hR1.facts; have HR1 := Lib.hid hR1; clear hR1; have HB1 := Lib.hid hbx; clear hbx)
      go_ret
      exact ⟨rfl, (((Only.refl B w).alloc _).trans (Only.of_below HB1.out)).setCell 1 _, HR1.out.set1 _⟩
  · rw [Bil.rdS_bad _ _ _ _ h0]
    have hne : (e != 0) = true := bne_iff_ne.2 h0
    go_enter Try.func29, Try.ntmps29
    go_wp2_with fail
    go_enter Try.func42, Try.ntmps42
    go_wp2
    go_ret
    exact ⟨rfl, (Only.refl _ _).alloc _, h.alloc _⟩

end Go.Proofs.Ytbkcnhnndaejiaa
