/-
  What the functions of layer 1 (octet) return: encoded strings; the examples of the page.
-/
import Derived.Test.YtbkcnhnndaejiaaOctB
import Derived.Test.YtbkcnhnndaejiaaOctC
namespace Go.Proofs.Ytbkcnhnndaejiaa
open Go.RowKit
set_option linter.unusedVariables false
open Bil (bl)

theorem cloneOk (s : ByteArray) (w : World) (hs : s.size ≤ 281474976710656) :
    Calls Try.prog 34 #[.string s] w (Ret (.string s) w) := by
  go_enter Try.func34, Try.ntmps34
  go_wp2_with (go_at_call 46; refine (Try.stringslite_Clone s _ hs).mono ?_; rintro e w' ⟨rfl, hb⟩)
  go_ret
  exact ⟨rfl, hb⟩

theorem octText (s : ByteArray) (w : World) (hs : s.size ≤ 140737488351232) :
    Calls Try.prog 19 #[.string s] w (Ret (.string ⟨(Bil.text (bl s)).toArray⟩) w) := by
  have hc10 := Bil.chain_length_10 s.size (by omega)
  have HE : Hid (Value.string ({ data := (Bil.chain s.size).toArray } ++ s) = .string ⟨(Bil.text (bl s)).toArray⟩) := by
    show _ = _
    have : s = ⟨(bl s).toArray⟩ := (Bil.mk_bl s).symm
    rw [Bil.text, Bil.bl_length]
    conv => lhs; rw [this, ByteArray.mk_append_mk, ← this]
  go_enter Try.func19, Try.ntmps19
  go_wp2_with (go_at_call 15; refine (octChain _ _ (by omega) (by omega)).mono ?_; rw [Int.toNat_natCast]; rintro e w' ⟨rfl, hb⟩)
  go_ret
  exact ⟨congrArg Ending.returned HE.out, hb⟩

theorem refText (s : ByteArray) (w : World) (hs : s.size ≤ 140737488351232) :
    Calls Try.prog 20 #[.string s] w (Ret (.string ⟨(Bil.text (bl s)).toArray⟩) w) := by
  have hc10 := Bil.chain_length_10 s.size (by omega)
  have HE : Hid (Value.string ({ data := (Bil.chain s.size).toArray } ++ s) = .string ⟨(Bil.text (bl s)).toArray⟩) := by
    show _ = _
    have : s = ⟨(bl s).toArray⟩ := (Bil.mk_bl s).symm
    rw [Bil.text, Bil.bl_length]
    conv => lhs; rw [this, ByteArray.mk_append_mk, ← this]
  go_enter Try.func20, Try.ntmps20
  go_wp2_with (go_at_call 16; refine (refChain _ _ (by omega) (by omega)).mono ?_; rw [Int.toNat_natCast]; rintro e w' ⟨rfl, hb⟩)
  go_ret
  exact ⟨congrArg Ending.returned HE.out, hb⟩

set_option maxHeartbeats 400000 in
theorem octUntext (s : ByteArray) (m : Int) (w : World) (hs : s.size ≤ 140737488351232) (hm0 : -9223372036854775808 ≤ m) (hm1 : m ≤ 9223372036854775807) :
    Calls Try.prog 17 #[.string s, .int .i64 m] w (Ret (.tuple #[.string ⟨(Bil.untext (bl s) m).1.toArray⟩, .int .i64 (Bil.untext (bl s) m).2.1, .int .i64 (Bil.untext (bl s) m).2.2]) w) := by
  have hc := octUnchain s w (by omega)
  have hlt := Bil.unchain_lt (bl s)
  have hnn := Bil.unchain_n (bl s)
  have HU : Hid (∀ v n e, Bil.unchain (bl s) = (v, n, e) → Bil.untext (bl s) m = if e ≠ 0 then ([], 0, e) else if m < 0 ∨ m < (v : Int) then ([], 0, 4) else if s.size - n < v then ([], 0, 2) else (((bl s).drop n).take v, ((n + v : Nat) : Int), 0)) := by
    show ∀ _, _
    intro v n e h
    unfold Bil.untext
    rw [h, Bil.bl_length]
  rw [Bil.bl_length] at hnn
  obtain ⟨v, n, e, hu⟩ : ∃ v n e, Bil.unchain (bl s) = (v, n, e) := ⟨_, _, _, rfl⟩
  rw [hu] at hc hlt hnn
  have HE : Hid (Bil.untext (bl s) m = if e ≠ 0 then ([], 0, e) else if m < 0 ∨ m < (v : Int) then ([], 0, 4) else if s.size - n < v then ([], 0, 2) else (((bl s).drop n).take v, ((n + v : Nat) : Int), 0)) := HU.out v n e hu
  clear HU hu
  simp only at hc hlt hnn
  obtain ⟨hn1, hn2⟩ := hnn
  obtain ⟨V, HV⟩ : ∃ V : Int, Hid (V = (v : Int)) := ⟨_, rfl⟩
  have hV0 : 0 ≤ V := by rw [HV.out]; omega
  have hV1 : V < 18446744073709551616 := by rw [HV.out]; omega
  rw [← HV.out] at hc
  have HC := Lib.hid hc; clear hc
  have HLT := Lib.hid hlt; clear hlt
  by_cases he : e = 0
  · subst he
    by_cases hab : m < 0 ∨ m < V
    · have HF : Hid (Bil.untext (bl s) m = ([], 0, 4)) := by show _ = _; rw [HE.out, if_neg (by omega), if_pos (by rw [← HV.out]; exact hab)]
      have hB : Bil.aboveB V m = true := by unfold Bil.aboveB; exact decide_eq_true hab
      clear hab
      go_enter Try.func17, Try.ntmps17
      go_wp2_with (first | (go_at_call 13; refine HC.out.mono ?_; rintro e w' ⟨rfl, rfl⟩) | (go_at_call 33; refine (octAbove V m _ hV0 hV1 hm1 hm0).mono ?_; rintro e w' ⟨rfl, rfl⟩))
      go_ret3
      refine ⟨?_, Below.refl _ _⟩
      rw [HF.out]; rfl
    · have hB : Bil.aboveB V m = false := by unfold Bil.aboveB; exact decide_eq_false hab
      have hVm : V ≤ m := by omega
      clear hab
      by_cases hsh : (s.size : Int) - n < V
      · have HF : Hid (Bil.untext (bl s) m = ([], 0, 2)) := by show _ = _; rw [HE.out, if_neg (by omega), if_neg (by rw [← HV.out]; omega), if_pos (by have := HV.out; omega)]
        go_enter Try.func17, Try.ntmps17
        go_wp2_with (first | (go_at_call 13; refine HC.out.mono ?_; rintro e w' ⟨rfl, rfl⟩) | (go_at_call 33; refine (octAbove V m _ hV0 hV1 hm1 hm0).mono ?_; rintro e w' ⟨rfl, rfl⟩))
        go_ret3
        refine ⟨?_, Below.refl _ _⟩
        rw [HF.out]; rfl
      · have HF : Hid (Bil.untext (bl s) m = (((bl s).drop n).take v, ((n + v : Nat) : Int), 0)) := by show _ = _; rw [HE.out, if_neg (by omega), if_neg (by rw [← HV.out]; omega), if_neg (by have := HV.out; omega)]
        go_enter Try.func17, Try.ntmps17
        go_wp2_with (first | (go_at_call 13; refine HC.out.mono ?_; rintro e w' ⟨rfl, rfl⟩) | (go_at_call 33; refine (octAbove V m _ hV0 hV1 hm1 hm0).mono ?_; rintro e w' ⟨rfl, rfl⟩))
        refine (cloneOk _ _ (by rw [ByteArray.size_extract]; omega)).mono ?_
        rintro e w' ⟨rfl, hb⟩
        go_wp2
        go_ret3
        refine ⟨?_, hb⟩
        have e1 : ((n : Int) + V).toNat - n = v := by have := HV.out; omega
        have e2 : (n : Int) + V = ((n + v : Nat) : Int) := by have := HV.out; omega
        rw [HF.out, Bil.extract_bl, e1, e2]; rfl
  · have HF : Hid (Bil.untext (bl s) m = ([], 0, e)) := by show _ = _; rw [HE.out, if_pos he]
    have hne : (e != 0) = true := by rw [bne_iff_ne]; exact he
    go_enter Try.func17, Try.ntmps17
    go_wp2_with (go_at_call 13; refine HC.out.mono ?_; rintro e w' ⟨rfl, rfl⟩)
    go_ret3
    refine ⟨?_, Below.refl _ _⟩
    rw [HF.out]; rfl

set_option maxHeartbeats 400000 in
theorem refUntext (s : ByteArray) (m : Int) (w : World) (hs : s.size ≤ 140737488351232) (hm0 : -9223372036854775808 ≤ m) (hm1 : m ≤ 9223372036854775807) :
    Calls Try.prog 18 #[.string s, .int .i64 m] w (Ret (.tuple #[.string ⟨(Bil.untext (bl s) m).1.toArray⟩, .int .i64 (Bil.untext (bl s) m).2.1, .int .i64 (Bil.untext (bl s) m).2.2]) w) := by
  have hc := refUnchain s w (by omega)
  have hlt := Bil.unchain_lt (bl s)
  have hnn := Bil.unchain_n (bl s)
  have HU : Hid (∀ v n e, Bil.unchain (bl s) = (v, n, e) → Bil.untext (bl s) m = if e ≠ 0 then ([], 0, e) else if m < 0 ∨ m < (v : Int) then ([], 0, 4) else if s.size - n < v then ([], 0, 2) else (((bl s).drop n).take v, ((n + v : Nat) : Int), 0)) := by
    show ∀ _, _
    intro v n e h
    unfold Bil.untext
    rw [h, Bil.bl_length]
  rw [Bil.bl_length] at hnn
  obtain ⟨v, n, e, hu⟩ : ∃ v n e, Bil.unchain (bl s) = (v, n, e) := ⟨_, _, _, rfl⟩
  rw [hu] at hc hlt hnn
  have HE : Hid (Bil.untext (bl s) m = if e ≠ 0 then ([], 0, e) else if m < 0 ∨ m < (v : Int) then ([], 0, 4) else if s.size - n < v then ([], 0, 2) else (((bl s).drop n).take v, ((n + v : Nat) : Int), 0)) := HU.out v n e hu
  clear HU hu
  simp only at hc hlt hnn
  obtain ⟨hn1, hn2⟩ := hnn
  obtain ⟨V, HV⟩ : ∃ V : Int, Hid (V = (v : Int)) := ⟨_, rfl⟩
  have hV0 : 0 ≤ V := by rw [HV.out]; omega
  have hV1 : V < 18446744073709551616 := by rw [HV.out]; omega
  rw [← HV.out] at hc
  have HC := Lib.hid hc; clear hc
  have HLT := Lib.hid hlt; clear hlt
  by_cases he : e = 0
  · subst he
    by_cases hm : m < 0
    · have HF : Hid (Bil.untext (bl s) m = ([], 0, 4)) := by show _ = _; rw [HE.out, if_neg (by omega), if_pos (.inl hm)]
      go_enter Try.func18, Try.ntmps18
      go_wp2_with (go_at_call 14; refine HC.out.mono ?_; rintro e w' ⟨rfl, rfl⟩)
      go_ret3
      refine ⟨?_, Below.refl _ _⟩
      rw [HF.out]; rfl
    · have hd0 : decide (m < 0) = false := by simpa using hm
      have hm2 : 0 ≤ m := by omega
      clear hm hm0
      by_cases hmv : m < V
      · have HF : Hid (Bil.untext (bl s) m = ([], 0, 4)) := by show _ = _; rw [HE.out, if_neg (by omega), if_pos (.inr (by rw [← HV.out]; exact hmv))]
        go_enter Try.func18, Try.ntmps18
        go_wp2_with (go_at_call 14; refine HC.out.mono ?_; rintro e w' ⟨rfl, rfl⟩)
        go_ret3
        refine ⟨?_, Below.refl _ _⟩
        rw [HF.out]; rfl
      · have hVm : V ≤ m := by omega
        have hdv : decide (m < V) = false := by simpa using hVm
        clear hmv
        by_cases hsh : (s.size : Int) - n < V
        · have HF : Hid (Bil.untext (bl s) m = ([], 0, 2)) := by show _ = _; rw [HE.out, if_neg (by omega), if_neg (by rw [← HV.out]; omega), if_pos (by have := HV.out; omega)]
          go_enter Try.func18, Try.ntmps18
          go_wp2_with (go_at_call 14; refine HC.out.mono ?_; rintro e w' ⟨rfl, rfl⟩)
          go_ret3
          refine ⟨?_, Below.refl _ _⟩
          rw [HF.out]; rfl
        · have HF : Hid (Bil.untext (bl s) m = (((bl s).drop n).take v, ((n + v : Nat) : Int), 0)) := by show _ = _; rw [HE.out, if_neg (by omega), if_neg (by rw [← HV.out]; omega), if_neg (by have := HV.out; omega)]
          go_enter Try.func18, Try.ntmps18
          go_wp2_with (go_at_call 14; refine HC.out.mono ?_; rintro e w' ⟨rfl, rfl⟩)
          go_ret3
          refine ⟨?_, Below.refl _ _⟩
          have e1 : ((n : Int) + V).toNat - n = v := by have := HV.out; omega
          have e2 : (n : Int) + V = ((n + v : Nat) : Int) := by have := HV.out; omega
          rw [HF.out, Bil.extract_bl, e1, e2]; rfl
  · have HF : Hid (Bil.untext (bl s) m = ([], 0, e)) := by show _ = _; rw [HE.out, if_pos he]
    have hne : (e != 0) = true := by rw [bne_iff_ne]; exact he
    go_enter Try.func18, Try.ntmps18
    go_wp2_with (go_at_call 14; refine HC.out.mono ?_; rintro e w' ⟨rfl, rfl⟩)
    go_ret3
    refine ⟨?_, Below.refl _ _⟩
    rw [HF.out]; rfl

theorem numOk (x : Int) (w : World) (h : 0 ≤ x ∧ x ≤ 9) : Calls Try.prog 11 #[.int .i64 x] w (Same (.int .i64 x) w) := by
  go_enter Try.func11, Try.ntmps11
  go_wp2
  go_ret
  exact ⟨rfl, rfl⟩

theorem liveOk (w : World) : Calls Try.prog 12 #[] w (Ret (.bool true) w) := by
  have h1 := octUntext ⟨#[2, 97, 98, 99]⟩ 9 w (by decide) (by omega) (by omega)
  have e1 : bl ⟨#[2, 97, 98, 99]⟩ = [2, 97, 98, 99] := rfl
  rw [e1, Bil.untext_live] at h1
  have h2 := fun W => octChain 300 W (by omega) (by omega)
  have e2 : (300 : Int).toNat = 300 := rfl
  rw [e2, Bil.chain300] at h2
  clear e1 e2
  have H1 := Lib.hid h1; clear h1
  have H2 := Lib.hid h2; clear h2
  go_enter Try.func12, Try.ntmps12
  go_wp2_with (first | (go_at_call 17; refine H1.out.mono ?_; rintro e w1 ⟨rfl, hb1⟩) | (go_at_call 15; refine (H2.out _).mono ?_; rintro e w2 ⟨rfl, hb2⟩) | (go_at_call 11; refine (numOk _ _ (by omega)).mono ?_; rintro e w' ⟨rfl, rfl⟩))
  go_ret
  exact ⟨rfl, hb1.trans (hb2.mono hb1.size)⟩

end Go.Proofs.Ytbkcnhnndaejiaa
