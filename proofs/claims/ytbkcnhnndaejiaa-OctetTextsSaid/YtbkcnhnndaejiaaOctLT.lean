/-
  The law OctetTexts, walked.
-/
import Derived.Test.YtbkcnhnndaejiaaOctL
namespace Go.Proofs.Ytbkcnhnndaejiaa
open Go.RowKit
set_option linter.unusedVariables false
open Bil (bl)

theorem str_bl (s : ByteArray) : Value.string ⟨(bl s).toArray⟩ = .string s := by rw [Bil.mk_bl]

set_option maxRecDepth 100000 in
set_option maxHeartbeats 1000000 in
theorem octetTexts_walk (s : ByteArray) (m : Int) (t : ByteArray) (w : World) (w0 : s.size ≤ maxLen) (w1 : (Lit.int .i64 m).wf = true) (w2 : t.size ≤ maxLen) :
    Calls Try.prog 5 #[.string s, .int .i64 m, .string t] w (Ret (.bool true) w) := by
  obtain ⟨hm0, hm1⟩ := wf_i64 w1
  have hs := len_max w0
  have ht := len_max w2
  clear w0 w1 w2
  by_cases hs1 : 1000 < s.size
  · go_enter Try.func5, Try.ntmps5
    go_wp2_with (go_at_call 12; (with_reducible refine (liveOk _).mono ?_); rintro e w3 ⟨rfl, hb3⟩)
    go_ret
    exact ⟨rfl, hb3⟩
  · by_cases ht1 : 1000 < t.size
    · go_enter Try.func5, Try.ntmps5
      go_wp2_with (go_at_call 12; (with_reducible refine (liveOk _).mono ?_); rintro e w3 ⟨rfl, hb3⟩)
      go_ret
      exact ⟨rfl, hb3⟩
    · have hs2 : s.size ≤ 1000 := by omega
      have ht2 : t.size ≤ 1000 := by omega
      clear hs1 ht1 hs ht
      have he := Bil.untext_e (bl s) m
      have htl := Bil.text_length (bl t) (by rw [Bil.bl_length]; omega)
      rw [Bil.bl_length] at htl
      have c1 := fun W => octUntext s m W (by omega) hm0 hm1
      have c2 := fun W => refUntext s m W (by omega) hm0 hm1
      have c3 := fun W => octText t W (by omega)
      have c4 := fun W => refText t W (by omega)
      have c5 := fun W => octUntext (⟨(Bil.text (bl t)).toArray⟩ ++ s) t.size W (by simp [Bil.size_mk]; omega) (by omega) (by omega)
      have e5 := Bil.untext_text (bl t) (bl s) (by rw [Bil.bl_length]; omega)
      rw [Bil.bl_length] at e5
      have e6 : Bil.untext (bl (⟨(Bil.text (bl t)).toArray⟩ ++ s)) t.size = (bl t, ((Bil.text (bl t)).length : Int), 0) := by
        rw [Bil.bl_append, Bil.bl_mk (Bil.text (bl t)), e5]
      simp only [e6, str_bl] at c5
      clear e5 e6
      obtain ⟨a, n, e, hu⟩ : ∃ a n e, Bil.untext (bl s) m = (a, n, e) := ⟨_, _, _, rfl⟩
      rw [hu] at he
      simp only [hu] at c1 c2
      simp only at he
      clear hu
      obtain ⟨T, HT⟩ : ∃ T, Hid (T = Bil.text (bl t)) := ⟨_, rfl⟩
      rw [← HT.out] at c3 c4 c5 htl
      have C1 := Lib.hid c1; clear c1
      have C2 := Lib.hid c2; clear c2
      have C3 := Lib.hid c3; clear c3
      have C4 := Lib.hid c4; clear c4
      have C5 := Lib.hid c5; clear c5
      have hb := Below.refl w.heap.size w
      go_enter Try.func5, Try.ntmps5
      go_wp2_with (first | (go_at_call 17; (with_reducible refine (C1.out _).mono ?_); rintro e w1 ⟨rfl, hbx⟩; (first | replace hb := hb.trans (hbx.mono hb.size) | replace hb := hb.drew.trans (hbx.mono hb.size)); clear hbx) | (go_at_call 17; (with_reducible refine (C5.out _).mono ?_); rintro e w1 ⟨rfl, hbx⟩; (first | replace hb := hb.trans (hbx.mono hb.size) | replace hb := hb.drew.trans (hbx.mono hb.size)); clear hbx) | (go_at_call 18; (with_reducible refine (C2.out _).mono ?_); rintro e w1 ⟨rfl, hbx⟩; (first | replace hb := hb.trans (hbx.mono hb.size) | replace hb := hb.drew.trans (hbx.mono hb.size)); clear hbx) | (go_at_call 19; (with_reducible refine (C3.out _).mono ?_); rintro e w1 ⟨rfl, hbx⟩; (first | replace hb := hb.trans (hbx.mono hb.size) | replace hb := hb.drew.trans (hbx.mono hb.size)); clear hbx) | (go_at_call 20; (with_reducible refine (C4.out _).mono ?_); rintro e w1 ⟨rfl, hbx⟩; (first | replace hb := hb.trans (hbx.mono hb.size) | replace hb := hb.drew.trans (hbx.mono hb.size)); clear hbx) | (go_at_call 12; (with_reducible refine (liveOk _).mono ?_); rintro e w1 ⟨rfl, hbx⟩; (first | replace hb := hb.trans (hbx.mono hb.size) | replace hb := hb.drew.trans (hbx.mono hb.size)); clear hbx) | (go_at_call 11; (with_reducible refine (numOk _ _ (by omega)).mono ?_); rintro e w1 ⟨rfl, rfl⟩))
      go_ret
      exact ⟨rfl, hb⟩
end Go.Proofs.Ytbkcnhnndaejiaa
