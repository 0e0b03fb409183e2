/-
  The law OctetChains, walked.
-/
import Derived.Test.YtbkcnhnndaejiaaOctL
import Derived.Deep.RegionHeld3
import Derived.BigRegion
namespace Go.Proofs.Ytbkcnhnndaejiaa
open Go.RowKit
set_option linter.unusedVariables false
open Bil (bl)

theorem chain_out (l : List UInt8) (v n : Nat) (e : Int) (h : Bil.unchain l = (v, n, e)) (he : e = 0) : Bil.chain v = l.take n := by
  have := Bil.unchain_back l (by rw [h]; exact he)
  rwa [h] at this

theorem size_append (a b : ByteArray) : (a ++ b).size = a.size + b.size := by simp

set_option maxRecDepth 100000 in
set_option maxHeartbeats 1000000 in
theorem octetChains_walk (v : Int) (s m : ByteArray) (w : World) (w0 : (Lit.int .u64 v).wf = true) (w1 : s.size ≤ maxLen) (w2 : m.size ≤ maxLen) :
    Calls Try.prog 4 #[.int .u64 v, .string s, .string m] w (Ret (.bool true) w) := by
  obtain ⟨h0, h1⟩ := wf_u64 w0
  have hs := len_max w1
  have hm := len_max w2
  clear w0 w1 w2
  by_cases hs1 : 1000 < s.size
  · go_enter Try.func4, Try.ntmps4
    go_wp2_with (go_at_call 12; (with_reducible refine (liveOk _).mono ?_); rintro e w3 ⟨rfl, hb3⟩)
    go_ret
    exact ⟨rfl, hb3⟩
  · by_cases hm1 : 1000 < m.size
    · go_enter Try.func4, Try.ntmps4
      go_wp2_with (go_at_call 12; (with_reducible refine (liveOk _).mono ?_); rintro e w3 ⟨rfl, hb3⟩)
      go_ret
      exact ⟨rfl, hb3⟩
    · have hs2 : s.size ≤ 1000 := by omega
      have hm2 : m.size ≤ 1000 := by omega
      clear hs1 hm1
      have he := Bil.unchain_e (bl s)
      have hn := Bil.unchain_n (bl s)
      have hlt := Bil.unchain_lt (bl s)
      have hc10 := Bil.chain_length_10 v.toNat (by omega)
      obtain ⟨x, n, e, hu⟩ : ∃ x n e, Bil.unchain (bl s) = (x, n, e) := ⟨_, _, _, rfl⟩
      have hback := fun he => chain_out (bl s) x n e hu he
      have c1 := fun W => octUnchain s W hs
      have c2 := fun W => refUnchain s W hs
      have c3 := fun W => octChain v W h0 h1
      have c4 := fun W => refChain v W h0 h1
      have c5 := fun W => octUnchain (⟨(Bil.chain v.toNat).toArray⟩ ++ m) W (by rw [size_append, Bil.size_mk]; omega)
      rw [Bil.bl_append, Bil.bl_mk, Bil.unchain_chain v.toNat (by omega)] at c5
      have ev : ((v.toNat : Nat) : Int) = v := by omega
      simp only [ev] at c5
      rw [hu] at he hn hlt
      simp only [hu] at c1 c2
      simp only at he hn hlt
      rw [Bil.bl_length] at hn
      obtain ⟨X, HX⟩ : ∃ X : Int, Hid (X = (x : Int)) := ⟨_, rfl⟩
      rw [← HX.out] at c1 c2
      have hX0 : 0 ≤ X := by rw [HX.out]; omega
      have hX1 : X < 18446744073709551616 := by rw [HX.out]; omega
      have c6 := fun W => octChain X W hX0 hX1
      have eX : X.toNat = x := by rw [HX.out]; omega
      rw [eX] at c6
      have C1 := Lib.hid c1; clear c1
      have C2 := Lib.hid c2; clear c2
      have C3 := Lib.hid c3; clear c3
      have C4 := Lib.hid c4; clear c4
      have C5 := Lib.hid c5; clear c5
      have C6 := Lib.hid c6; clear c6
      obtain ⟨c, HC⟩ : ∃ c, Hid (c = Bil.chain v.toNat) := ⟨_, rfl⟩
      rw [← HC.out] at C3 C4 C5 hc10
      have HLT := Lib.hid hlt
      clear hu ev eX hX0 hX1 hlt h0 h1
      obtain ⟨hn1, hn2⟩ := hn
      by_cases hz : e = 0
      · subst hz
        have hb := hback rfl
        rw [hb] at C6
        have EX : Hid (s.extract 0 n = ⟨((bl s).take n).toArray⟩) := by
          show _ = _
          rw [Bil.extract_bl]; simp
        rw [← EX.out] at C6
        clear hback hb
        have hb := Below.refl w.heap.size w
        go_enter Try.func4, Try.ntmps4
        go_wp2_with (first | (go_at_call 13; (with_reducible refine (C1.out _).mono ?_); rintro e w1 ⟨rfl, rfl⟩) | (go_at_call 13; (with_reducible refine (C5.out _).mono ?_); rintro e w1 ⟨rfl, rfl⟩) | (go_at_call 14; (with_reducible refine (C2.out _).mono ?_); rintro e w1 ⟨rfl, rfl⟩) | (go_at_call 15; (with_reducible refine (C3.out _).mono ?_); rintro e w1 ⟨rfl, hbx⟩; replace hb := hb.trans (hbx.mono hb.size); clear hbx) | (go_at_call 15; (with_reducible refine (C6.out _).mono ?_); rintro e w1 ⟨rfl, hbx⟩; replace hb := hb.trans (hbx.mono hb.size); clear hbx) | (go_at_call 16; (with_reducible refine (C4.out _).mono ?_); rintro e w1 ⟨rfl, hbx⟩; replace hb := hb.trans (hbx.mono hb.size); clear hbx) | (go_at_call 11; (with_reducible refine (numOk _ _ (by omega)).mono ?_); rintro e w1 ⟨rfl, rfl⟩) | (go_at_call 12; (with_reducible refine (liveOk _).mono ?_); rintro e w1 ⟨rfl, hbx⟩; replace hb := hb.trans (hbx.mono hb.size); clear hbx))
        go_region_held3 (fun _ => True) (trivial) (first | (go_at_call 15; (with_reducible refine (C6.out _).mono ?_); rintro e w1 ⟨rfl, hbx⟩; (first | replace hb := hb.trans (hbx.mono hb.size) | replace hb := hb.drew.trans (hbx.mono hb.size)); clear hbx) | (go_at_call 12; (with_reducible refine (liveOk _).mono ?_); rintro e w1 ⟨rfl, hbx⟩; (first | replace hb := hb.trans (hbx.mono hb.size) | replace hb := hb.drew.trans (hbx.mono hb.size)); clear hbx))
        all_goals (go_wp2; go_ret; exact ⟨rfl, hb⟩)
      · have hzb : (e == 0) = false := beq_eq_false_iff_ne.2 hz
        have hzn : (e != 0) = true := bne_iff_ne.2 hz
        have hb := Below.refl w.heap.size w
        clear hback hz
        go_enter Try.func4, Try.ntmps4
        go_wp2_with (first | (go_at_call 13; (with_reducible refine (C1.out _).mono ?_); rintro e w1 ⟨rfl, rfl⟩) | (go_at_call 13; (with_reducible refine (C5.out _).mono ?_); rintro e w1 ⟨rfl, rfl⟩) | (go_at_call 14; (with_reducible refine (C2.out _).mono ?_); rintro e w1 ⟨rfl, rfl⟩) | (go_at_call 15; (with_reducible refine (C3.out _).mono ?_); rintro e w1 ⟨rfl, hbx⟩; replace hb := hb.trans (hbx.mono hb.size); clear hbx) | (go_at_call 15; (with_reducible refine (C6.out _).mono ?_); rintro e w1 ⟨rfl, hbx⟩; replace hb := hb.trans (hbx.mono hb.size); clear hbx) | (go_at_call 16; (with_reducible refine (C4.out _).mono ?_); rintro e w1 ⟨rfl, hbx⟩; replace hb := hb.trans (hbx.mono hb.size); clear hbx) | (go_at_call 11; (with_reducible refine (numOk _ _ (by omega)).mono ?_); rintro e w1 ⟨rfl, rfl⟩) | (go_at_call 12; (with_reducible refine (liveOk _).mono ?_); rintro e w1 ⟨rfl, hbx⟩; replace hb := hb.trans (hbx.mono hb.size); clear hbx))
        refine wp_region_any (by kernel_rfl) ?_
        change wpAny _ _ _ _ _ _ _ (World.drew _)
        refine wpAny_take (i := 0) (v := ?_) rfl (by kernel_rfl) (by kernel_rfl) (by kernel_rfl) (fun _ _ _ h => h) (Or.inl ⟨by kernel_rfl, ?_⟩) ?_; rotate_left; (intro w; first | (go_simp; done) | (go_simp; with_reducible rfl)); rotate_left
        refine wpAny_take (i := 1) (v := ?_) rfl (by kernel_rfl) (by kernel_rfl) (by kernel_rfl) (fun _ _ _ h => h) (Or.inl ⟨by kernel_rfl, ?_⟩) ?_; rotate_left; (intro w; first | (go_simp; done) | (go_simp; with_reducible rfl)); rotate_left
        refine wpAny_take (i := 2) (v := ?_) rfl (by kernel_rfl) (by kernel_rfl) (by kernel_rfl) (fun _ _ _ h => h) (Or.inl ⟨by kernel_rfl, ?_⟩) ?_; rotate_left; (intro w; first | (go_simp; done) | (go_simp; with_reducible rfl)); rotate_left
        refine wpAny_take (i := 3) (v := undef) rfl (by kernel_rfl) (by kernel_rfl) (by kernel_rfl) (fun _ _ _ h => h) (Or.inr ⟨by kernel_rfl, rfl⟩) ?_
        refine wpAny_take (i := 4) (v := undef) rfl (by kernel_rfl) (by kernel_rfl) (by kernel_rfl) (fun _ _ _ h => h) (Or.inr ⟨by kernel_rfl, rfl⟩) ?_
        refine wpAny_take (i := 5) (v := undef) rfl (by kernel_rfl) (by kernel_rfl) (by kernel_rfl) (fun _ _ _ h => h) (Or.inr ⟨by kernel_rfl, rfl⟩) ?_
        refine wpAny_take (i := 6) (v := undef) rfl (by kernel_rfl) (by kernel_rfl) (by kernel_rfl) (fun _ _ _ h => h) (Or.inr ⟨by kernel_rfl, rfl⟩) ?_
        refine wpAny_take (i := 7) (v := undef) rfl (by kernel_rfl) (by kernel_rfl) (by kernel_rfl) (fun _ _ _ h => h) (Or.inr ⟨by kernel_rfl, rfl⟩) ?_
        refine wpAny_take (i := 8) (v := undef) rfl (by kernel_rfl) (by kernel_rfl) (by kernel_rfl) (fun _ _ _ h => h) (Or.inr ⟨by kernel_rfl, rfl⟩) ?_
        refine wpAny_take (i := 9) (v := ?_) rfl (by kernel_rfl) (by kernel_rfl) (by kernel_rfl) (fun _ _ _ h => h) (Or.inl ⟨by kernel_rfl, ?_⟩) ?_; rotate_left; (intro w; first | (go_simp; done) | (go_simp; with_reducible rfl)); rotate_left
        refine wpAny_take (i := 10) (v := ?_) rfl (by kernel_rfl) (by kernel_rfl) (by kernel_rfl) (fun _ _ _ h => h) (Or.inl ⟨by kernel_rfl, ?_⟩) ?_; rotate_left; (intro w; first | (go_simp; done) | (go_simp; with_reducible rfl)); rotate_left
        refine wpAny_ready (rs := [11]) (by kernel_rfl) (by simp) ?_; refine AllReady.cons rfl (fun K hK => ?_) AllReady.nil; go_simp; go_wp2_with ((go_at_call 12; (with_reducible refine (liveOk _).mono ?_); rintro e w1 ⟨rfl, hbx⟩; (first | replace hb := hb.trans (hbx.mono hb.size) | replace hb := hb.drew.trans (hbx.mono hb.size)); clear hbx)); (try (refine hK _ _ ?_; clear hK K))
        refine wpAny_take (i := 12) (v := ?_) rfl (by kernel_rfl) (by kernel_rfl) (by kernel_rfl) (fun _ _ _ h => h) (Or.inl ⟨by kernel_rfl, ?_⟩) ?_; rotate_left; (intro w; first | (go_simp; done) | (go_simp; with_reducible rfl)); rotate_left
        refine wpAny_take (i := 13) (v := ?_) rfl (by kernel_rfl) (by kernel_rfl) (by kernel_rfl) (fun _ _ _ h => h) (Or.inl ⟨by kernel_rfl, ?_⟩) ?_; rotate_left; (intro w; first | (go_simp; done) | (go_simp; with_reducible rfl)); rotate_left
        refine wpAny_done (by kernel_rfl) ?_ _
        go_wp2
        go_ret
        exact ⟨rfl, hb⟩

end Go.Proofs.Ytbkcnhnndaejiaa
