/-
  The program's Put and Drop.
-/
import Derived.Test.YtmmfmpnkjienfaaWhN2
namespace Go.Proofs.Ytmmfmpnkjienfaa
open Go.RowKit
set_option linter.unusedVariables false

set_option maxRecDepth 100000 in
set_option maxHeartbeats 1000000 in
theorem putC (id a : Int) (w : World) (B P : Nat) (now : Int) (l : List Wh.E) (F : Nat → Prop) (hid : (Lit.int .i64 id).wf = true) (ha : (Lit.int .u64 a).wf = true) (hl : l.length ≤ 1000) (h : WIs w B P now l F) :
    Calls Try.prog 34 #[.pointer (some ⟨P, 0, none⟩), .int .i64 id, .int .u64 a] w (RetW WIs (.int .i64 (Wh.putErr l id)) B P now (Wh.putL l id a) F w) := by
  have h' := Lib.hid h
  obtain ⟨T, sl, h, rfl⟩ := h
  have c1 := h.map1
  have H := Lib.hid h; clear h
  have HI := Lib.hid hid; clear hid
  have HA := Lib.hid ha; clear ha
  have HL := Lib.hid hl; clear hl
  by_cases h0 : id < 0
  · have e : Wh.putErr l id = 1 := by unfold Wh.putErr; rw [if_pos h0]
    have e2 : Wh.putL l id a = l := by unfold Wh.putL; rw [e]; rfl
    rw [e, e2]
    clear e e2
    go_enter Try.func34, Try.ntmps34
    go_wp2
    go_ret
    exact asks rfl h'.out (Below.refl _ _)
  · cases hh : Wh.has l id with
    | true =>
      have e : Wh.putErr l id = 8 := by unfold Wh.putErr; rw [if_neg h0, if_pos hh]
      have e2 : Wh.putL l id a = l := by unfold Wh.putL; rw [e]; rfl
      rw [e, e2]
      have HH := Lib.hid hh
      clear e e2 hh
      go_enter Try.func34, Try.ntmps34
      go_wp2_with (at_lookup; refine wpLookN _ rfl _ _ _ rfl Try.underlying68 T l rfl H.out.tm id rfl HI.out _ true rfl HH.out ?_)
      go_ret
      exact asks rfl h'.out (Below.refl _ _)
    | false =>
      have e : Wh.putErr l id = 0 := by unfold Wh.putErr; rw [if_neg h0, if_neg (by rw [hh]; decide)]
      have e2 : Wh.putL l id a = l ++ [(id, a)] := by unfold Wh.putL; rw [if_pos e]
      rw [e, e2]
      have hn : Wh.find l id = none := by
        cases hf : Wh.find l id with
        | none => rfl
        | some x => simp [Wh.has, hf] at hh
      have HH := Lib.hid hh
      have HN := Lib.hid hn
      clear e e2 hh hn
      go_enter Try.func34, Try.ntmps34
      go_wp2_with (first | (at_lookup; refine wpLookN _ rfl _ _ _ rfl Try.underlying68 T l rfl H.out.tm id rfl HI.out _ false rfl HH.out ?_) | (at_mapUpdate; refine wpPutE _ rfl _ _ _ _ rfl Try.underlying68 T l rfl H.out.tm id a rfl rfl HI.out HA.out (Nat.le_trans HL.out (by decide)) HN.out ?_; intro w1 hM1 hc1 hs1; have HW1 := Lib.hid (H.out.writeMap _ hM1 hc1); have HC1 := Lib.hid hc1; clear hM1 hc1) | (go_at_call 50; (with_reducible refine (placeC id a _ B P now (l ++ [(id, a)]) l T sl HW1.out HI.out HA.out HN.out HL.out).mono ?_); rintro e w2 ⟨rfl, ⟨sl', hW2, hF2⟩, hc2⟩))
      go_ret
      refine ⟨rfl, ⟨_, ⟨T, sl', hW2, rfl⟩, fun k hk => ?_⟩, ?_⟩
      · rcases hF2 k hk with h3 | h3
        · exact Or.inl h3
        · exact Or.inr (by omega)
      · exact (HC1.out.mono (fun k hk => Or.inl (by subst hk; exact Or.inr (Or.inl rfl)))).trans hc2 (fun k hk => Or.inl hk)

theorem without_none {l : List Wh.E} {id : Int} (h : Wh.find l id = none) : Wh.without l id = l :=
  List.filter_eq_self.2 (fun e he => by simpa using Wh.find_none.1 h e he)
theorem without_other {now a id : Int} {l : List Wh.E} {j : Nat} (hn : (l.map (·.1)).Nodup) (hf : Wh.find l id = some a) (hj : pl now a = j) (i : Nat) (hi : i ≠ j) : atP now (Wh.without l id) i = atP now l i := by
  rw [atP_without]
  refine without_none (Wh.find_none.2 (fun e he e1 => ?_))
  obtain ⟨h1, h2⟩ := atP_mem.1 he
  have h3 := Wh.find_of_mem hn (id := e.1) (a := e.2) h1
  rw [e1, hf] at h3
  cases h3
  omega
theorem Wf.without {l : List Wh.E} (h : Wf l) (id : Int) : Wf (Wh.without l id) := fun e he => h e (List.mem_filter.1 he).1

set_option maxRecDepth 100000 in
set_option maxHeartbeats 1000000 in
theorem dropC (id : Int) (w : World) (B P : Nat) (now : Int) (l : List Wh.E) (F : Nat → Prop) (hid : (Lit.int .i64 id).wf = true) (hn : (l.map (·.1)).Nodup) (h : WIs w B P now l F) :
    Calls Try.prog 36 #[.pointer (some ⟨P, 0, none⟩), .int .i64 id] w (RetW WIs (.bool (Wh.has l id)) B P now (Wh.without l id) F w) := by
  have h' := Lib.hid h
  obtain ⟨T, sl, h, rfl⟩ := h
  have k1 := atR id w B P now l l T sl hid h
  cases hf : Wh.find l id with
  | none =>
    have e1 : Wh.has l id = false := by simp [Wh.has, hf]
    rw [e1, without_none hf]
    rw [hf] at k1
    have K1 := Lib.hid k1
    clear h hf hn e1 k1 hid
    go_enter Try.func36, Try.ntmps36
    go_wp2_with (go_at_call 27; (with_reducible refine K1.out.mono ?_); rintro e w1 ⟨rfl, rfl⟩; dsimp only [atV, Option.getD, Option.isSome])
    go_ret
    exact asks rfl h'.out (Below.refl _ _)
  | some a =>
    have e1 : Wh.has l id = true := by simp [Wh.has, hf]
    rw [e1]
    rw [hf] at k1
    have hmem := Wh.find_mem hf
    have ha := (h.wf _ hmem).2
    have k2 := findC now a P w h.now ha h.now0
    obtain ⟨L, hL⟩ : ∃ L, L = Wh.lev now.toNat (max a.toNat now.toNat) := ⟨_, rfl⟩
    obtain ⟨D, hD⟩ : ∃ D, D = Wh.dig now.toNat (max a.toNat now.toNat) := ⟨_, rfl⟩
    have hj : pl now a = 16 * L + D := by unfold pl Wh.plc; rw [hL, hD]
    have hL16 : L < 16 := by rw [hL]; exact Wh.lev_lt (by have := toNat_lt ha; have := toNat_lt h.now; omega) (toNat_lt h.now)
    have hD16 : D < 16 := by rw [hD]; exact Wh.dig_lt _ _
    rw [← hL, ← hD] at k2
    clear hL hD
    obtain ⟨b, hb⟩ : ∃ b, sl (16 * L + D) = some b := by
      cases hx : sl (16 * L + D) with
      | some b => exact ⟨b, rfl⟩
      | none =>
        have h3 := h.sn _ (by omega) hx
        have h4 : (id, a) ∈ atP now l (16 * L + D) := atP_mem.2 ⟨hmem, hj⟩
        rw [h3] at h4
        cases h4
    have c := h.slot (16 * L + D) (by omega)
    rw [show 16 * L + D + 2 = 2 + L * 16 + D by omega, hb] at c
    have c1 := h.map1
    have hP := (h.bounds P (Or.inl rfl)).2
    have hM := h.sm _ (by omega) b hb
    have hPb := h.nePs _ (by omega) b hb
    have hTb := h.neT _ (by omega) b hb
    have K1 := Lib.hid k1
    have K2 := Lib.hid k2
    have H := Lib.hid h
    have HI := Lib.hid hid
    have HN := Lib.hid hn
    have HF := Lib.hid hf
    have HJ := Lib.hid hj
    have HB := Lib.hid hb
    have HM := Lib.hid hM
    have HP := Lib.hid hP
    have HPB := Lib.hid hPb
    have HTB := Lib.hid hTb
    clear h hf hn e1 k1 hid k2 hmem ha hj hb hM hP hPb hTb
    go_enter Try.func36, Try.ntmps36
    go_wp2_with (first | (go_at_call 27; (with_reducible refine K1.out.mono ?_); rintro e w1 ⟨rfl, rfl⟩; dsimp only [atV, Option.getD, Option.isSome]) | (go_at_call 51; (with_reducible refine K2.out.mono ?_); rintro e w1 ⟨rfl, q, rfl⟩) | (at_delete; refine wpDelE _ rfl _ _ 69 rfl Try.underlying69 b _ rfl (HM.out.keep rfl) id rfl HI.out (nodup_atP HN.out _) ?_; intro w2 hM2 hc2 hs2; have HW := Lib.hid ((H.out.keep (w' := w.drewN q) (fun _ _ => rfl)).writeSlot (16 * L + D) (by omega) b HB.out (Wh.without l id) (by rw [atP_without]; exact hM2) hc2 (fun i _ hi => without_other HN.out HF.out HJ.out i hi) (H.out.wf.without id)); have d1 := HW.out.map1; have HC2 := Lib.hid hc2; clear hM2 hc2) | (at_delete; refine wpDelE _ rfl _ _ 68 rfl Try.underlying68 T _ rfl HW.out.tm id rfl HI.out HN.out ?_; intro w3 hM3 hc3 hs3; have HW3 := Lib.hid (HW.out.writeMap _ hM3 hc3); have HC3 := Lib.hid hc3; clear hM3 hc3))
    go_ret
    refine ⟨rfl, ⟨_, ⟨T, sl, HW3.out, rfl⟩, fun k hk => Or.inl hk⟩, ?_⟩
    have c0 : Chg (WF P T sl) w (w.drewN q) := (Chg.refl _ w).drewN q
    exact (c0.trans HC2.out (fun k hk => Or.inl (by subst hk; exact Or.inr (Or.inr ⟨_, by omega, HB.out⟩)))).trans HC3.out (fun k hk => Or.inl (by subst hk; exact Or.inr (Or.inl rfl)))
end Go.Proofs.Ytmmfmpnkjienfaa
