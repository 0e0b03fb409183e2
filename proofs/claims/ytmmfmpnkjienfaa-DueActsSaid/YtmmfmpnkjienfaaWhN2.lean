/-
  The program's Next: the first slot that has elements has the earliest.
-/
import Derived.Test.YtmmfmpnkjienfaaWhG
namespace Go.Proofs.Ytmmfmpnkjienfaa
open Go.RowKit
set_option linter.unusedVariables false

theorem toNat_lt {a : Int} (h : (Lit.int .u64 a).wf = true) : a.toNat < 2 ^ 64 := by
  obtain ⟨h1, h2⟩ := wf_u64 h
  omega
theorem pl_lt {now a : Int} (hn : (Lit.int .u64 now).wf = true) (ha : (Lit.int .u64 a).wf = true) : pl now a < 256 := Wh.plc_lt (toNat_lt ha) (toNat_lt hn)
/-- nothing in any slot: nothing at all -/
theorem all_empty {now : Int} {l : List Wh.E} (hn : (Lit.int .u64 now).wf = true) (hw : Wf l) (h : ∀ j, j < 256 → atP now l j = []) : l = [] := by
  cases l with
  | nil => rfl
  | cons e r =>
    have hp := pl_lt hn (hw e List.mem_cons_self).2
    have : e ∈ atP now (e :: r) (pl now e.2) := atP_mem.2 ⟨List.mem_cons_self, rfl⟩
    rw [h _ hp] at this
    cases this
theorem least_exists : ∀ {l : List Wh.E}, l ≠ [] → ∃ m, IsLeast l m
  | [], h => absurd rfl h
  | x :: r, _ => by
    obtain ⟨h1, h2, h3⟩ := leastFrom_le r x.2
    refine ⟨leastFrom x.2 r, ?_, fun e he => ?_⟩
    · rcases h3 with h3 | ⟨e, he, h3⟩
      · exact ⟨x, List.mem_cons_self, h3.symm⟩
      · exact ⟨e, List.mem_cons_of_mem _ he, h3.symm⟩
    · rcases List.mem_cons.1 he with rfl | he
      · exact h1
      · exact h2 e he
/-- the least of the first slot that has any is the least of all -/
theorem least_first {now : Int} {l : List Wh.E} {j : Nat} {m : Int} (hn : (Lit.int .u64 now).wf = true) (hw : Wf l) (h : ∀ i, i < j → atP now l i = []) (hm : IsLeast (atP now l j) m) : Wh.nextR l = some m := by
  obtain ⟨⟨e, he, rfl⟩, h2⟩ := hm
  obtain ⟨he1, he2⟩ := atP_mem.1 he
  refine Wh.nextR_of ⟨e, he1, rfl⟩ (fun x hx => ?_)
  rcases Nat.lt_trichotomy (pl now x.2) j with h3 | h3 | h3
  · have : x ∈ atP now l (pl now x.2) := atP_mem.2 ⟨hx, rfl⟩
    rw [h _ h3] at this
    cases this
  · exact h2 x (atP_mem.2 ⟨hx, h3⟩)
  · have h4 := (Wh.plc_later (toNat_lt hn) (toNat_lt (hw e he1).2) (b := x.2.toNat) (by rw [← he2] at h3; exact h3)).1
    obtain ⟨g1, g2⟩ := wf_u64 (hw e he1).2
    omega
theorem nodup_atP {now : Int} {l : List Wh.E} (h : (l.map (·.1)).Nodup) (j : Nat) : ((atP now l j).map (·.1)).Nodup := (List.Sublist.map _ List.filter_sublist).nodup h

set_option maxRecDepth 100000 in
set_option maxHeartbeats 1000000 in
theorem nextC (w : World) (B P : Nat) (now : Int) (l : List Wh.E) (F : Nat → Prop) (hn : (l.map (·.1)).Nodup) (hl : l.length ≤ 1000) (h : WIs w B P now l F) :
    Calls Try.prog 28 #[.pointer (some ⟨P, 0, none⟩)] w (RetW WIs (atV (Wh.nextR l)) B P now l F w) := by
  have h' := Lib.hid h
  obtain ⟨T, sl, h, rfl⟩ := h
  have H := Lib.hid h; clear h
  have HN := Lib.hid hn; clear hn
  have HL := Lib.hid hl; clear hl
  obtain ⟨R, hR⟩ : ∃ R, R = Wh.nextR l := ⟨_, rfl⟩
  rw [← hR]
  have HR := Lib.hid hR; clear hR
  have hnil := fun W ty => Maps.len_nil (P := Try.prog) (w := W) Try.underlying69 ty
  go_enter Try.func28, Try.ntmps28
  go_wp2
  go_loop [9] (fun v => ∃ L : Nat, L ≤ 16 ∧ v = .int .i64 (L : Int) ∧ Hid (∀ j, j < 16 * L → atP now l j = [])) (fun v => 16 - (intOf v).toNat)
  case atStart => exact ⟨0, by omega, rfl, Lib.hid (fun j hj => by omega)⟩
  case round =>
    obtain ⟨L, hL, rfl, hE⟩ := hrel
    by_cases hlt : L < 16
    · go_wp2
      go_loop [12] (fun v => ∃ D : Nat, D ≤ 16 ∧ v = .int .i64 (D : Int) ∧ Hid (∀ j, j < 16 * L + D → atP now l j = [])) (fun v => 16 - (intOf v).toNat)
      case atStart => exact ⟨0, by omega, rfl, hE⟩
      case round =>
        obtain ⟨D, hD, rfl, hE2⟩ := hrel
        by_cases hlt2 : D < 16
        · have c := H.out.slot (16 * L + D) (by omega)
          rw [show 16 * L + D + 2 = 2 + L * 16 + D by omega] at c
          cases hx : sl (16 * L + D) with
          | none =>
            rw [hx] at c
            have h0 := H.out.sn (16 * L + D) (by omega) hx
            have H0 := Lib.hid h0
            clear hx h0
            go_wp2
            go_round
            case rel => exact ⟨D + 1, by omega, by go_num, Lib.hid (fun j hj => by
              rcases Nat.lt_or_ge j (16 * L + D) with h3 | h3
              · exact hE2.out j h3
              · obtain rfl : j = 16 * L + D := by omega
                exact H0.out)⟩
            case measure => simp [intOf]; omega
          | some b =>
            rw [hx] at c
            have hM := H.out.sm (16 * L + D) (by omega) b hx
            have HM := Lib.hid hM
            clear hx hM
            by_cases h0 : atP now l (16 * L + D) = []
            · have H0 := Lib.hid h0
              have hlen : (atP now l (16 * L + D)).length = 0 := by rw [h0]; rfl
              clear h0
              go_wp2_with (at_len; refine wpLenE _ rfl _ _ rfl Try.underlying69 b _ rfl HM.out ?_; rw [hlen])
              go_round
              case rel => exact ⟨D + 1, by omega, by go_num, Lib.hid (fun j hj => by
                rcases Nat.lt_or_ge j (16 * L + D) with h3 | h3
                · exact hE2.out j h3
                · obtain rfl : j = 16 * L + D := by omega
                  exact H0.out)⟩
              case measure => simp [intOf]; omega
            · obtain ⟨m, hm⟩ := least_exists h0
              have hr := least_first H.out.now H.out.wf hE2.out hm
              have hpos : 0 < (atP now l (16 * L + D)).length := List.length_pos_iff.2 h0
              have k1 := earliestC b (atP now l (16 * L + D)) w m HM.out (nodup_atP HN.out _) hm (fun e he => by have := (wf_u64 (H.out.wf e (atP_mem.1 he).1).2).2; omega)
              have K1 := Lib.hid k1
              have hR2 := HR.out
              rw [hr] at hR2
              subst hR2
              clear hm hr k1 h0
              generalize hlen : (atP now l (16 * L + D)).length = len at *
              have HLEN := Lib.hid hlen; clear hlen
              go_wp2_with (first | (at_len; refine wpLenE _ rfl _ _ rfl Try.underlying69 b _ rfl HM.out ?_; rw [HLEN.out]) | (go_at_call 41; (with_reducible refine K1.out.mono ?_); rintro e w1 ⟨rfl, hb⟩))
              go_ret2
              exact asks rfl h'.out hb
        · obtain rfl : D = 16 := by omega
          go_wp2
          go_round
          case rel => exact ⟨L + 1, by omega, by go_num, Lib.hid (fun j hj => hE2.out j (by omega))⟩
          case measure => simp [intOf]; omega
    · obtain rfl : L = 16 := by omega
      have hl0 := all_empty H.out.now H.out.wf (fun j hj => hE.out j (by omega))
      have hR2 := HR.out
      rw [hl0] at hR2
      replace hR2 : R = none := hR2
      subst hR2
      clear hl0
      go_wp2
      go_ret2
      exact asks rfl h'.out (Below.refl _ _)
end Go.Proofs.Ytmmfmpnkjienfaa
