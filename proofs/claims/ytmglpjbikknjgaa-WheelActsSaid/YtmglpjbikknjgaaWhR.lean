/-
  The law WheelPieces, by the wheel's contracts: what is put.
-/
import Derived.Test.YtmglpjbikknjgaaWhO
namespace Wh
set_option linter.unusedVariables false
theorem due_rest {l : List E} {s t : Int} (h : s ≤ t) : (due l s ++ due (rest l s) t).Perm (due l t) := by
  induction l with
  | nil => exact List.Perm.refl _
  | cons e r ih =>
    unfold due rest at *
    simp only [List.filter_cons]
    by_cases h1 : e.2 ≤ s
    · rw [if_pos (by simpa using h1), if_neg (by simp; omega), if_pos (by simp; omega)]
      exact ih.cons e
    · rw [if_neg (by simpa using h1), if_pos (by simp; omega)]
      by_cases h2 : e.2 ≤ t
      · rw [List.filter_cons, if_pos (by simpa using h2), if_pos (by simpa using h2)]
        exact List.perm_middle.trans (ih.cons e)
      · rw [List.filter_cons, if_neg (by simpa using h2), if_neg (by simpa using h2)]
        exact ih
theorem rest_rest {l : List E} {s t : Int} (h : s ≤ t) : rest (rest l s) t = rest l t := by
  unfold rest
  rw [List.filter_filter]
  congr 1
  funext e
  rw [← Bool.decide_and]
  exact decide_eq_decide.2 (by omega)
theorem turned_split {l : List E} {s t : Int} (hn : (l.map (·.1)).Nodup) (h : s ≤ t) : turned l s ++ turned (rest l s) t = turned l t := by
  refine sortT_is ?_ ?_ ((nodup_of hn).filter _)
  · rw [List.pairwise_append]
    refine ⟨sortT_sorted ((nodup_of hn).filter _), sortT_sorted (((nodup_of hn).filter _).filter _), fun x hx y hy => ?_⟩
    have h1 := (List.mem_filter.1 ((sortT_perm _).mem_iff.1 hx)).2
    have h2 := (List.mem_filter.1 (List.mem_filter.1 ((sortT_perm _).mem_iff.1 hy)).1).2
    simp at h1 h2
    exact Or.inl (by omega)
  · exact ((sortT_perm _).append (sortT_perm _)).trans (due_rest h)
/-- what the first k acts put -/
def actsL (t : Nat → Int × Int × Int) : Nat → List E
  | 0 => []
  | k + 1 => if (t k).1 = 0 then putL (actsL t k) (t k).2.1 (t k).2.2 else actsL t k
end Wh
namespace Go.Proofs.Ytmglpjbikknjgaa
open Go.RowKit
set_option linter.unusedVariables false

theorem acts_nodup (t : Nat → Int × Int × Int) : ∀ k, ((Wh.actsL t k).map (·.1)).Nodup
  | 0 => by simp [Wh.actsL]
  | k + 1 => by
    unfold Wh.actsL
    split
    · exact Wh.nodup_put (acts_nodup t k)
    · exact acts_nodup t k
theorem acts_len (t : Nat → Int × Int × Int) : ∀ k, (Wh.actsL t k).length ≤ k
  | 0 => by simp [Wh.actsL]
  | k + 1 => by
    have := acts_len t k
    unfold Wh.actsL
    split
    · have := len_put (Wh.actsL t k) (t k).2.1 (t k).2.2; omega
    · omega

set_option maxRecDepth 100000 in
set_option maxHeartbeats 8000000 in
theorem putAllC {Is : WS} (K : WheelC Is) (w0 : World) (P : Nat) (n : Int) (a : Option Addr) (len cap : Nat) (t : Nat → Int × Int × Int) (hl : len ≤ 200) (h : ActAt w0 a len t) (w : World) (hb : Below w0.heap.size w0 w) (F : Nat → Prop) (hI : Is w w0.heap.size P n [] F) :
    Calls Try.prog 17 #[.pointer (some ⟨P, 0, none⟩), .slice a len cap] w (RetW Is (.tuple #[]) w0.heap.size P n (Wh.actsL t len) F w) := by
  have HA := Lib.hid h; clear h
  have HI := Lib.hid hI; clear hI
  have HB := Lib.hid hb; clear hb
  go_enter Try.func17, Try.ntmps17
  go_wp2
  go_loopw [4] (fun i wr => ∃ k : Nat, k ≤ len ∧ i = .int .i64 (k : Int) ∧ Hid ((∃ F', Is wr w0.heap.size P n (Wh.actsL t k) F' ∧ ∀ q, F' q → F q ∨ w.heap.size ≤ q) ∧ Chg F w wr)) (fun i _ => len - (intOf i).toNat)
  case atStart => exact ⟨0, by omega, rfl, Lib.hid ⟨⟨F, HI.out, fun q h => Or.inl h⟩, Chg.refl _ _⟩⟩
  case round =>
    obtain ⟨k, hk, rfl, hst⟩ := hrel
    by_cases hlt : k < len
    · rcases HA.out with h | ⟨g, off, rfl, hg, hc⟩
      · omega
      · obtain ⟨d0, d1, d2, wi, wt⟩ := hc k hlt
        have hbr : Below w0.heap.size w0 wr := HB.out.trans (hst.out.2.below (fun q hq => (K.lt HI.out q hq).1) HB.out.size)
        have c0 := (hbr.cell (p := ⟨g, off + k * 3, none⟩) hg).trans d0
        have hacts : Wh.actsL t (k + 1) = if (t k).1 = 0 then Wh.putL (Wh.actsL t k) (t k).2.1 (t k).2.2 else Wh.actsL t k := rfl
        have hnd := acts_nodup t k
        have hlen := acts_len t k
        have HACT := Lib.hid hacts; clear hacts
        clear hc
        generalize (t k).1 = kd at *
        generalize (t k).2.1 = id at *
        generalize (t k).2.2 = tk at *
        generalize Wh.actsL t k = L at *
        by_cases h0 : kd = 0
        · subst h0
          have hkd : ((0 : Int) == 0) = true := rfl
          obtain ⟨⟨F', hI', hF'⟩, hch⟩ := hst.out
          have KP := Lib.hid (fun W (hw : Is W w0.heap.size P n L F') => K.put id tk W w0.heap.size P n L F' wi wt hnd (by omega) hw)
          have HI' := Lib.hid (K.keep hI' (Below.refl wr.heap.size wr).drew.size (fun q hq => rfl) : Is wr.drew w0.heap.size P n L F')
          have HCH := Lib.hid hch; clear hch hI'
          have HF' := Lib.hid hF'; clear hF'
          go_upto_region 4 with fail
          refine wp_region_any (by kernel_rfl) ?_
          change wpAny _ _ _ _ _ _ _ (World.drew _)
          refine wpAny_of_held (S := fun w' => Below w0.heap.size w0 w') _ _ _ _ ?_
          have hS : Below w0.heap.size w0 wr.drew := hbr.drew
          refine takeH 0 17 ?_ rfl rfl (by kernel_rfl) (by kernel_rfl) (by kernel_rfl) (fun _ _ _ h => h) (Or.inl ⟨by kernel_rfl, ?_⟩) hS ?_; rotate_left; (intro w' hw; skip; first | (go_simp; done) | (go_simp; with_reducible rfl)); rotate_left
          try simp only [List.setIfInBounds_toArray, List.set_cons_zero, List.set_cons_succ]
          refine takeH 1 18 ?_ rfl rfl (by kernel_rfl) (by kernel_rfl) (by kernel_rfl) (fun _ _ _ h => h) (Or.inl ⟨by kernel_rfl, ?_⟩) hS ?_; rotate_left; (intro w' hw; skip; first | (go_simp; done) | (go_simp; with_reducible rfl)); rotate_left
          try simp only [List.setIfInBounds_toArray, List.set_cons_zero, List.set_cons_succ]
          refine takeH 2 19 ?_ rfl rfl (by kernel_rfl) (by kernel_rfl) (by kernel_rfl) (fun _ _ _ h => h) (Or.inl ⟨by kernel_rfl, ?_⟩) hS ?_; rotate_left; (intro w' hw; skip; first | (go_simp; done) | (go_simp; with_reducible rfl)); rotate_left
          try simp only [List.setIfInBounds_toArray, List.set_cons_zero, List.set_cons_succ]
          refine takeH 3 20 ?_ rfl rfl (by kernel_rfl) (by kernel_rfl) (by kernel_rfl) (fun _ _ _ h => h) (Or.inl ⟨by kernel_rfl, ?_⟩) hS ?_; rotate_left; (intro w' hw; skip; first | (go_simp; done) | (go_simp; with_reducible rfl)); rotate_left
          try simp only [List.setIfInBounds_toArray, List.set_cons_zero, List.set_cons_succ]
          refine takeH 4 21 ?_ rfl rfl (by kernel_rfl) (by kernel_rfl) (by kernel_rfl) (fun _ _ _ h => h) (Or.inl ⟨by kernel_rfl, ?_⟩) hS ?_; rotate_left; (intro w' hw; skip; first | (go_simp; done) | (go_simp; with_reducible rfl)); rotate_left
          try simp only [List.setIfInBounds_toArray, List.set_cons_zero, List.set_cons_succ]
          refine takeH 5 22 ?_ rfl rfl (by kernel_rfl) (by kernel_rfl) (by kernel_rfl) (fun _ _ _ h => h) (Or.inl ⟨by kernel_rfl, ?_⟩) hS ?_; rotate_left; (intro w' hw; have z0 := (hw.cell (p := ⟨g, off + k * 3 + 1, none⟩) hg).trans d1; have z1 := (hw.cell (p := ⟨g, off + k * 3 + 2, none⟩) hg).trans d2; first | (go_simp; done) | (go_simp; with_reducible rfl)); rotate_left
          try simp only [List.setIfInBounds_toArray, List.set_cons_zero, List.set_cons_succ]
          refine takeH 6 23 ?_ rfl rfl (by kernel_rfl) (by kernel_rfl) (by kernel_rfl) (fun _ _ _ h => h) (Or.inl ⟨by kernel_rfl, ?_⟩) hS ?_; rotate_left; (intro w' hw; skip; first | (go_simp; done) | (go_simp; with_reducible rfl)); rotate_left
          try simp only [List.setIfInBounds_toArray, List.set_cons_zero, List.set_cons_succ]
          refine takeH 7 24 ?_ rfl rfl (by kernel_rfl) (by kernel_rfl) (by kernel_rfl) (fun _ _ _ h => h) (Or.inl ⟨by kernel_rfl, ?_⟩) hS ?_; rotate_left; (intro w' hw; skip; first | (go_simp; done) | (go_simp; with_reducible rfl)); rotate_left
          try simp only [List.setIfInBounds_toArray, List.set_cons_zero, List.set_cons_succ]
          refine takeH 8 25 ?_ rfl rfl (by kernel_rfl) (by kernel_rfl) (by kernel_rfl) (fun _ _ _ h => h) (Or.inl ⟨by kernel_rfl, ?_⟩) hS ?_; rotate_left; (intro w' hw; skip; first | (go_simp; done) | (go_simp; with_reducible rfl)); rotate_left
          try simp only [List.setIfInBounds_toArray, List.set_cons_zero, List.set_cons_succ]
          refine takeH 9 26 ?_ rfl rfl (by kernel_rfl) (by kernel_rfl) (by kernel_rfl) (fun _ _ _ h => h) (Or.inl ⟨by kernel_rfl, ?_⟩) hS ?_; rotate_left; (intro w' hw; skip; first | (go_simp; done) | (go_simp; with_reducible rfl)); rotate_left
          try simp only [List.setIfInBounds_toArray, List.set_cons_zero, List.set_cons_succ]
          refine takeH 10 27 ?_ rfl rfl (by kernel_rfl) (by kernel_rfl) (by kernel_rfl) (fun _ _ _ h => h) (Or.inl ⟨by kernel_rfl, ?_⟩) hS ?_; rotate_left; (intro w' hw; have z0 := (hw.cell (p := ⟨g, off + k * 3 + 1, none⟩) hg).trans d1; have z1 := (hw.cell (p := ⟨g, off + k * 3 + 2, none⟩) hg).trans d2; first | (go_simp; done) | (go_simp; with_reducible rfl)); rotate_left
          try simp only [List.setIfInBounds_toArray, List.set_cons_zero, List.set_cons_succ]
          refine wpAnyH_ready (rs := [11]) (by kernel_rfl) (by simp) ?_; refine AllReadyH.cons rfl (fun K2 hK => ?_) AllReadyH.nil; go_simp
          go_wp2_with (go_at_call 9; (with_reducible refine (KP.out _ HI'.out).mono ?_); rintro e wA ⟨rfl, ⟨F2, hI2, hF2⟩, hc2⟩)
          have hch2 : Chg F w wA := HCH.out.drew.trans hc2 (fun q hq => HF'.out q hq)
          have hS2 : Below w0.heap.size w0 wA := HB.out.trans (hch2.below (fun q hq => (K.lt HI.out q hq).1) HB.out.size)
          refine hK.out _ _ ?_ (fun _ => ?_); (exact hS2); clear hK K2
          refine wpAnyH_done (by kernel_rfl) ?_ _
          go_wp2
          go_roundw
          case rel =>
            refine ⟨k + 1, by omega, by go_num, Lib.hid ⟨⟨F2, by rw [HACT.out, if_pos trivial]; exact hI2, fun q hq => ?_⟩, hch2⟩⟩
            rcases hF2 q hq with e | e
            · exact HF'.out q e
            · exact Or.inr (Nat.le_trans HCH.out.size e)
          case measure => simp [intOf]; omega
        · have t0 : (kd == 0) = false := by simpa using h0
          go_wp2
          go_roundw
          case rel => exact ⟨k + 1, by omega, by go_num, by rw [HACT.out, if_neg h0]; exact hst⟩
          case measure => simp [intOf]; omega
    · obtain rfl : k = len := by omega
      obtain ⟨h1, h2⟩ := hst.out
      go_wp2
      ((try simp only [Exit.inBlock, Exit.then]); first | refine bodyPost_end (results_none rfl _ _ _) rfl ?_ | refine bodyPost_ret (results_none rfl _ _ _) rfl ?_)
      exact ⟨rfl, h1, h2⟩
end Go.Proofs.Ytmglpjbikknjgaa
