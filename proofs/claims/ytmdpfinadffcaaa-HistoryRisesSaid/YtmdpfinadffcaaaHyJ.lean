/-
  The document's Same and Right.
-/
import Derived.Test.YtmdpfinadffcaaaHyI
namespace Go.Proofs.Ytmdpfinadffcaaa
open Go.RowKit
set_option linter.unusedVariables false

theorem yieldRowAt {w : World} {ρ : Operand → Value} {o : Oper} {x : Operand} {g off : Nat} {k : ByteArray} {v : Lr.V} (ho : o.op = .load 58 x) (hx : ρ x = .pointer (some ⟨g, off, none⟩)) (h : ∀ j u, (entC k v)[j]? = some u → w.cell? ⟨g, off + j, none⟩ = some u) : (execOp ρ o).run Try.prog w = .ok (.value (.agg (entC k v))) w := by
  unfold execOp
  simp only [ho, hx, Sem.run_bind, run_loadRow h, Result.andThen_ok]
  rfl
set_option maxRecDepth 100000 in
set_option maxHeartbeats 4000000 in
theorem refSameC (a b : Option Addr) (ca cb : Nat) (R : List Lr.E) (w : World) (hl : R.length ≤ 1000000) (ha : RowsAt w a R) (hb : RowsAt w b R) :
    Calls Try.prog 23 #[.slice a R.length ca, .slice b R.length cb] w (Ret (.bool true) w) := by
  have HA := Lib.hid ha
  have HB := Lib.hid hb
  clear ha hb
  go_enter Try.func23, Try.ntmps23
  go_wp2
  go_loopw [5] (fun s wr => ∃ j : Nat, j ≤ R.length ∧ s = .int .i64 (j : Int) ∧ Hid (Below w.heap.size w wr)) (fun s _ => R.length - (intOf s).toNat)
  case atStart => exact ⟨0, Nat.zero_le _, rfl, Lib.hid (Below.refl _ _)⟩
  case round =>
    obtain ⟨j, hj, rfl, hbl⟩ := hrel
    by_cases hlt : j < R.length
    · obtain ⟨g, off, rfl, hg, hc⟩ := (HA.out.below hbl.out).cell hlt
      obtain ⟨g2, off2, rfl, hg2, hc2⟩ := (HB.out.below hbl.out).cell hlt
      have hS0 : (∀ i u, (entC R[j].1 R[j].2)[i]? = some u → wr.drew.cell? ⟨g, off + j * 17 + i, none⟩ = some u) ∧ (∀ i u, (entC R[j].1 R[j].2)[i]? = some u → wr.drew.cell? ⟨g2, off2 + j * 17 + i, none⟩ = some u) := ⟨fun i u hu => by rw [World.cell?_drew]; exact hc i u hu, fun i u hu => by rw [World.cell?_drew]; exact hc2 i u hu⟩
      have HS0 := Lib.hid hS0
      clear hc hc2 hS0
      generalize R[j].1 = key at *
      generalize R[j].2 = v at *
      have hsr := run_sameRow key v
      go_upto_region 6 with fail
      refine wp_region_any (by kernel_rfl) ?_
      change wpAny _ _ _ _ _ _ _ (World.drew _)
      refine wpAny_of_held (S := fun W => (∀ i u, (entC key v)[i]? = some u → W.cell? ⟨g, off + j * 17 + i, none⟩ = some u) ∧ (∀ i u, (entC key v)[i]? = some u → W.cell? ⟨g2, off2 + j * 17 + i, none⟩ = some u)) _ _ _ _ ?_
      have hS := HS0.out
      refine takeH 0 17 ?_ rfl rfl (by kernel_rfl) (by kernel_rfl) (by kernel_rfl) (fun _ _ _ h => h) (Or.inl ⟨by kernel_rfl, ?_⟩) hS ?_; rotate_left; (intro w' hw; first | (go_simp; done) | (go_simp; with_reducible rfl)); rotate_left
      try simp only [List.setIfInBounds_toArray, List.set_cons_zero, List.set_cons_succ]
      refine takeH 1 18 ?_ rfl rfl (by kernel_rfl) (by kernel_rfl) (by kernel_rfl) (fun _ _ _ h => h) (Or.inl ⟨by kernel_rfl, ?_⟩) hS ?_; rotate_left; (intro w' hw; first | (go_simp; done) | (go_simp; with_reducible rfl)); rotate_left
      try simp only [List.setIfInBounds_toArray, List.set_cons_zero, List.set_cons_succ]
      refine takeH 2 19 ?_ rfl rfl (by kernel_rfl) (by kernel_rfl) (by kernel_rfl) (fun _ _ _ h => h) (Or.inl ⟨by kernel_rfl, ?_⟩) hS ?_; rotate_left; (intro w' hw; first | (go_simp; done) | (go_simp; with_reducible rfl)); rotate_left
      try simp only [List.setIfInBounds_toArray, List.set_cons_zero, List.set_cons_succ]
      refine takeH 3 20 ?_ rfl rfl (by kernel_rfl) (by kernel_rfl) (by kernel_rfl) (fun _ _ _ h => h) (Or.inl ⟨by kernel_rfl, ?_⟩) hS ?_; rotate_left; (intro w' hw; refine yieldRowAt (x := .tmp 19) (g := g) (off := off + j * 17) (k := key) (v := v) ?_ ?_ hw.1 <;> rfl); rotate_left
      try simp only [List.setIfInBounds_toArray, List.set_cons_zero, List.set_cons_succ]
      refine takeH 4 21 ?_ rfl rfl (by kernel_rfl) (by kernel_rfl) (by kernel_rfl) (fun _ _ _ h => h) (Or.inl ⟨by kernel_rfl, ?_⟩) hS ?_; rotate_left; (intro w' hw; first | (go_simp; done) | (go_simp; with_reducible rfl)); rotate_left
      try simp only [List.setIfInBounds_toArray, List.set_cons_zero, List.set_cons_succ]
      refine takeH 5 22 ?_ rfl rfl (by kernel_rfl) (by kernel_rfl) (by kernel_rfl) (fun _ _ _ h => h) (Or.inl ⟨by kernel_rfl, ?_⟩) hS ?_; rotate_left; (intro w' hw; first | (go_simp; done) | (go_simp; with_reducible rfl)); rotate_left
      try simp only [List.setIfInBounds_toArray, List.set_cons_zero, List.set_cons_succ]
      refine takeH 6 23 ?_ rfl rfl (by kernel_rfl) (by kernel_rfl) (by kernel_rfl) (fun _ _ _ h => h) (Or.inl ⟨by kernel_rfl, ?_⟩) hS ?_; rotate_left; (intro w' hw; first | (go_simp; done) | (go_simp; with_reducible rfl)); rotate_left
      try simp only [List.setIfInBounds_toArray, List.set_cons_zero, List.set_cons_succ]
      refine takeH 7 24 ?_ rfl rfl (by kernel_rfl) (by kernel_rfl) (by kernel_rfl) (fun _ _ _ h => h) (Or.inl ⟨by kernel_rfl, ?_⟩) hS ?_; rotate_left; (intro w' hw; refine yieldRowAt (x := .tmp 23) (g := g2) (off := off2 + j * 17) (k := key) (v := v) ?_ ?_ hw.2 <;> rfl); rotate_left
      try simp only [List.setIfInBounds_toArray, List.set_cons_zero, List.set_cons_succ]
      refine takeH 8 25 ?_ rfl rfl (by kernel_rfl) (by kernel_rfl) (by kernel_rfl) (fun _ _ _ h => h) (Or.inl ⟨by kernel_rfl, ?_⟩) hS ?_; rotate_left; (intro w' hw; first | (go_simp; done) | (go_simp; with_reducible rfl)); rotate_left
      try simp only [List.setIfInBounds_toArray, List.set_cons_zero, List.set_cons_succ]
      refine wpAnyH_done (by kernel_rfl) ?_ _
      clear hS hsr
      go_wp2
      go_roundw
      case rel => exact ⟨j + 1, by omega, by go_num, Lib.hid hbl.out.drew⟩
      case measure => simp [intOf]; omega
    · obtain rfl : j = R.length := by omega
      go_wp2
      go_ret
      exact ⟨rfl, hbl.out⟩
end Go.Proofs.Ytmdpfinadffcaaa
