/-
  The law ConfChecks, walked.
-/
import Derived.Test.YtafighelgdlocaaConfJ
import Derived.OrdersHeld
import Derived.Deep.RegionHeld
namespace Go.Proofs.Ytafighelgdlocaa
open Go.RowKit
set_option linter.unusedVariables false

theorem CfgAt.same {w w' : World} {c : Cf.C} {t : Nat → Cf.T} {l : Nat → Int} (h : CfgAt w c t l) (hb : Below w.heap.size w w') : CfgAt w' c t l := h.below hb
theorem Held.drew {w0 : World} {q : Nat} {c : Cf.C} {t : Nat → Cf.T} {l : Nat → Int} {w : World} (h : Held w0 q c t l w) : Held w0 q c t l w.drew := h.next (Below.refl _ _).drew
theorem held_box {w : World} {c : Cf.C} {t : Nat → Cf.T} {l : Nat → Int} (h : CfgAt w c t l) : Held w w.heap.size c t l (w.alloc (.cells c.cells 25)) :=
  ⟨heap_alloc_new _ _, h.below ((Below.refl _ _).alloc (Nat.le_refl _) _), (Below.refl _ _).alloc (Nat.le_refl _) _⟩
theorem yieldCfg {w : World} {ρ : Operand → Value} {o : Oper} {x : Operand} (ho : o.op = .load 25 x) (g : Nat) (hx : ρ x = .pointer (some ⟨g, 0, none⟩)) {c : Cf.C} (hg : w.heap[g]? = some (.cells c.cells 25)) :
    (execOp ρ o).run Try.prog w = .ok (.value (.agg c.cells)) w := by
  unfold execOp
  simp only [ho, hx, Instr.loadAt, Instr.sureAddr, Sem.run_bind, Sem.run_pure, Result.andThen_ok, run_loadVar_row w g 25 25 c.cells _ _ hg Try.underlying25 rfl infoCfg]

set_option maxRecDepth 100000 in
set_option maxHeartbeats 8000000 in
theorem confChecks_many (c : Cf.C) (w : World) (h : 100 < c.tl) : Calls Try.prog 3 #[c.val] w (Ret (.bool true) w) := by
  have KL := Lib.hid liveOk
  unfold Cf.C.val
  go_enter Try.func3, Try.ntmps3
  go_wp2_with (go_at_call 5; (with_reducible refine (KL.out _).mono ?_); rintro e wA ⟨rfl, hbA⟩)
  go_ret
  exact ⟨rfl, ((Below.refl _ _).alloc (Nat.le_refl _) _).trans (hbA.mono (by simp))⟩
set_option maxRecDepth 100000 in
set_option maxHeartbeats 8000000 in
theorem confChecks_long (c : Cf.C) (w : World) (h0 : c.tl ≤ 100) (h : 100 < c.ll) : Calls Try.prog 3 #[c.val] w (Ret (.bool true) w) := by
  have KL := Lib.hid liveOk
  unfold Cf.C.val
  go_enter Try.func3, Try.ntmps3
  go_wp2_with (go_at_call 5; (with_reducible refine (KL.out _).mono ?_); rintro e wA ⟨rfl, hbA⟩)
  go_ret
  exact ⟨rfl, ((Below.refl _ _).alloc (Nat.le_refl _) _).trans (hbA.mono (by simp))⟩

set_option maxRecDepth 100000 in
set_option maxHeartbeats 8000000 in
theorem confChecks_at (c : Cf.C) (t : Nat → Cf.T) (l : Nat → Int) (w : World) (h : CfgAt w c t l) : Calls Try.prog 3 #[c.val] w (Ret (.bool true) w) := by
  have KL := Lib.hid liveOk
  have KN := Lib.hid numC
  have KC := Lib.hid (checkK c t l)
  have KR := Lib.hid (refCheckK c t l)
  generalize Cf.check nmB c t l = e at *
  have hV := held_box h
  have h1 := h.tl
  have h2 := h.ll
  clear h
  unfold Cf.C.val
  go_enter Try.func3, Try.ntmps3
  go_upto_region 3 with fail
  refine wp_region_any (by kernel_rfl) ?_
  change wpAny _ _ _ _ _ _ _ (World.drew _)
  refine wpAny_of_held (S := Held w w.heap.size c t l) _ _ _ _ ?_
  have hS := hV.drew
  refine wpAnyH_take (i := 0) (v := .agg c.cells) rfl (by kernel_rfl) (by kernel_rfl) (by kernel_rfl) (fun _ _ _ h => h) (Or.inl ⟨by kernel_rfl, fun w' hw => yieldCfg rfl _ rfl hw.box⟩) hS ?_
  refine wpAnyH_take (i := 3) (v := .agg c.cells) rfl (by kernel_rfl) (by kernel_rfl) (by kernel_rfl) (fun _ _ _ h => h) (Or.inl ⟨by kernel_rfl, fun w' hw => yieldCfg rfl _ rfl hw.box⟩) hS ?_
  refine wpAnyH_ready (rs := [1]) (by kernel_rfl) (by simp) ?_; refine AllReadyH.cons rfl (fun K hK => ?_) AllReadyH.nil; go_simp; go_wp2_with ((first | (go_at_call 7; (with_reducible refine (KC.out _ hS.cfg).mono ?_); rintro e wA ⟨rfl, hbA⟩; replace hS := hS.next hbA; clear hbA) | (go_at_call 8; (with_reducible refine (KR.out _ hS.cfg).mono ?_); rintro e wA ⟨rfl, hbA⟩; replace hS := hS.next hbA; clear hbA) | (go_at_call 6; (with_reducible refine (KN.out _ _).mono ?_); rintro e wA ⟨rfl, rfl⟩) | (go_at_call 5; (with_reducible refine (KL.out _).mono ?_); rintro e wA ⟨rfl, hbA⟩; replace hS := hS.next hbA; clear hbA))); refine hK.out _ _ ?_ (fun _ => ?_); (exact hS); clear hK K
  refine wpAnyH_ready (rs := [2]) (by kernel_rfl) (by simp) ?_; refine AllReadyH.cons rfl (fun K hK => ?_) AllReadyH.nil; go_simp; go_wp2_with ((first | (go_at_call 7; (with_reducible refine (KC.out _ hS.cfg).mono ?_); rintro e wA ⟨rfl, hbA⟩; replace hS := hS.next hbA; clear hbA) | (go_at_call 8; (with_reducible refine (KR.out _ hS.cfg).mono ?_); rintro e wA ⟨rfl, hbA⟩; replace hS := hS.next hbA; clear hbA) | (go_at_call 6; (with_reducible refine (KN.out _ _).mono ?_); rintro e wA ⟨rfl, rfl⟩) | (go_at_call 5; (with_reducible refine (KL.out _).mono ?_); rintro e wA ⟨rfl, hbA⟩; replace hS := hS.next hbA; clear hbA))); refine hK.out _ _ ?_ (fun _ => ?_); (exact hS); clear hK K
  refine wpAnyH_ready (rs := [4]) (by kernel_rfl) (by simp) ?_; refine AllReadyH.cons rfl (fun K hK => ?_) AllReadyH.nil; go_simp; go_wp2_with ((first | (go_at_call 7; (with_reducible refine (KC.out _ hS.cfg).mono ?_); rintro e wA ⟨rfl, hbA⟩; replace hS := hS.next hbA; clear hbA) | (go_at_call 8; (with_reducible refine (KR.out _ hS.cfg).mono ?_); rintro e wA ⟨rfl, hbA⟩; replace hS := hS.next hbA; clear hbA) | (go_at_call 6; (with_reducible refine (KN.out _ _).mono ?_); rintro e wA ⟨rfl, rfl⟩) | (go_at_call 5; (with_reducible refine (KL.out _).mono ?_); rintro e wA ⟨rfl, hbA⟩; replace hS := hS.next hbA; clear hbA))); refine hK.out _ _ ?_ (fun _ => ?_); (exact hS); clear hK K
  refine wpAnyH_take (i := 5) (v := ?_) rfl (by kernel_rfl) (by kernel_rfl) (by kernel_rfl) (fun _ _ _ h => h) (Or.inl ⟨by kernel_rfl, ?_⟩) hS ?_; rotate_left; (intro w hw; first | (go_simp; done) | (go_simp; with_reducible rfl)); rotate_left
  refine wpAnyH_take (i := 6) (v := ?_) rfl (by kernel_rfl) (by kernel_rfl) (by kernel_rfl) (fun _ _ _ h => h) (Or.inl ⟨by kernel_rfl, ?_⟩) hS ?_; rotate_left; (intro w hw; first | (go_simp; done) | (go_simp; with_reducible rfl)); rotate_left
  refine wpAnyH_ready (rs := [7]) (by kernel_rfl) (by simp) ?_; refine AllReadyH.cons rfl (fun K hK => ?_) AllReadyH.nil; go_simp; go_wp2_with ((first | (go_at_call 7; (with_reducible refine (KC.out _ hS.cfg).mono ?_); rintro e wA ⟨rfl, hbA⟩; replace hS := hS.next hbA; clear hbA) | (go_at_call 8; (with_reducible refine (KR.out _ hS.cfg).mono ?_); rintro e wA ⟨rfl, hbA⟩; replace hS := hS.next hbA; clear hbA) | (go_at_call 6; (with_reducible refine (KN.out _ _).mono ?_); rintro e wA ⟨rfl, rfl⟩) | (go_at_call 5; (with_reducible refine (KL.out _).mono ?_); rintro e wA ⟨rfl, hbA⟩; replace hS := hS.next hbA; clear hbA))); refine hK.out _ _ ?_ (fun _ => ?_); (exact hS); clear hK K
  refine wpAnyH_take (i := 8) (v := ?_) rfl (by kernel_rfl) (by kernel_rfl) (by kernel_rfl) (fun _ _ _ h => h) (Or.inl ⟨by kernel_rfl, ?_⟩) hS ?_; rotate_left; (intro w hw; first | (go_simp; done) | (go_simp; with_reducible rfl)); rotate_left
  refine wpAnyH_take (i := 9) (v := ?_) rfl (by kernel_rfl) (by kernel_rfl) (by kernel_rfl) (fun _ _ _ h => h) (Or.inl ⟨by kernel_rfl, ?_⟩) hS ?_; rotate_left; (intro w hw; first | (go_simp; done) | (go_simp; with_reducible rfl)); rotate_left
  refine wpAnyH_done (by kernel_rfl) ?_ _
  go_wp2
  go_ret
  exact ⟨rfl, hS.b⟩
end Go.Proofs.Ytafighelgdlocaa
