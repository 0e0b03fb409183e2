/-
  The law ConfTells, walked.
-/
import Derived.Test.YtafighelgdlocaaConfK
namespace Go.Proofs.Ytafighelgdlocaa
open Go.RowKit
set_option linter.unusedVariables false

/-- 'wpAnyH_take' with the slot written out: else the state grows by a layer a take -/
theorem takeH {P : Program} {ops : Array Oper} {Q : Exit → Act → World → Prop} {md : Region.Mode} {S : World → Prop} (i : Nat) (d : Tmp) (v : Value) {oi : Oper} {fuel : Nat} {listed : Array Bool} {a : Act} {w : World} (hi : ops[i]? = some oi) (hd : oi.dst = some d)
    (hs : Region.noSelect ops = true) (hf : Region.free md ops listed i = true) (hr : (Region.ready md ops listed).contains i = true)
    (hQ : ∀ c a w, Q (.panic c) (a.put oi.dst v) w → Q (.panic c) a w) (hy : YieldsIf P ops S oi v a) (hS : S w)
    (h : wpAnyH P md ops Q S fuel (listed.setIfInBounds i true) ⟨a.tmps.setIfInBounds d v, a.defers⟩ w) : wpAnyH P md ops Q S (fuel + 1) listed a w :=
  wpAnyH_take hi hs hf hr hQ hy hS (by rw [hd]; exact h)

set_option maxRecDepth 100000 in
set_option maxHeartbeats 16000000 in
theorem confTells_many (c : Cf.C) (k : Int) (n : ByteArray) (w : World) (h : 100 < c.tl) : Calls Try.prog 4 #[c.val, .int .i64 k, .string n] w (Ret (.bool true) w) := by
  have KL := Lib.hid liveOk
  unfold Cf.C.val
  go_enter Try.func4, Try.ntmps4
  go_wp2_with (go_at_call 5; (with_reducible refine (KL.out _).mono ?_); rintro e wA ⟨rfl, hbA⟩)
  go_ret
  exact ⟨rfl, ((Below.refl _ _).alloc (Nat.le_refl _) _).trans (hbA.mono (by simp))⟩
set_option maxRecDepth 100000 in
set_option maxHeartbeats 16000000 in
theorem confTells_long (c : Cf.C) (k : Int) (n : ByteArray) (w : World) (h0 : c.tl ≤ 100) (h : 100 < c.ll) : Calls Try.prog 4 #[c.val, .int .i64 k, .string n] w (Ret (.bool true) w) := by
  have KL := Lib.hid liveOk
  unfold Cf.C.val
  go_enter Try.func4, Try.ntmps4
  go_wp2_with (go_at_call 5; (with_reducible refine (KL.out _).mono ?_); rintro e wA ⟨rfl, hbA⟩)
  go_ret
  exact ⟨rfl, ((Below.refl _ _).alloc (Nat.le_refl _) _).trans (hbA.mono (by simp))⟩
set_option maxRecDepth 100000 in
set_option maxHeartbeats 16000000 in
theorem confTells_miss (c : Cf.C) (t : Nat → Cf.T) (l : Nat → Int) (k : Int) (n : ByteArray) (p q s : Int) (w : World) (h : CfgAt w c t l)
    (KT : Hid (∀ W, CfgAt W c t l → Calls Try.prog 9 #[.agg c.cells, .string n] W (Ret (.tuple #[.int .i64 0, .bool false]) W)))
    (KU : Hid (∀ W, CfgAt W c t l → Calls Try.prog 10 #[.agg c.cells, .string n] W (Ret (.int .i64 (-1)) W)))
    (K1 : Hid (∀ W, CfgAt W c t l → Calls Try.prog 11 #[.agg c.cells] W (Ret (.int .i64 p) W)))
    (K2 : Hid (∀ W, CfgAt W c t l → Calls Try.prog 12 #[.agg c.cells] W (Ret (.int .i64 p) W)))
    (K3 : Hid (∀ W, CfgAt W c t l → Calls Try.prog 13 #[.agg c.cells, .int .i64 k] W (Ret (.int .i64 q) W)))
    (K4 : Hid (∀ W, CfgAt W c t l → Calls Try.prog 14 #[.agg c.cells, .int .i64 k] W (Ret (.int .i64 q) W)))
    (K5 : Hid (∀ W, CfgAt W c t l → Calls Try.prog 15 #[.agg c.cells] W (Ret (.int .i64 s) W)))
    (K6 : Hid (∀ W, CfgAt W c t l → Calls Try.prog 16 #[.agg c.cells] W (Ret (.int .i64 s) W)))
    (hmax : ∀ ts t P w, (Builtin.max_ ts t #[.int .i64 (-1), .int .i64 0]).run P w = .ok (.int .i64 0) w) :
    Calls Try.prog 4 #[c.val, .int .i64 k, .string n] w (Ret (.bool true) w) := by
  have KL := Lib.hid liveOk
  have hV := held_box h
  have h1 := h.tl
  have h2 := h.ll
  clear h
  unfold Cf.C.val
  go_enter Try.func4, Try.ntmps4
  go_upto_region 5 with (first | (refine wpLoadCfg _ rfl rfl _ rfl c hV.box ?_) | (go_at_call 9; (with_reducible refine (KT.out _ hV.cfg).mono ?_); rintro e wA ⟨rfl, hbA⟩; replace hV := hV.next hbA; clear hbA) | (go_at_call 10; (with_reducible refine (KU.out _ hV.cfg).mono ?_); rintro e wA ⟨rfl, hbA⟩; replace hV := hV.next hbA; clear hbA))
  refine wp_region_any (by kernel_rfl) ?_
  change wpAny _ _ _ _ _ _ _ (World.drew _)
  refine wpAny_of_held (S := Held w w.heap.size c t l) _ _ _ _ ?_
  have hS := hV.drew
  refine takeH 0 30 (.agg c.cells) rfl rfl (by kernel_rfl) (by kernel_rfl) (by kernel_rfl) (fun _ _ _ h => h) (Or.inl ⟨by kernel_rfl, fun w' hw => yieldCfg rfl _ rfl hw.box⟩) hS ?_
  try simp only [List.setIfInBounds_toArray, List.set_cons_zero, List.set_cons_succ]
  refine takeH 2 32 (.agg c.cells) rfl rfl (by kernel_rfl) (by kernel_rfl) (by kernel_rfl) (fun _ _ _ h => h) (Or.inl ⟨by kernel_rfl, fun w' hw => yieldCfg rfl _ rfl hw.box⟩) hS ?_
  try simp only [List.setIfInBounds_toArray, List.set_cons_zero, List.set_cons_succ]
  refine wpAnyH_ready (rs := [1]) (by kernel_rfl) (by simp) ?_; refine AllReadyH.cons rfl (fun K hK => ?_) AllReadyH.nil; go_simp; go_wp2_with ((first | (go_at_call 11; (with_reducible refine (K1.out _ hS.cfg).mono ?_); rintro e wA ⟨rfl, hbA⟩; replace hS := hS.next hbA; clear hbA) | (go_at_call 12; (with_reducible refine (K2.out _ hS.cfg).mono ?_); rintro e wA ⟨rfl, hbA⟩; replace hS := hS.next hbA; clear hbA) | (go_at_call 13; (with_reducible refine (K3.out _ hS.cfg).mono ?_); rintro e wA ⟨rfl, hbA⟩; replace hS := hS.next hbA; clear hbA) | (go_at_call 14; (with_reducible refine (K4.out _ hS.cfg).mono ?_); rintro e wA ⟨rfl, hbA⟩; replace hS := hS.next hbA; clear hbA) | (go_at_call 15; (with_reducible refine (K5.out _ hS.cfg).mono ?_); rintro e wA ⟨rfl, hbA⟩; replace hS := hS.next hbA; clear hbA) | (go_at_call 16; (with_reducible refine (K6.out _ hS.cfg).mono ?_); rintro e wA ⟨rfl, hbA⟩; replace hS := hS.next hbA; clear hbA) | (go_at_call 5; (with_reducible refine (KL.out _).mono ?_); rintro e wA ⟨rfl, hbA⟩; replace hS := hS.next hbA; clear hbA))); refine hK.out _ _ ?_ (fun _ => ?_); (exact hS); clear hK K
  refine wpAnyH_ready (rs := [3]) (by kernel_rfl) (by simp) ?_; refine AllReadyH.cons rfl (fun K hK => ?_) AllReadyH.nil; go_simp; go_wp2_with ((first | (go_at_call 11; (with_reducible refine (K1.out _ hS.cfg).mono ?_); rintro e wA ⟨rfl, hbA⟩; replace hS := hS.next hbA; clear hbA) | (go_at_call 12; (with_reducible refine (K2.out _ hS.cfg).mono ?_); rintro e wA ⟨rfl, hbA⟩; replace hS := hS.next hbA; clear hbA) | (go_at_call 13; (with_reducible refine (K3.out _ hS.cfg).mono ?_); rintro e wA ⟨rfl, hbA⟩; replace hS := hS.next hbA; clear hbA) | (go_at_call 14; (with_reducible refine (K4.out _ hS.cfg).mono ?_); rintro e wA ⟨rfl, hbA⟩; replace hS := hS.next hbA; clear hbA) | (go_at_call 15; (with_reducible refine (K5.out _ hS.cfg).mono ?_); rintro e wA ⟨rfl, hbA⟩; replace hS := hS.next hbA; clear hbA) | (go_at_call 16; (with_reducible refine (K6.out _ hS.cfg).mono ?_); rintro e wA ⟨rfl, hbA⟩; replace hS := hS.next hbA; clear hbA) | (go_at_call 5; (with_reducible refine (KL.out _).mono ?_); rintro e wA ⟨rfl, hbA⟩; replace hS := hS.next hbA; clear hbA))); refine hK.out _ _ ?_ (fun _ => ?_); (exact hS); clear hK K
  refine takeH 4 34 ?_ rfl rfl (by kernel_rfl) (by kernel_rfl) (by kernel_rfl) (fun _ _ _ h => h) (Or.inl ⟨by kernel_rfl, ?_⟩) hS ?_; rotate_left; (intro w hw; first | (go_simp; done) | (go_simp; with_reducible rfl)); rotate_left
  try simp only [List.setIfInBounds_toArray, List.set_cons_zero, List.set_cons_succ]
  refine takeH 5 35 ?_ rfl rfl (by kernel_rfl) (by kernel_rfl) (by kernel_rfl) (fun _ _ _ h => h) (Or.inl ⟨by kernel_rfl, ?_⟩) hS ?_; rotate_left; (intro w hw; first | (go_simp; done) | (go_simp; with_reducible rfl)); rotate_left
  try simp only [List.setIfInBounds_toArray, List.set_cons_zero, List.set_cons_succ]
  refine takeH 6 36 (.agg c.cells) rfl rfl (by kernel_rfl) (by kernel_rfl) (by kernel_rfl) (fun _ _ _ h => h) (Or.inl ⟨by kernel_rfl, fun w' hw => yieldCfg rfl _ rfl hw.box⟩) hS ?_
  try simp only [List.setIfInBounds_toArray, List.set_cons_zero, List.set_cons_succ]
  refine takeH 7 37 ?_ rfl rfl (by kernel_rfl) (by kernel_rfl) (by kernel_rfl) (fun _ _ _ h => h) (Or.inl ⟨by kernel_rfl, ?_⟩) hS ?_; rotate_left; (intro w hw; first | (go_simp; done) | (go_simp; with_reducible rfl)); rotate_left
  try simp only [List.setIfInBounds_toArray, List.set_cons_zero, List.set_cons_succ]
  refine takeH 9 39 (.agg c.cells) rfl rfl (by kernel_rfl) (by kernel_rfl) (by kernel_rfl) (fun _ _ _ h => h) (Or.inl ⟨by kernel_rfl, fun w' hw => yieldCfg rfl _ rfl hw.box⟩) hS ?_
  try simp only [List.setIfInBounds_toArray, List.set_cons_zero, List.set_cons_succ]
  refine takeH 10 40 ?_ rfl rfl (by kernel_rfl) (by kernel_rfl) (by kernel_rfl) (fun _ _ _ h => h) (Or.inl ⟨by kernel_rfl, ?_⟩) hS ?_; rotate_left; (intro w hw; first | (go_simp; done) | (go_simp; with_reducible rfl)); rotate_left
  try simp only [List.setIfInBounds_toArray, List.set_cons_zero, List.set_cons_succ]
  refine wpAnyH_ready (rs := [8]) (by kernel_rfl) (by simp) ?_; refine AllReadyH.cons rfl (fun K hK => ?_) AllReadyH.nil; go_simp; go_wp2_with ((first | (go_at_call 11; (with_reducible refine (K1.out _ hS.cfg).mono ?_); rintro e wA ⟨rfl, hbA⟩; replace hS := hS.next hbA; clear hbA) | (go_at_call 12; (with_reducible refine (K2.out _ hS.cfg).mono ?_); rintro e wA ⟨rfl, hbA⟩; replace hS := hS.next hbA; clear hbA) | (go_at_call 13; (with_reducible refine (K3.out _ hS.cfg).mono ?_); rintro e wA ⟨rfl, hbA⟩; replace hS := hS.next hbA; clear hbA) | (go_at_call 14; (with_reducible refine (K4.out _ hS.cfg).mono ?_); rintro e wA ⟨rfl, hbA⟩; replace hS := hS.next hbA; clear hbA) | (go_at_call 15; (with_reducible refine (K5.out _ hS.cfg).mono ?_); rintro e wA ⟨rfl, hbA⟩; replace hS := hS.next hbA; clear hbA) | (go_at_call 16; (with_reducible refine (K6.out _ hS.cfg).mono ?_); rintro e wA ⟨rfl, hbA⟩; replace hS := hS.next hbA; clear hbA) | (go_at_call 5; (with_reducible refine (KL.out _).mono ?_); rintro e wA ⟨rfl, hbA⟩; replace hS := hS.next hbA; clear hbA))); refine hK.out _ _ ?_ (fun _ => ?_); (exact hS); clear hK K
  refine wpAnyH_ready (rs := [11]) (by kernel_rfl) (by simp) ?_; refine AllReadyH.cons rfl (fun K hK => ?_) AllReadyH.nil; go_simp; go_wp2_with ((first | (go_at_call 11; (with_reducible refine (K1.out _ hS.cfg).mono ?_); rintro e wA ⟨rfl, hbA⟩; replace hS := hS.next hbA; clear hbA) | (go_at_call 12; (with_reducible refine (K2.out _ hS.cfg).mono ?_); rintro e wA ⟨rfl, hbA⟩; replace hS := hS.next hbA; clear hbA) | (go_at_call 13; (with_reducible refine (K3.out _ hS.cfg).mono ?_); rintro e wA ⟨rfl, hbA⟩; replace hS := hS.next hbA; clear hbA) | (go_at_call 14; (with_reducible refine (K4.out _ hS.cfg).mono ?_); rintro e wA ⟨rfl, hbA⟩; replace hS := hS.next hbA; clear hbA) | (go_at_call 15; (with_reducible refine (K5.out _ hS.cfg).mono ?_); rintro e wA ⟨rfl, hbA⟩; replace hS := hS.next hbA; clear hbA) | (go_at_call 16; (with_reducible refine (K6.out _ hS.cfg).mono ?_); rintro e wA ⟨rfl, hbA⟩; replace hS := hS.next hbA; clear hbA) | (go_at_call 5; (with_reducible refine (KL.out _).mono ?_); rintro e wA ⟨rfl, hbA⟩; replace hS := hS.next hbA; clear hbA))); refine hK.out _ _ ?_ (fun _ => ?_); (exact hS); clear hK K
  refine takeH 12 42 ?_ rfl rfl (by kernel_rfl) (by kernel_rfl) (by kernel_rfl) (fun _ _ _ h => h) (Or.inl ⟨by kernel_rfl, ?_⟩) hS ?_; rotate_left; (intro w hw; first | (go_simp; done) | (go_simp; with_reducible rfl)); rotate_left
  try simp only [List.setIfInBounds_toArray, List.set_cons_zero, List.set_cons_succ]
  refine takeH 13 43 ?_ rfl rfl (by kernel_rfl) (by kernel_rfl) (by kernel_rfl) (fun _ _ _ h => h) (Or.inl ⟨by kernel_rfl, ?_⟩) hS ?_; rotate_left; (intro w hw; first | (go_simp; done) | (go_simp; with_reducible rfl)); rotate_left
  try simp only [List.setIfInBounds_toArray, List.set_cons_zero, List.set_cons_succ]
  refine takeH 14 44 ?_ rfl rfl (by kernel_rfl) (by kernel_rfl) (by kernel_rfl) (fun _ _ _ h => h) (Or.inl ⟨by kernel_rfl, ?_⟩) hS ?_; rotate_left; (intro w hw; first | (go_simp; done) | (go_simp; with_reducible rfl)); rotate_left
  try simp only [List.setIfInBounds_toArray, List.set_cons_zero, List.set_cons_succ]
  refine takeH 15 45 ?_ rfl rfl (by kernel_rfl) (by kernel_rfl) (by kernel_rfl) (fun _ _ _ h => h) (Or.inl ⟨by kernel_rfl, ?_⟩) hS ?_; rotate_left; (intro w hw; first | (go_simp; done) | (go_simp; with_reducible rfl)); rotate_left
  try simp only [List.setIfInBounds_toArray, List.set_cons_zero, List.set_cons_succ]
  refine takeH 16 46 ?_ rfl rfl (by kernel_rfl) (by kernel_rfl) (by kernel_rfl) (fun _ _ _ h => h) (Or.inl ⟨by kernel_rfl, ?_⟩) hS ?_; rotate_left; (intro w hw; first | (go_simp; done) | (go_simp; with_reducible rfl)); rotate_left
  try simp only [List.setIfInBounds_toArray, List.set_cons_zero, List.set_cons_succ]
  refine takeH 17 47 ?_ rfl rfl (by kernel_rfl) (by kernel_rfl) (by kernel_rfl) (fun _ _ _ h => h) (Or.inl ⟨by kernel_rfl, ?_⟩) hS ?_; rotate_left; (intro w hw; first | (go_simp; done) | (go_simp; with_reducible rfl)); rotate_left
  try simp only [List.setIfInBounds_toArray, List.set_cons_zero, List.set_cons_succ]
  refine takeH 18 48 ?_ rfl rfl (by kernel_rfl) (by kernel_rfl) (by kernel_rfl) (fun _ _ _ h => h) (Or.inl ⟨by kernel_rfl, ?_⟩) hS ?_; rotate_left; (intro w hw; first | (go_simp; done) | (go_simp; with_reducible rfl)); rotate_left
  try simp only [List.setIfInBounds_toArray, List.set_cons_zero, List.set_cons_succ]
  refine takeH 19 49 ?_ rfl rfl (by kernel_rfl) (by kernel_rfl) (by kernel_rfl) (fun _ _ _ h => h) (Or.inl ⟨by kernel_rfl, ?_⟩) hS ?_; rotate_left; (intro w hw; first | (go_simp; done) | (go_simp; with_reducible rfl)); rotate_left
  try simp only [List.setIfInBounds_toArray, List.set_cons_zero, List.set_cons_succ]
  refine takeH 20 50 ?_ rfl rfl (by kernel_rfl) (by kernel_rfl) (by kernel_rfl) (fun _ _ _ h => h) (Or.inl ⟨by kernel_rfl, ?_⟩) hS ?_; rotate_left; (intro w hw; first | (go_simp; done) | (go_simp; with_reducible rfl)); rotate_left
  try simp only [List.setIfInBounds_toArray, List.set_cons_zero, List.set_cons_succ]
  refine takeH 21 51 ?_ rfl rfl (by kernel_rfl) (by kernel_rfl) (by kernel_rfl) (fun _ _ _ h => h) (Or.inl ⟨by kernel_rfl, ?_⟩) hS ?_; rotate_left; (intro w hw; first | (go_simp; done) | (go_simp; with_reducible rfl)); rotate_left
  try simp only [List.setIfInBounds_toArray, List.set_cons_zero, List.set_cons_succ]
  refine takeH 22 52 ?_ rfl rfl (by kernel_rfl) (by kernel_rfl) (by kernel_rfl) (fun _ _ _ h => h) (Or.inl ⟨by kernel_rfl, ?_⟩) hS ?_; rotate_left; (intro w hw; first | (go_simp; done) | (go_simp; with_reducible rfl)); rotate_left
  try simp only [List.setIfInBounds_toArray, List.set_cons_zero, List.set_cons_succ]
  refine takeH 23 53 ?_ rfl rfl (by kernel_rfl) (by kernel_rfl) (by kernel_rfl) (fun _ _ _ h => h) (Or.inl ⟨by kernel_rfl, ?_⟩) hS ?_; rotate_left; (intro w hw; first | (go_simp; done) | (go_simp; with_reducible rfl)); rotate_left
  try simp only [List.setIfInBounds_toArray, List.set_cons_zero, List.set_cons_succ]
  refine takeH 24 54 ?_ rfl rfl (by kernel_rfl) (by kernel_rfl) (by kernel_rfl) (fun _ _ _ h => h) (Or.inl ⟨by kernel_rfl, ?_⟩) hS ?_; rotate_left; (intro w hw; first | (go_simp; done) | (go_simp; with_reducible rfl)); rotate_left
  try simp only [List.setIfInBounds_toArray, List.set_cons_zero, List.set_cons_succ]
  refine takeH 25 55 ?_ rfl rfl (by kernel_rfl) (by kernel_rfl) (by kernel_rfl) (fun _ _ _ h => h) (Or.inl ⟨by kernel_rfl, ?_⟩) hS ?_; rotate_left; (intro w hw; first | (go_simp; done) | (go_simp; with_reducible rfl)); rotate_left
  try simp only [List.setIfInBounds_toArray, List.set_cons_zero, List.set_cons_succ]
  refine takeH 26 56 ?_ rfl rfl (by kernel_rfl) (by kernel_rfl) (by kernel_rfl) (fun _ _ _ h => h) (Or.inl ⟨by kernel_rfl, ?_⟩) hS ?_; rotate_left; (intro w hw; first | (go_simp; done) | (go_simp; with_reducible rfl)); rotate_left
  try simp only [List.setIfInBounds_toArray, List.set_cons_zero, List.set_cons_succ]
  refine takeH 27 57 (.agg c.cells) rfl rfl (by kernel_rfl) (by kernel_rfl) (by kernel_rfl) (fun _ _ _ h => h) (Or.inl ⟨by kernel_rfl, fun w' hw => yieldCfg rfl _ rfl hw.box⟩) hS ?_
  try simp only [List.setIfInBounds_toArray, List.set_cons_zero, List.set_cons_succ]
  refine takeH 29 59 (.agg c.cells) rfl rfl (by kernel_rfl) (by kernel_rfl) (by kernel_rfl) (fun _ _ _ h => h) (Or.inl ⟨by kernel_rfl, fun w' hw => yieldCfg rfl _ rfl hw.box⟩) hS ?_
  try simp only [List.setIfInBounds_toArray, List.set_cons_zero, List.set_cons_succ]
  refine wpAnyH_ready (rs := [28]) (by kernel_rfl) (by simp) ?_; refine AllReadyH.cons rfl (fun K hK => ?_) AllReadyH.nil; go_simp; go_wp2_with ((first | (go_at_call 11; (with_reducible refine (K1.out _ hS.cfg).mono ?_); rintro e wA ⟨rfl, hbA⟩; replace hS := hS.next hbA; clear hbA) | (go_at_call 12; (with_reducible refine (K2.out _ hS.cfg).mono ?_); rintro e wA ⟨rfl, hbA⟩; replace hS := hS.next hbA; clear hbA) | (go_at_call 13; (with_reducible refine (K3.out _ hS.cfg).mono ?_); rintro e wA ⟨rfl, hbA⟩; replace hS := hS.next hbA; clear hbA) | (go_at_call 14; (with_reducible refine (K4.out _ hS.cfg).mono ?_); rintro e wA ⟨rfl, hbA⟩; replace hS := hS.next hbA; clear hbA) | (go_at_call 15; (with_reducible refine (K5.out _ hS.cfg).mono ?_); rintro e wA ⟨rfl, hbA⟩; replace hS := hS.next hbA; clear hbA) | (go_at_call 16; (with_reducible refine (K6.out _ hS.cfg).mono ?_); rintro e wA ⟨rfl, hbA⟩; replace hS := hS.next hbA; clear hbA) | (go_at_call 5; (with_reducible refine (KL.out _).mono ?_); rintro e wA ⟨rfl, hbA⟩; replace hS := hS.next hbA; clear hbA))); refine hK.out _ _ ?_ (fun _ => ?_); (exact hS); clear hK K
  refine wpAnyH_ready (rs := [30]) (by kernel_rfl) (by simp) ?_; refine AllReadyH.cons rfl (fun K hK => ?_) AllReadyH.nil; go_simp; go_wp2_with ((first | (go_at_call 11; (with_reducible refine (K1.out _ hS.cfg).mono ?_); rintro e wA ⟨rfl, hbA⟩; replace hS := hS.next hbA; clear hbA) | (go_at_call 12; (with_reducible refine (K2.out _ hS.cfg).mono ?_); rintro e wA ⟨rfl, hbA⟩; replace hS := hS.next hbA; clear hbA) | (go_at_call 13; (with_reducible refine (K3.out _ hS.cfg).mono ?_); rintro e wA ⟨rfl, hbA⟩; replace hS := hS.next hbA; clear hbA) | (go_at_call 14; (with_reducible refine (K4.out _ hS.cfg).mono ?_); rintro e wA ⟨rfl, hbA⟩; replace hS := hS.next hbA; clear hbA) | (go_at_call 15; (with_reducible refine (K5.out _ hS.cfg).mono ?_); rintro e wA ⟨rfl, hbA⟩; replace hS := hS.next hbA; clear hbA) | (go_at_call 16; (with_reducible refine (K6.out _ hS.cfg).mono ?_); rintro e wA ⟨rfl, hbA⟩; replace hS := hS.next hbA; clear hbA) | (go_at_call 5; (with_reducible refine (KL.out _).mono ?_); rintro e wA ⟨rfl, hbA⟩; replace hS := hS.next hbA; clear hbA))); refine hK.out _ _ ?_ (fun _ => ?_); (exact hS); clear hK K
  refine takeH 31 61 ?_ rfl rfl (by kernel_rfl) (by kernel_rfl) (by kernel_rfl) (fun _ _ _ h => h) (Or.inl ⟨by kernel_rfl, ?_⟩) hS ?_; rotate_left; (intro w hw; first | (go_simp; done) | (go_simp; with_reducible rfl)); rotate_left
  try simp only [List.setIfInBounds_toArray, List.set_cons_zero, List.set_cons_succ]
  refine takeH 32 62 ?_ rfl rfl (by kernel_rfl) (by kernel_rfl) (by kernel_rfl) (fun _ _ _ h => h) (Or.inl ⟨by kernel_rfl, ?_⟩) hS ?_; rotate_left; (intro w hw; first | (go_simp; done) | (go_simp; with_reducible rfl)); rotate_left
  try simp only [List.setIfInBounds_toArray, List.set_cons_zero, List.set_cons_succ]
  refine takeH 33 63 ?_ rfl rfl (by kernel_rfl) (by kernel_rfl) (by kernel_rfl) (fun _ _ _ h => h) (Or.inl ⟨by kernel_rfl, ?_⟩) hS ?_; rotate_left; (intro w hw; first | (go_simp; done) | (go_simp; with_reducible rfl)); rotate_left
  try simp only [List.setIfInBounds_toArray, List.set_cons_zero, List.set_cons_succ]
  refine wpAnyH_ready (rs := [34]) (by kernel_rfl) (by simp) ?_; refine AllReadyH.cons rfl (fun K hK => ?_) AllReadyH.nil; go_simp; go_wp2_with ((first | (go_at_call 11; (with_reducible refine (K1.out _ hS.cfg).mono ?_); rintro e wA ⟨rfl, hbA⟩; replace hS := hS.next hbA; clear hbA) | (go_at_call 12; (with_reducible refine (K2.out _ hS.cfg).mono ?_); rintro e wA ⟨rfl, hbA⟩; replace hS := hS.next hbA; clear hbA) | (go_at_call 13; (with_reducible refine (K3.out _ hS.cfg).mono ?_); rintro e wA ⟨rfl, hbA⟩; replace hS := hS.next hbA; clear hbA) | (go_at_call 14; (with_reducible refine (K4.out _ hS.cfg).mono ?_); rintro e wA ⟨rfl, hbA⟩; replace hS := hS.next hbA; clear hbA) | (go_at_call 15; (with_reducible refine (K5.out _ hS.cfg).mono ?_); rintro e wA ⟨rfl, hbA⟩; replace hS := hS.next hbA; clear hbA) | (go_at_call 16; (with_reducible refine (K6.out _ hS.cfg).mono ?_); rintro e wA ⟨rfl, hbA⟩; replace hS := hS.next hbA; clear hbA) | (go_at_call 5; (with_reducible refine (KL.out _).mono ?_); rintro e wA ⟨rfl, hbA⟩; replace hS := hS.next hbA; clear hbA))); refine hK.out _ _ ?_ (fun _ => ?_); (exact hS); clear hK K
  refine takeH 35 65 ?_ rfl rfl (by kernel_rfl) (by kernel_rfl) (by kernel_rfl) (fun _ _ _ h => h) (Or.inl ⟨by kernel_rfl, ?_⟩) hS ?_; rotate_left; (intro w hw; first | (go_simp; done) | (go_simp; with_reducible rfl)); rotate_left
  try simp only [List.setIfInBounds_toArray, List.set_cons_zero, List.set_cons_succ]
  refine takeH 36 6 ?_ rfl rfl (by kernel_rfl) (by kernel_rfl) (by kernel_rfl) (fun _ _ _ h => h) (Or.inl ⟨by kernel_rfl, ?_⟩) hS ?_; rotate_left; (intro w hw; first | (go_simp; done) | (go_simp; with_reducible rfl)); rotate_left
  try simp only [List.setIfInBounds_toArray, List.set_cons_zero, List.set_cons_succ]
  refine wpAnyH_done (by kernel_rfl) ?_ _
  go_wp2
  go_ret
  exact ⟨rfl, hS.b⟩

set_option maxRecDepth 100000 in
set_option maxHeartbeats 16000000 in
theorem confTells_hit (c : Cf.C) (t : Nat → Cf.T) (l : Nat → Int) (k : Int) (n : ByteArray) (j : Nat) (p q s : Int) (w : World) (h : CfgAt w c t l)
    (KT : Hid (∀ W, CfgAt W c t l → Calls Try.prog 9 #[.agg c.cells, .string n] W (Ret (.tuple #[.int .i64 (j : Int), .bool true]) W)))
    (KU : Hid (∀ W, CfgAt W c t l → Calls Try.prog 10 #[.agg c.cells, .string n] W (Ret (.int .i64 (j : Int)) W)))
    (K1 : Hid (∀ W, CfgAt W c t l → Calls Try.prog 11 #[.agg c.cells] W (Ret (.int .i64 p) W)))
    (K2 : Hid (∀ W, CfgAt W c t l → Calls Try.prog 12 #[.agg c.cells] W (Ret (.int .i64 p) W)))
    (K3 : Hid (∀ W, CfgAt W c t l → Calls Try.prog 13 #[.agg c.cells, .int .i64 k] W (Ret (.int .i64 q) W)))
    (K4 : Hid (∀ W, CfgAt W c t l → Calls Try.prog 14 #[.agg c.cells, .int .i64 k] W (Ret (.int .i64 q) W)))
    (K5 : Hid (∀ W, CfgAt W c t l → Calls Try.prog 15 #[.agg c.cells] W (Ret (.int .i64 s) W)))
    (K6 : Hid (∀ W, CfgAt W c t l → Calls Try.prog 16 #[.agg c.cells] W (Ret (.int .i64 s) W)))
    (hmax : ∀ ts t P w, (Builtin.max_ ts t #[.int .i64 (j : Int), .int .i64 0]).run P w = .ok (.int .i64 (j : Int)) w) :
    Calls Try.prog 4 #[c.val, .int .i64 k, .string n] w (Ret (.bool true) w) := by
  have KL := Lib.hid liveOk
  have hV := held_box h
  have h1 := h.tl
  have h2 := h.ll
  clear h
  unfold Cf.C.val
  go_enter Try.func4, Try.ntmps4
  go_upto_region 5 with (first | (refine wpLoadCfg _ rfl rfl _ rfl c hV.box ?_) | (go_at_call 9; (with_reducible refine (KT.out _ hV.cfg).mono ?_); rintro e wA ⟨rfl, hbA⟩; replace hV := hV.next hbA; clear hbA) | (go_at_call 10; (with_reducible refine (KU.out _ hV.cfg).mono ?_); rintro e wA ⟨rfl, hbA⟩; replace hV := hV.next hbA; clear hbA))
  refine wp_region_any (by kernel_rfl) ?_
  change wpAny _ _ _ _ _ _ _ (World.drew _)
  refine wpAny_of_held (S := Held w w.heap.size c t l) _ _ _ _ ?_
  have hS := hV.drew
  refine takeH 0 30 (.agg c.cells) rfl rfl (by kernel_rfl) (by kernel_rfl) (by kernel_rfl) (fun _ _ _ h => h) (Or.inl ⟨by kernel_rfl, fun w' hw => yieldCfg rfl _ rfl hw.box⟩) hS ?_
  try simp only [List.setIfInBounds_toArray, List.set_cons_zero, List.set_cons_succ]
  refine takeH 2 32 (.agg c.cells) rfl rfl (by kernel_rfl) (by kernel_rfl) (by kernel_rfl) (fun _ _ _ h => h) (Or.inl ⟨by kernel_rfl, fun w' hw => yieldCfg rfl _ rfl hw.box⟩) hS ?_
  try simp only [List.setIfInBounds_toArray, List.set_cons_zero, List.set_cons_succ]
  refine wpAnyH_ready (rs := [1]) (by kernel_rfl) (by simp) ?_; refine AllReadyH.cons rfl (fun K hK => ?_) AllReadyH.nil; go_simp; go_wp2_with ((first | (go_at_call 11; (with_reducible refine (K1.out _ hS.cfg).mono ?_); rintro e wA ⟨rfl, hbA⟩; replace hS := hS.next hbA; clear hbA) | (go_at_call 12; (with_reducible refine (K2.out _ hS.cfg).mono ?_); rintro e wA ⟨rfl, hbA⟩; replace hS := hS.next hbA; clear hbA) | (go_at_call 13; (with_reducible refine (K3.out _ hS.cfg).mono ?_); rintro e wA ⟨rfl, hbA⟩; replace hS := hS.next hbA; clear hbA) | (go_at_call 14; (with_reducible refine (K4.out _ hS.cfg).mono ?_); rintro e wA ⟨rfl, hbA⟩; replace hS := hS.next hbA; clear hbA) | (go_at_call 15; (with_reducible refine (K5.out _ hS.cfg).mono ?_); rintro e wA ⟨rfl, hbA⟩; replace hS := hS.next hbA; clear hbA) | (go_at_call 16; (with_reducible refine (K6.out _ hS.cfg).mono ?_); rintro e wA ⟨rfl, hbA⟩; replace hS := hS.next hbA; clear hbA) | (go_at_call 5; (with_reducible refine (KL.out _).mono ?_); rintro e wA ⟨rfl, hbA⟩; replace hS := hS.next hbA; clear hbA))); refine hK.out _ _ ?_ (fun _ => ?_); (exact hS); clear hK K
  refine wpAnyH_ready (rs := [3]) (by kernel_rfl) (by simp) ?_; refine AllReadyH.cons rfl (fun K hK => ?_) AllReadyH.nil; go_simp; go_wp2_with ((first | (go_at_call 11; (with_reducible refine (K1.out _ hS.cfg).mono ?_); rintro e wA ⟨rfl, hbA⟩; replace hS := hS.next hbA; clear hbA) | (go_at_call 12; (with_reducible refine (K2.out _ hS.cfg).mono ?_); rintro e wA ⟨rfl, hbA⟩; replace hS := hS.next hbA; clear hbA) | (go_at_call 13; (with_reducible refine (K3.out _ hS.cfg).mono ?_); rintro e wA ⟨rfl, hbA⟩; replace hS := hS.next hbA; clear hbA) | (go_at_call 14; (with_reducible refine (K4.out _ hS.cfg).mono ?_); rintro e wA ⟨rfl, hbA⟩; replace hS := hS.next hbA; clear hbA) | (go_at_call 15; (with_reducible refine (K5.out _ hS.cfg).mono ?_); rintro e wA ⟨rfl, hbA⟩; replace hS := hS.next hbA; clear hbA) | (go_at_call 16; (with_reducible refine (K6.out _ hS.cfg).mono ?_); rintro e wA ⟨rfl, hbA⟩; replace hS := hS.next hbA; clear hbA) | (go_at_call 5; (with_reducible refine (KL.out _).mono ?_); rintro e wA ⟨rfl, hbA⟩; replace hS := hS.next hbA; clear hbA))); refine hK.out _ _ ?_ (fun _ => ?_); (exact hS); clear hK K
  refine takeH 4 34 ?_ rfl rfl (by kernel_rfl) (by kernel_rfl) (by kernel_rfl) (fun _ _ _ h => h) (Or.inl ⟨by kernel_rfl, ?_⟩) hS ?_; rotate_left; (intro w hw; first | (go_simp; done) | (go_simp; with_reducible rfl)); rotate_left
  try simp only [List.setIfInBounds_toArray, List.set_cons_zero, List.set_cons_succ]
  refine takeH 5 35 ?_ rfl rfl (by kernel_rfl) (by kernel_rfl) (by kernel_rfl) (fun _ _ _ h => h) (Or.inl ⟨by kernel_rfl, ?_⟩) hS ?_; rotate_left; (intro w hw; first | (go_simp; done) | (go_simp; with_reducible rfl)); rotate_left
  try simp only [List.setIfInBounds_toArray, List.set_cons_zero, List.set_cons_succ]
  refine takeH 6 36 (.agg c.cells) rfl rfl (by kernel_rfl) (by kernel_rfl) (by kernel_rfl) (fun _ _ _ h => h) (Or.inl ⟨by kernel_rfl, fun w' hw => yieldCfg rfl _ rfl hw.box⟩) hS ?_
  try simp only [List.setIfInBounds_toArray, List.set_cons_zero, List.set_cons_succ]
  refine takeH 7 37 ?_ rfl rfl (by kernel_rfl) (by kernel_rfl) (by kernel_rfl) (fun _ _ _ h => h) (Or.inl ⟨by kernel_rfl, ?_⟩) hS ?_; rotate_left; (intro w hw; first | (go_simp; done) | (go_simp; with_reducible rfl)); rotate_left
  try simp only [List.setIfInBounds_toArray, List.set_cons_zero, List.set_cons_succ]
  refine takeH 9 39 (.agg c.cells) rfl rfl (by kernel_rfl) (by kernel_rfl) (by kernel_rfl) (fun _ _ _ h => h) (Or.inl ⟨by kernel_rfl, fun w' hw => yieldCfg rfl _ rfl hw.box⟩) hS ?_
  try simp only [List.setIfInBounds_toArray, List.set_cons_zero, List.set_cons_succ]
  refine takeH 10 40 ?_ rfl rfl (by kernel_rfl) (by kernel_rfl) (by kernel_rfl) (fun _ _ _ h => h) (Or.inl ⟨by kernel_rfl, ?_⟩) hS ?_; rotate_left; (intro w hw; first | (go_simp; done) | (go_simp; with_reducible rfl)); rotate_left
  try simp only [List.setIfInBounds_toArray, List.set_cons_zero, List.set_cons_succ]
  refine wpAnyH_ready (rs := [8]) (by kernel_rfl) (by simp) ?_; refine AllReadyH.cons rfl (fun K hK => ?_) AllReadyH.nil; go_simp; go_wp2_with ((first | (go_at_call 11; (with_reducible refine (K1.out _ hS.cfg).mono ?_); rintro e wA ⟨rfl, hbA⟩; replace hS := hS.next hbA; clear hbA) | (go_at_call 12; (with_reducible refine (K2.out _ hS.cfg).mono ?_); rintro e wA ⟨rfl, hbA⟩; replace hS := hS.next hbA; clear hbA) | (go_at_call 13; (with_reducible refine (K3.out _ hS.cfg).mono ?_); rintro e wA ⟨rfl, hbA⟩; replace hS := hS.next hbA; clear hbA) | (go_at_call 14; (with_reducible refine (K4.out _ hS.cfg).mono ?_); rintro e wA ⟨rfl, hbA⟩; replace hS := hS.next hbA; clear hbA) | (go_at_call 15; (with_reducible refine (K5.out _ hS.cfg).mono ?_); rintro e wA ⟨rfl, hbA⟩; replace hS := hS.next hbA; clear hbA) | (go_at_call 16; (with_reducible refine (K6.out _ hS.cfg).mono ?_); rintro e wA ⟨rfl, hbA⟩; replace hS := hS.next hbA; clear hbA) | (go_at_call 5; (with_reducible refine (KL.out _).mono ?_); rintro e wA ⟨rfl, hbA⟩; replace hS := hS.next hbA; clear hbA))); refine hK.out _ _ ?_ (fun _ => ?_); (exact hS); clear hK K
  refine wpAnyH_ready (rs := [11]) (by kernel_rfl) (by simp) ?_; refine AllReadyH.cons rfl (fun K hK => ?_) AllReadyH.nil; go_simp; go_wp2_with ((first | (go_at_call 11; (with_reducible refine (K1.out _ hS.cfg).mono ?_); rintro e wA ⟨rfl, hbA⟩; replace hS := hS.next hbA; clear hbA) | (go_at_call 12; (with_reducible refine (K2.out _ hS.cfg).mono ?_); rintro e wA ⟨rfl, hbA⟩; replace hS := hS.next hbA; clear hbA) | (go_at_call 13; (with_reducible refine (K3.out _ hS.cfg).mono ?_); rintro e wA ⟨rfl, hbA⟩; replace hS := hS.next hbA; clear hbA) | (go_at_call 14; (with_reducible refine (K4.out _ hS.cfg).mono ?_); rintro e wA ⟨rfl, hbA⟩; replace hS := hS.next hbA; clear hbA) | (go_at_call 15; (with_reducible refine (K5.out _ hS.cfg).mono ?_); rintro e wA ⟨rfl, hbA⟩; replace hS := hS.next hbA; clear hbA) | (go_at_call 16; (with_reducible refine (K6.out _ hS.cfg).mono ?_); rintro e wA ⟨rfl, hbA⟩; replace hS := hS.next hbA; clear hbA) | (go_at_call 5; (with_reducible refine (KL.out _).mono ?_); rintro e wA ⟨rfl, hbA⟩; replace hS := hS.next hbA; clear hbA))); refine hK.out _ _ ?_ (fun _ => ?_); (exact hS); clear hK K
  refine takeH 12 42 ?_ rfl rfl (by kernel_rfl) (by kernel_rfl) (by kernel_rfl) (fun _ _ _ h => h) (Or.inl ⟨by kernel_rfl, ?_⟩) hS ?_; rotate_left; (intro w hw; first | (go_simp; done) | (go_simp; with_reducible rfl)); rotate_left
  try simp only [List.setIfInBounds_toArray, List.set_cons_zero, List.set_cons_succ]
  refine takeH 13 43 ?_ rfl rfl (by kernel_rfl) (by kernel_rfl) (by kernel_rfl) (fun _ _ _ h => h) (Or.inl ⟨by kernel_rfl, ?_⟩) hS ?_; rotate_left; (intro w hw; first | (go_simp; done) | (go_simp; with_reducible rfl)); rotate_left
  try simp only [List.setIfInBounds_toArray, List.set_cons_zero, List.set_cons_succ]
  refine takeH 14 44 ?_ rfl rfl (by kernel_rfl) (by kernel_rfl) (by kernel_rfl) (fun _ _ _ h => h) (Or.inl ⟨by kernel_rfl, ?_⟩) hS ?_; rotate_left; (intro w hw; first | (go_simp; done) | (go_simp; with_reducible rfl)); rotate_left
  try simp only [List.setIfInBounds_toArray, List.set_cons_zero, List.set_cons_succ]
  refine takeH 15 45 ?_ rfl rfl (by kernel_rfl) (by kernel_rfl) (by kernel_rfl) (fun _ _ _ h => h) (Or.inl ⟨by kernel_rfl, ?_⟩) hS ?_; rotate_left; (intro w hw; first | (go_simp; done) | (go_simp; with_reducible rfl)); rotate_left
  try simp only [List.setIfInBounds_toArray, List.set_cons_zero, List.set_cons_succ]
  refine takeH 16 46 ?_ rfl rfl (by kernel_rfl) (by kernel_rfl) (by kernel_rfl) (fun _ _ _ h => h) (Or.inl ⟨by kernel_rfl, ?_⟩) hS ?_; rotate_left; (intro w hw; first | (go_simp; done) | (go_simp; with_reducible rfl)); rotate_left
  try simp only [List.setIfInBounds_toArray, List.set_cons_zero, List.set_cons_succ]
  refine takeH 17 47 ?_ rfl rfl (by kernel_rfl) (by kernel_rfl) (by kernel_rfl) (fun _ _ _ h => h) (Or.inl ⟨by kernel_rfl, ?_⟩) hS ?_; rotate_left; (intro w hw; first | (go_simp; done) | (go_simp; with_reducible rfl)); rotate_left
  try simp only [List.setIfInBounds_toArray, List.set_cons_zero, List.set_cons_succ]
  refine takeH 18 48 ?_ rfl rfl (by kernel_rfl) (by kernel_rfl) (by kernel_rfl) (fun _ _ _ h => h) (Or.inl ⟨by kernel_rfl, ?_⟩) hS ?_; rotate_left; (intro w hw; first | (go_simp; done) | (go_simp; with_reducible rfl)); rotate_left
  try simp only [List.setIfInBounds_toArray, List.set_cons_zero, List.set_cons_succ]
  refine takeH 19 49 ?_ rfl rfl (by kernel_rfl) (by kernel_rfl) (by kernel_rfl) (fun _ _ _ h => h) (Or.inl ⟨by kernel_rfl, ?_⟩) hS ?_; rotate_left; (intro w hw; first | (go_simp; done) | (go_simp; with_reducible rfl)); rotate_left
  try simp only [List.setIfInBounds_toArray, List.set_cons_zero, List.set_cons_succ]
  refine takeH 20 50 ?_ rfl rfl (by kernel_rfl) (by kernel_rfl) (by kernel_rfl) (fun _ _ _ h => h) (Or.inl ⟨by kernel_rfl, ?_⟩) hS ?_; rotate_left; (intro w hw; first | (go_simp; done) | (go_simp; with_reducible rfl)); rotate_left
  try simp only [List.setIfInBounds_toArray, List.set_cons_zero, List.set_cons_succ]
  refine takeH 21 51 ?_ rfl rfl (by kernel_rfl) (by kernel_rfl) (by kernel_rfl) (fun _ _ _ h => h) (Or.inl ⟨by kernel_rfl, ?_⟩) hS ?_; rotate_left; (intro w hw; first | (go_simp; done) | (go_simp; with_reducible rfl)); rotate_left
  try simp only [List.setIfInBounds_toArray, List.set_cons_zero, List.set_cons_succ]
  refine takeH 22 52 ?_ rfl rfl (by kernel_rfl) (by kernel_rfl) (by kernel_rfl) (fun _ _ _ h => h) (Or.inl ⟨by kernel_rfl, ?_⟩) hS ?_; rotate_left; (intro w hw; first | (go_simp; done) | (go_simp; with_reducible rfl)); rotate_left
  try simp only [List.setIfInBounds_toArray, List.set_cons_zero, List.set_cons_succ]
  refine takeH 23 53 ?_ rfl rfl (by kernel_rfl) (by kernel_rfl) (by kernel_rfl) (fun _ _ _ h => h) (Or.inl ⟨by kernel_rfl, ?_⟩) hS ?_; rotate_left; (intro w hw; first | (go_simp; done) | (go_simp; with_reducible rfl)); rotate_left
  try simp only [List.setIfInBounds_toArray, List.set_cons_zero, List.set_cons_succ]
  refine takeH 24 54 ?_ rfl rfl (by kernel_rfl) (by kernel_rfl) (by kernel_rfl) (fun _ _ _ h => h) (Or.inl ⟨by kernel_rfl, ?_⟩) hS ?_; rotate_left; (intro w hw; first | (go_simp; done) | (go_simp; with_reducible rfl)); rotate_left
  try simp only [List.setIfInBounds_toArray, List.set_cons_zero, List.set_cons_succ]
  refine takeH 25 55 ?_ rfl rfl (by kernel_rfl) (by kernel_rfl) (by kernel_rfl) (fun _ _ _ h => h) (Or.inl ⟨by kernel_rfl, ?_⟩) hS ?_; rotate_left; (intro w hw; first | (go_simp; done) | (go_simp; with_reducible rfl)); rotate_left
  try simp only [List.setIfInBounds_toArray, List.set_cons_zero, List.set_cons_succ]
  refine takeH 26 56 ?_ rfl rfl (by kernel_rfl) (by kernel_rfl) (by kernel_rfl) (fun _ _ _ h => h) (Or.inl ⟨by kernel_rfl, ?_⟩) hS ?_; rotate_left; (intro w hw; first | (go_simp; done) | (go_simp; with_reducible rfl)); rotate_left
  try simp only [List.setIfInBounds_toArray, List.set_cons_zero, List.set_cons_succ]
  refine takeH 27 57 (.agg c.cells) rfl rfl (by kernel_rfl) (by kernel_rfl) (by kernel_rfl) (fun _ _ _ h => h) (Or.inl ⟨by kernel_rfl, fun w' hw => yieldCfg rfl _ rfl hw.box⟩) hS ?_
  try simp only [List.setIfInBounds_toArray, List.set_cons_zero, List.set_cons_succ]
  refine takeH 29 59 (.agg c.cells) rfl rfl (by kernel_rfl) (by kernel_rfl) (by kernel_rfl) (fun _ _ _ h => h) (Or.inl ⟨by kernel_rfl, fun w' hw => yieldCfg rfl _ rfl hw.box⟩) hS ?_
  try simp only [List.setIfInBounds_toArray, List.set_cons_zero, List.set_cons_succ]
  refine wpAnyH_ready (rs := [28]) (by kernel_rfl) (by simp) ?_; refine AllReadyH.cons rfl (fun K hK => ?_) AllReadyH.nil; go_simp; go_wp2_with ((first | (go_at_call 11; (with_reducible refine (K1.out _ hS.cfg).mono ?_); rintro e wA ⟨rfl, hbA⟩; replace hS := hS.next hbA; clear hbA) | (go_at_call 12; (with_reducible refine (K2.out _ hS.cfg).mono ?_); rintro e wA ⟨rfl, hbA⟩; replace hS := hS.next hbA; clear hbA) | (go_at_call 13; (with_reducible refine (K3.out _ hS.cfg).mono ?_); rintro e wA ⟨rfl, hbA⟩; replace hS := hS.next hbA; clear hbA) | (go_at_call 14; (with_reducible refine (K4.out _ hS.cfg).mono ?_); rintro e wA ⟨rfl, hbA⟩; replace hS := hS.next hbA; clear hbA) | (go_at_call 15; (with_reducible refine (K5.out _ hS.cfg).mono ?_); rintro e wA ⟨rfl, hbA⟩; replace hS := hS.next hbA; clear hbA) | (go_at_call 16; (with_reducible refine (K6.out _ hS.cfg).mono ?_); rintro e wA ⟨rfl, hbA⟩; replace hS := hS.next hbA; clear hbA) | (go_at_call 5; (with_reducible refine (KL.out _).mono ?_); rintro e wA ⟨rfl, hbA⟩; replace hS := hS.next hbA; clear hbA))); refine hK.out _ _ ?_ (fun _ => ?_); (exact hS); clear hK K
  refine wpAnyH_ready (rs := [30]) (by kernel_rfl) (by simp) ?_; refine AllReadyH.cons rfl (fun K hK => ?_) AllReadyH.nil; go_simp; go_wp2_with ((first | (go_at_call 11; (with_reducible refine (K1.out _ hS.cfg).mono ?_); rintro e wA ⟨rfl, hbA⟩; replace hS := hS.next hbA; clear hbA) | (go_at_call 12; (with_reducible refine (K2.out _ hS.cfg).mono ?_); rintro e wA ⟨rfl, hbA⟩; replace hS := hS.next hbA; clear hbA) | (go_at_call 13; (with_reducible refine (K3.out _ hS.cfg).mono ?_); rintro e wA ⟨rfl, hbA⟩; replace hS := hS.next hbA; clear hbA) | (go_at_call 14; (with_reducible refine (K4.out _ hS.cfg).mono ?_); rintro e wA ⟨rfl, hbA⟩; replace hS := hS.next hbA; clear hbA) | (go_at_call 15; (with_reducible refine (K5.out _ hS.cfg).mono ?_); rintro e wA ⟨rfl, hbA⟩; replace hS := hS.next hbA; clear hbA) | (go_at_call 16; (with_reducible refine (K6.out _ hS.cfg).mono ?_); rintro e wA ⟨rfl, hbA⟩; replace hS := hS.next hbA; clear hbA) | (go_at_call 5; (with_reducible refine (KL.out _).mono ?_); rintro e wA ⟨rfl, hbA⟩; replace hS := hS.next hbA; clear hbA))); refine hK.out _ _ ?_ (fun _ => ?_); (exact hS); clear hK K
  refine takeH 31 61 ?_ rfl rfl (by kernel_rfl) (by kernel_rfl) (by kernel_rfl) (fun _ _ _ h => h) (Or.inl ⟨by kernel_rfl, ?_⟩) hS ?_; rotate_left; (intro w hw; first | (go_simp; done) | (go_simp; with_reducible rfl)); rotate_left
  try simp only [List.setIfInBounds_toArray, List.set_cons_zero, List.set_cons_succ]
  refine takeH 32 62 ?_ rfl rfl (by kernel_rfl) (by kernel_rfl) (by kernel_rfl) (fun _ _ _ h => h) (Or.inl ⟨by kernel_rfl, ?_⟩) hS ?_; rotate_left; (intro w hw; first | (go_simp; done) | (go_simp; with_reducible rfl)); rotate_left
  try simp only [List.setIfInBounds_toArray, List.set_cons_zero, List.set_cons_succ]
  refine takeH 33 63 ?_ rfl rfl (by kernel_rfl) (by kernel_rfl) (by kernel_rfl) (fun _ _ _ h => h) (Or.inl ⟨by kernel_rfl, ?_⟩) hS ?_; rotate_left; (intro w hw; first | (go_simp; done) | (go_simp; with_reducible rfl)); rotate_left
  try simp only [List.setIfInBounds_toArray, List.set_cons_zero, List.set_cons_succ]
  refine wpAnyH_ready (rs := [34]) (by kernel_rfl) (by simp) ?_; refine AllReadyH.cons rfl (fun K hK => ?_) AllReadyH.nil; go_simp; go_wp2_with ((first | (go_at_call 11; (with_reducible refine (K1.out _ hS.cfg).mono ?_); rintro e wA ⟨rfl, hbA⟩; replace hS := hS.next hbA; clear hbA) | (go_at_call 12; (with_reducible refine (K2.out _ hS.cfg).mono ?_); rintro e wA ⟨rfl, hbA⟩; replace hS := hS.next hbA; clear hbA) | (go_at_call 13; (with_reducible refine (K3.out _ hS.cfg).mono ?_); rintro e wA ⟨rfl, hbA⟩; replace hS := hS.next hbA; clear hbA) | (go_at_call 14; (with_reducible refine (K4.out _ hS.cfg).mono ?_); rintro e wA ⟨rfl, hbA⟩; replace hS := hS.next hbA; clear hbA) | (go_at_call 15; (with_reducible refine (K5.out _ hS.cfg).mono ?_); rintro e wA ⟨rfl, hbA⟩; replace hS := hS.next hbA; clear hbA) | (go_at_call 16; (with_reducible refine (K6.out _ hS.cfg).mono ?_); rintro e wA ⟨rfl, hbA⟩; replace hS := hS.next hbA; clear hbA) | (go_at_call 5; (with_reducible refine (KL.out _).mono ?_); rintro e wA ⟨rfl, hbA⟩; replace hS := hS.next hbA; clear hbA))); refine hK.out _ _ ?_ (fun _ => ?_); (exact hS); clear hK K
  refine takeH 35 65 ?_ rfl rfl (by kernel_rfl) (by kernel_rfl) (by kernel_rfl) (fun _ _ _ h => h) (Or.inl ⟨by kernel_rfl, ?_⟩) hS ?_; rotate_left; (intro w hw; first | (go_simp; done) | (go_simp; with_reducible rfl)); rotate_left
  try simp only [List.setIfInBounds_toArray, List.set_cons_zero, List.set_cons_succ]
  refine takeH 36 6 ?_ rfl rfl (by kernel_rfl) (by kernel_rfl) (by kernel_rfl) (fun _ _ _ h => h) (Or.inl ⟨by kernel_rfl, ?_⟩) hS ?_; rotate_left; (intro w hw; first | (go_simp; done) | (go_simp; with_reducible rfl)); rotate_left
  try simp only [List.setIfInBounds_toArray, List.set_cons_zero, List.set_cons_succ]
  refine wpAnyH_done (by kernel_rfl) ?_ _
  go_wp2
  go_ret
  exact ⟨rfl, hS.b⟩

theorem run_max_miss (ts : Array TypeId) (t : TypeId) (P : Program) (w : World) : (Builtin.max_ ts t #[.int .i64 (-1), .int .i64 0]).run P w = .ok (.int .i64 0) w := by
  simp [Builtin.max_, Builtin.max2]
theorem run_max_hit (ts : Array TypeId) (t : TypeId) (P : Program) (w : World) (j : Nat) : (Builtin.max_ ts t #[.int .i64 (j : Int), .int .i64 0]).run P w = .ok (.int .i64 (j : Int)) w := by
  have : ¬ ((j : Int) < 0) := by omega
  simp [Builtin.max_, Builtin.max2, this]
theorem confTells_at (c : Cf.C) (t : Nat → Cf.T) (l : Nat → Int) (k : Int) (n : ByteArray) (w : World) (h : CfgAt w c t l) : Calls Try.prog 4 #[c.val, .int .i64 k, .string n] w (Ret (.bool true) w) := by
  have KT := fun W h => confTenantC c t l n W h
  have KU := fun W h => refTenantC c t l n W h
  have hr : Cf.tenantV (Cf.check nmB c t l) c t n = -1 ∨ ∃ j : Nat, Cf.tenantV (Cf.check nmB c t l) c t n = (j : Int) := by
    unfold Cf.tenantV
    split
    · exact find_is _ _ _ _
    · exact Or.inl rfl
  rcases hr with e | ⟨j, e⟩
  · rw [e] at KT KU
    exact confTells_miss c t l k n _ _ _ w h (Lib.hid KT) (Lib.hid KU) (Lib.hid fun W h => confClassesC c t l W h) (Lib.hid fun W h => refClassesC c t l W h) (Lib.hid fun W h => confLimitC c t l k W h) (Lib.hid fun W h => refLimitC c t l k W h) (Lib.hid fun W h => confAttemptsC c t l W h) (Lib.hid fun W h => refAttemptsC c t l W h) run_max_miss
  · rw [e] at KT KU
    have e2 : foundV (j : Int) = .tuple #[.int .i64 (j : Int), .bool true] := by
      unfold foundV
      rw [if_neg (by omega), decide_eq_true (by omega)]
    rw [e2] at KT
    exact confTells_hit c t l k n j _ _ _ w h (Lib.hid KT) (Lib.hid KU) (Lib.hid fun W h => confClassesC c t l W h) (Lib.hid fun W h => refClassesC c t l W h) (Lib.hid fun W h => confLimitC c t l k W h) (Lib.hid fun W h => refLimitC c t l k W h) (Lib.hid fun W h => confAttemptsC c t l W h) (Lib.hid fun W h => refAttemptsC c t l W h) (fun ts t P w => run_max_hit ts t P w j)
end Go.Proofs.Ytafighelgdlocaa
