/-
  The law HistoryActs: behind any runs.
-/
import Derived.Test.YtmdpfinadffcaaaHyP
namespace Go.Proofs.Ytmdpfinadffcaaa
open Go.RowKit
set_option linter.unusedVariables false

theorem TIs.base {w : World} {B B' P : Nat} {room : Int} {l : List Lr.E} {F : Nat → Prop} (h : TIs w B P room l F) (hB : B' ≤ B) : TIs w B' P room l F := by
  obtain ⟨m, r, ns, h1, h2, h3, h4⟩ := h
  exact ⟨m, r, ns, h1, h2, h3, fun k hk => Nat.le_trans hB (h4 k hk)⟩
theorem HIs.base {w : World} {B B' T : Nat} {room : Int} {l : List Lr.E} {F : Nat → Prop} (h : HIs w B T room l F) (hB : B' ≤ B) : HIs w B' T room l F := by
  obtain ⟨P, F0, h1, h2, h3, h4, h5⟩ := h
  exact ⟨P, F0, h1, h2.base hB, h3, Nat.le_trans hB h4, h5⟩
/-- both made -/
theorem two_start (room : Int) (hr : ¬ room < 1) (qk : ByteArray) (la : Option Addr) (ln lcap : Nat) (p : Int) (w : World) :
    Calls Try.prog 6 #[.int .i64 room] (w.alloc (askO qk la ln lcap p)) fun e wA => ∃ T, e = .returned (.pointer (some ⟨T, 0, none⟩)) ∧ wA.cell? ⟨w.heap.size, 1, none⟩ = some (.slice la ln lcap) ∧ Hid (TwoH w T wA.heap.size room (askO qk la ln lcap p) none 0 [] [] (wA.alloc (tO room (.slice none 0 0)))) := by
  have hq : (w.alloc (askO qk la ln lcap p)).heap[w.heap.size]? = some (askO qk la ln lcap p) := heap_alloc_new _ _
  have hb1 : Below w.heap.size w (w.alloc (askO qk la ln lcap p)) := (Below.refl _ _).alloc (Nat.le_refl _) _
  refine (newHC room _ hr).mono fun e wA h => ?_
  obtain ⟨T, F, rfl, h1, h2⟩ := h
  have hqA := (h2.block _ (lt_block hq)).trans hq
  have hbA := hb1.trans (h2.mono hb1.size)
  have hb3 : Below wA.heap.size wA (wA.alloc (tO room (.slice none 0 0))) := (Below.refl _ _).alloc (Nat.le_refl _) _
  have hz : (w.alloc (askO qk la ln lcap p)).heap.size = w.heap.size + 1 := alloc_size _ _
  refine ⟨T, rfl, (ask_cells hqA).2.1, Lib.hid ⟨⟨F, (h1.below hb3).base (by omega), fun k hk => ?_⟩, ⟨heap_alloc_new _ _, ⟨fun h0 => absurd h0 (by simp)⟩, hbA.size, fun k off e => by cases e⟩, (hb3.block _ (lt_block hqA)).trans hqA, fun hf => ?_, hbA.trans (hb3.mono hbA.size)⟩⟩
  · have h3 := h1.lt k hk
    refine ⟨fun hf => ?_, by omega⟩
    rcases hf with rfl | ⟨off, e⟩
    · omega
    · cases e
  · rcases hf with e | ⟨off, e⟩
    · have := lt_block hqA; omega
    · cases e

set_option maxRecDepth 100000 in
set_option maxHeartbeats 16000000 in
theorem acts_at (room : Int) (a : Option Addr) (len cap : Nat) (t : Nat → ByteArray × Int) (qk : ByteArray) (la : Option Addr) (ln lcap : Nat) (p : Int) (L : Nat → Int) (w : World) (hr : ¬ room < 1) (hl : len ≤ 200) (hn : ln ≤ 20) (hqk : qk.size ≤ 140737488351232) (hRun : RunAt w a len t) (hL : LimW w la ln L) :
    Calls Try.prog 3 #[.int .i64 room, .slice a len cap, .agg #[.string qk, .slice la ln lcap, .int .i64 p]] w (Ret (.bool true) w) := by
  have KL := Lib.hid (fun W => liveOk W)
  have K0 := Lib.hid (two_start room hr qk la ln lcap p w)
  have KS := Lib.hid (fun T D da dcap l (hl : l.length ≤ 1000) W (h : TwoH w T D room (askO qk la ln lcap p) da dcap l l.reverse W) => two_same L W hqk hl (show ln ≤ 1000 by omega) hL h)
  have t2 : decide (room < 1) = false := decide_eq_false hr
  have hr0 : 0 ≤ room := by omega
  have HRM := Lib.hid (show 1 ≤ room by omega)
  have HA := Lib.hid hRun
  clear hRun hL hr
  go_enter Try.func3, Try.ntmps3
  go_wp2_with (go_at_call 6; (with_reducible refine K0.out.mono ?_); rintro e wA ⟨T, rfl, z1, hT⟩)
  obtain ⟨D, hD⟩ : ∃ D, D = wA.heap.size := ⟨_, rfl⟩
  have hT0 : Hid (TwoS w T D room (askO qk la ln lcap p) (Hy.runL room t 0) (wA.alloc (tO room (.slice none 0 0)))) := Lib.hid ⟨none, 0, by rw [hD]; exact hT.out⟩
  rw [← hD]
  clear hT hD z1 K0
  go_loopw [9] (fun s wr => ∃ j : Nat, j ≤ len ∧ s = .int .i64 (j : Int) ∧ Hid (TwoS w T D room (askO qk la ln lcap p) (Hy.runL room t j) wr)) (fun s _ => len - (intOf s).toNat)
  case atStart => exact ⟨0, Nat.zero_le _, rfl, hT0⟩
  case round =>
    obtain ⟨j, hj, rfl, hTj⟩ := hrel
    clear hT0
    obtain ⟨da, dcap, hTT⟩ := hTj.out
    have QT := Lib.hid hTT
    clear hTT hTj
    have hlj := Hy.runL_len room t j
    by_cases hlt : j < len
    · obtain h0 | ⟨g, off, rfl, hg, hc⟩ := HA.out
      · omega
      obtain ⟨c0, c1, hks, hx0, hx1⟩ := hc j hlt
      have HCL := Lib.hid (fun W (hb : Below w.heap.size w W) => (show W.cell? ⟨g, off + j * 2, none⟩ = some (.string (t j).1) ∧ W.cell? ⟨g, off + j * 2 + 1, none⟩ = some (.int .u64 (t j).2) from ⟨(hb.cell (p := ⟨g, off + j * 2, none⟩) hg).trans c0, (hb.cell (p := ⟨g, off + j * 2 + 1, none⟩) hg).trans c1⟩))
      have hgd := Hy.runL_good room t j
      have hrm := Hy.runL_room hr0 t j
      have HSUC : Hid (Hy.obs room (Hy.runL room t j) (t j).1 (t j).2 = Hy.runL room t (j + 1)) := Lib.hid rfl
      have hlo := Hy.length_obs room (Hy.runL room t j) (t j).1 (t j).2
      have K1 := Lib.hid (fun da dcap W (h : TwoH w T D room (askO qk la ln lcap p) da dcap (Hy.runL room t j) (Hy.runL room t j).reverse W) => two_obs (t j).1 (t j).2 W hks hx0 hx1 (by omega) hrm h)
      have K2 := Lib.hid (fun da dcap W (h : TwoH w T D room (askO qk la ln lcap p) da dcap (Hy.obs room (Hy.runL room t j) (t j).1 (t j).2) (Hy.runL room t j).reverse W) => two_refobs (t j).1 (t j).2 W hx0 hx1 (by omega) hgd HRM.out h)
      clear hc c0 c1 hks hx0 hx1 hgd hrm
      generalize (t j).1 = key at *
      generalize (t j).2 = x at *
      generalize hl2 : Hy.obs room (Hy.runL room t j) key x = l2 at *
      have h2l : l2.length ≤ 1000 := by omega
      generalize Hy.runL room t j = l1 at *
      clear hl2 hlo
      go_upto_region 8 with fail
      refine wp_region_any (by kernel_rfl) ?_
      change wpAny _ _ _ _ _ _ _ (World.drew _)
      refine wpAny_of_held (S := fun W => W.cell? ⟨g, off + j * 2, none⟩ = some (.string key) ∧ W.cell? ⟨g, off + j * 2 + 1, none⟩ = some (.int .u64 x)) _ _ _ _ ?_
      replace QT := Lib.hid (QT.out.below (Below.refl _ _).drew)
      have hS := HCL.out _ (QT.out.b)
      refine takeH 0 42 ?_ rfl rfl (by kernel_rfl) (by kernel_rfl) (by kernel_rfl) (fun _ _ _ h => h) (Or.inl ⟨by kernel_rfl, ?_⟩) hS ?_; rotate_left; (intro w' hw; first | (go_simp; done) | (go_simp; with_reducible rfl)); rotate_left
      try simp only [List.setIfInBounds_toArray, List.set_cons_zero, List.set_cons_succ]
      refine takeH 1 43 ?_ rfl rfl (by kernel_rfl) (by kernel_rfl) (by kernel_rfl) (fun _ _ _ h => h) (Or.inl ⟨by kernel_rfl, ?_⟩) hS ?_; rotate_left; (intro w' hw; first | (go_simp; done) | (go_simp; with_reducible rfl)); rotate_left
      try simp only [List.setIfInBounds_toArray, List.set_cons_zero, List.set_cons_succ]
      refine takeH 2 44 ?_ rfl rfl (by kernel_rfl) (by kernel_rfl) (by kernel_rfl) (fun _ _ _ h => h) (Or.inl ⟨by kernel_rfl, ?_⟩) hS ?_; rotate_left; (intro w' hw; first | (go_simp; done) | (go_simp; with_reducible rfl)); rotate_left
      try simp only [List.setIfInBounds_toArray, List.set_cons_zero, List.set_cons_succ]
      refine takeH 3 45 ?_ rfl rfl (by kernel_rfl) (by kernel_rfl) (by kernel_rfl) (fun _ _ _ h => h) (Or.inl ⟨by kernel_rfl, ?_⟩) hS ?_; rotate_left; (intro w' hw; first | (go_simp; done) | (go_simp; with_reducible rfl)); rotate_left
      try simp only [List.setIfInBounds_toArray, List.set_cons_zero, List.set_cons_succ]
      refine takeH 4 46 ?_ rfl rfl (by kernel_rfl) (by kernel_rfl) (by kernel_rfl) (fun _ _ _ h => h) (Or.inl ⟨by kernel_rfl, ?_⟩) hS ?_; rotate_left; (intro w' hw; first | (go_simp; done) | (go_simp; with_reducible rfl)); rotate_left
      try simp only [List.setIfInBounds_toArray, List.set_cons_zero, List.set_cons_succ]
      refine takeH 5 47 ?_ rfl rfl (by kernel_rfl) (by kernel_rfl) (by kernel_rfl) (fun _ _ _ h => h) (Or.inl ⟨by kernel_rfl, ?_⟩) hS ?_; rotate_left; (intro w' hw; obtain ⟨z0, z1⟩ := hw; first | (go_simp; done) | (go_simp; with_reducible rfl)); rotate_left
      try simp only [List.setIfInBounds_toArray, List.set_cons_zero, List.set_cons_succ]
      refine takeH 6 48 ?_ rfl rfl (by kernel_rfl) (by kernel_rfl) (by kernel_rfl) (fun _ _ _ h => h) (Or.inl ⟨by kernel_rfl, ?_⟩) hS ?_; rotate_left; (intro w' hw; first | (go_simp; done) | (go_simp; with_reducible rfl)); rotate_left
      try simp only [List.setIfInBounds_toArray, List.set_cons_zero, List.set_cons_succ]
      refine takeH 7 49 ?_ rfl rfl (by kernel_rfl) (by kernel_rfl) (by kernel_rfl) (fun _ _ _ h => h) (Or.inl ⟨by kernel_rfl, ?_⟩) hS ?_; rotate_left; (intro w' hw; first | (go_simp; done) | (go_simp; with_reducible rfl)); rotate_left
      try simp only [List.setIfInBounds_toArray, List.set_cons_zero, List.set_cons_succ]
      refine takeH 8 50 ?_ rfl rfl (by kernel_rfl) (by kernel_rfl) (by kernel_rfl) (fun _ _ _ h => h) (Or.inl ⟨by kernel_rfl, ?_⟩) hS ?_; rotate_left; (intro w' hw; first | (go_simp; done) | (go_simp; with_reducible rfl)); rotate_left
      try simp only [List.setIfInBounds_toArray, List.set_cons_zero, List.set_cons_succ]
      refine takeH 9 51 ?_ rfl rfl (by kernel_rfl) (by kernel_rfl) (by kernel_rfl) (fun _ _ _ h => h) (Or.inl ⟨by kernel_rfl, ?_⟩) hS ?_; rotate_left; (intro w' hw; first | (go_simp; done) | (go_simp; with_reducible rfl)); rotate_left
      try simp only [List.setIfInBounds_toArray, List.set_cons_zero, List.set_cons_succ]
      refine takeH 10 52 ?_ rfl rfl (by kernel_rfl) (by kernel_rfl) (by kernel_rfl) (fun _ _ _ h => h) (Or.inl ⟨by kernel_rfl, ?_⟩) hS ?_; rotate_left; (intro w' hw; obtain ⟨z0, z1⟩ := hw; first | (go_simp; done) | (go_simp; with_reducible rfl)); rotate_left
      try simp only [List.setIfInBounds_toArray, List.set_cons_zero, List.set_cons_succ]
      refine wpAnyH_ready (rs := [11]) (by kernel_rfl) (by simp) ?_; refine AllReadyH.cons rfl (fun K9 hK => ?_) AllReadyH.nil; go_simp; go_wp2_with (go_at_call 8; (with_reducible refine (K1.out _ _ _ QT.out).mono ?_); rintro e wN ⟨rfl, hT⟩; have QT2 := Lib.hid hT; clear hT); replace hS := HCL.out _ (QT2.out.b); refine hK.out _ _ ?_ (fun _ => ?_); (exact hS); clear hK K9
      refine wpAnyH_done (by kernel_rfl) ?_ _
      clear hS
      go_upto_region 9 with fail
      refine wp_region_any (by kernel_rfl) ?_
      change wpAny _ _ _ _ _ _ _ (World.drew _)
      refine wpAny_of_held (S := fun W => W.cell? ⟨g, off + j * 2, none⟩ = some (.string key) ∧ W.cell? ⟨g, off + j * 2 + 1, none⟩ = some (.int .u64 x)) _ _ _ _ ?_
      replace QT2 := Lib.hid (QT2.out.below (Below.refl _ _).drew)
      have hS := HCL.out _ (QT2.out.b)
      refine takeH 0 54 ?_ rfl rfl (by kernel_rfl) (by kernel_rfl) (by kernel_rfl) (fun _ _ _ h => h) (Or.inl ⟨by kernel_rfl, ?_⟩) hS ?_; rotate_left; (intro w' hw; first | (go_simp; done) | (go_simp; with_reducible rfl)); rotate_left
      try simp only [List.setIfInBounds_toArray, List.set_cons_zero, List.set_cons_succ]
      refine takeH 1 55 ?_ rfl rfl (by kernel_rfl) (by kernel_rfl) (by kernel_rfl) (fun _ _ _ h => h) (Or.inl ⟨by kernel_rfl, ?_⟩) hS ?_; rotate_left; (intro w' hw; first | (go_simp; done) | (go_simp; with_reducible rfl)); rotate_left
      try simp only [List.setIfInBounds_toArray, List.set_cons_zero, List.set_cons_succ]
      refine takeH 2 56 ?_ rfl rfl (by kernel_rfl) (by kernel_rfl) (by kernel_rfl) (fun _ _ _ h => h) (Or.inl ⟨by kernel_rfl, ?_⟩) hS ?_; rotate_left; (intro w' hw; first | (go_simp; done) | (go_simp; with_reducible rfl)); rotate_left
      try simp only [List.setIfInBounds_toArray, List.set_cons_zero, List.set_cons_succ]
      refine takeH 3 57 ?_ rfl rfl (by kernel_rfl) (by kernel_rfl) (by kernel_rfl) (fun _ _ _ h => h) (Or.inl ⟨by kernel_rfl, ?_⟩) hS ?_; rotate_left; (intro w' hw; first | (go_simp; done) | (go_simp; with_reducible rfl)); rotate_left
      try simp only [List.setIfInBounds_toArray, List.set_cons_zero, List.set_cons_succ]
      refine takeH 4 58 ?_ rfl rfl (by kernel_rfl) (by kernel_rfl) (by kernel_rfl) (fun _ _ _ h => h) (Or.inl ⟨by kernel_rfl, ?_⟩) hS ?_; rotate_left; (intro w' hw; obtain ⟨z0, z1⟩ := hw; first | (go_simp; done) | (go_simp; with_reducible rfl)); rotate_left
      try simp only [List.setIfInBounds_toArray, List.set_cons_zero, List.set_cons_succ]
      refine takeH 5 59 ?_ rfl rfl (by kernel_rfl) (by kernel_rfl) (by kernel_rfl) (fun _ _ _ h => h) (Or.inl ⟨by kernel_rfl, ?_⟩) hS ?_; rotate_left; (intro w' hw; first | (go_simp; done) | (go_simp; with_reducible rfl)); rotate_left
      try simp only [List.setIfInBounds_toArray, List.set_cons_zero, List.set_cons_succ]
      refine takeH 6 60 ?_ rfl rfl (by kernel_rfl) (by kernel_rfl) (by kernel_rfl) (fun _ _ _ h => h) (Or.inl ⟨by kernel_rfl, ?_⟩) hS ?_; rotate_left; (intro w' hw; first | (go_simp; done) | (go_simp; with_reducible rfl)); rotate_left
      try simp only [List.setIfInBounds_toArray, List.set_cons_zero, List.set_cons_succ]
      refine takeH 7 61 ?_ rfl rfl (by kernel_rfl) (by kernel_rfl) (by kernel_rfl) (fun _ _ _ h => h) (Or.inl ⟨by kernel_rfl, ?_⟩) hS ?_; rotate_left; (intro w' hw; first | (go_simp; done) | (go_simp; with_reducible rfl)); rotate_left
      try simp only [List.setIfInBounds_toArray, List.set_cons_zero, List.set_cons_succ]
      refine takeH 8 62 ?_ rfl rfl (by kernel_rfl) (by kernel_rfl) (by kernel_rfl) (fun _ _ _ h => h) (Or.inl ⟨by kernel_rfl, ?_⟩) hS ?_; rotate_left; (intro w' hw; first | (go_simp; done) | (go_simp; with_reducible rfl)); rotate_left
      try simp only [List.setIfInBounds_toArray, List.set_cons_zero, List.set_cons_succ]
      refine takeH 9 63 ?_ rfl rfl (by kernel_rfl) (by kernel_rfl) (by kernel_rfl) (fun _ _ _ h => h) (Or.inl ⟨by kernel_rfl, ?_⟩) hS ?_; rotate_left; (intro w' hw; obtain ⟨z0, z1⟩ := hw; first | (go_simp; done) | (go_simp; with_reducible rfl)); rotate_left
      try simp only [List.setIfInBounds_toArray, List.set_cons_zero, List.set_cons_succ]
      refine wpAnyH_ready (rs := [10]) (by kernel_rfl) (by simp) ?_; refine AllReadyH.cons rfl (fun K9 hK => ?_) AllReadyH.nil; go_simp; go_wp2_with (go_at_call 9; (with_reducible refine (K2.out _ _ _ QT2.out).mono ?_); rintro e wM ⟨rfl, da2, dcap2, hT⟩; have QT3 := Lib.hid hT; clear hT); replace hS := HCL.out _ (QT3.out.b); refine hK.out _ _ ?_ (fun _ => ?_); (exact hS); clear hK K9
      refine wpAnyH_done (by kernel_rfl) ?_ _
      clear hS
      obtain ⟨y0, y1⟩ := d_cells QT3.out.d.cell
      obtain ⟨x0, x1, x2⟩ := ask_cells QT3.out.q
      have K3 := Lib.hid (fun W (h : TwoH w T D room (askO qk la ln lcap p) da2 dcap2 l2 l2.reverse W) => KS.out T D da2 dcap2 l2 h2l W h)
      generalize hR2 : l2.reverse = R2 at *
      have HR2 := Lib.hid hR2
      clear hR2
      go_wp2_with (go_at_call 10; (with_reducible refine (K3.out _ QT3.out).mono ?_); rintro e wS ⟨rfl, hT⟩; have QT4 := Lib.hid hT; clear hT)
      go_roundw
      case rel => exact ⟨j + 1, by omega, by go_num, Lib.hid ⟨da2, dcap2, by rw [← HSUC.out, HR2.out]; exact QT4.out⟩⟩
      case measure => simp [intOf]; omega
    · obtain rfl : j = len := by omega
      have K3 := Lib.hid (fun W (h : TwoH w T D room (askO qk la ln lcap p) da dcap (Hy.runL room t j) (Hy.runL room t j).reverse W) => KS.out T D da dcap (Hy.runL room t j) (by omega) W h)
      obtain ⟨y0, y1⟩ := d_cells QT.out.d.cell
      obtain ⟨x0, x1, x2⟩ := ask_cells QT.out.q
      generalize Hy.runL room t j = l1 at *
      generalize l1.reverse = R1 at *
      go_wp2_with (first | (go_at_call 10; (with_reducible refine (K3.out _ QT.out).mono ?_); rintro e wS ⟨rfl, hT⟩; have QT4 := Lib.hid hT; clear hT) | (go_at_call 7; (with_reducible refine (KL.out _).mono ?_); rintro e wB ⟨rfl, hbB⟩))
      go_ret
      exact ⟨rfl, QT4.out.b.trans (hbB.mono QT4.out.b.size)⟩
end Go.Proofs.Ytmdpfinadffcaaa
