/-
  The law FlowPicks.
-/
import Derived.Test.YtgeoebodlcbebaaFlO
import Derived.Deep.CutRange
namespace Go.Proofs.Ytgeoebodlcbebaa
open Go.RowKit
open Rb (Nd)
set_option linter.unusedVariables false

set_option maxRecDepth 100000 in
theorem picks_nil (q : Int) (a : Option Addr) (len cap : Nat) (w : World) (h : ¬ (1 ≤ q ∧ q ≤ 64)) : Calls Try.prog 5 #[.int .i64 q, .slice a len cap] w (Ret (.bool true) w) := by
  have K0 := Lib.hid (flNewNil q w h)
  have KL := Lib.hid (fun W => liveOk W)
  clear h
  by_cases hl : 200 < len
  · go_enter Try.func5, Try.ntmps5
    go_wp2_with (first | (go_at_call 7; (with_reducible refine K0.out.mono ?_); rintro e wA ⟨rfl, rfl⟩) | (go_at_call 8; (with_reducible refine (KL.out _).mono ?_); rintro e wB ⟨rfl, hB⟩))
    go_ret
    exact ⟨rfl, hB⟩
  · go_enter Try.func5, Try.ntmps5
    go_wp2_with (first | (go_at_call 7; (with_reducible refine K0.out.mono ?_); rintro e wA ⟨rfl, rfl⟩) | (go_at_call 8; (with_reducible refine (KL.out _).mono ?_); rintro e wB ⟨rfl, hB⟩))
    go_ret
    exact ⟨rfl, hB⟩
set_option maxRecDepth 100000 in
theorem picks_many (q : Int) (a : Option Addr) (len cap : Nat) (w : World) (h1 : 1 ≤ q) (h2 : q ≤ 64) (hl : 200 < len) : Calls Try.prog 5 #[.int .i64 q, .slice a len cap] w (Ret (.bool true) w) := by
  have K0 := Lib.hid ((flNewC q w h1 h2).mono (R' := fun e w' => ∃ P, e = .returned (.pointer (some ⟨P, 0, none⟩)) ∧ Hid (Below w.heap.size w w')) fun e w' hr => by
    obtain ⟨P, F, h, _⟩ := hr.s
    exact ⟨P, h, Lib.hid hr.b⟩)
  have KL := Lib.hid (fun W => liveOk W)
  clear h1 h2
  go_enter Try.func5, Try.ntmps5
  go_wp2_with (first | (go_at_call 7; (with_reducible refine K0.out.mono ?_); rintro e wA ⟨P, rfl, hA⟩) | (go_at_call 8; (with_reducible refine (KL.out _).mono ?_); rintro e wB ⟨rfl, hB⟩))
  go_ret
  exact ⟨rfl, hA.out.trans (hB.mono hA.out.size)⟩
set_option maxRecDepth 100000 in
set_option maxHeartbeats 16000000 in
theorem picks_at (q : Int) (a : Option Addr) (len cap : Nat) (t : Nat → Fl.Ac) (w : World) (h1 : 1 ≤ q) (h2 : q ≤ 64) (hl : len ≤ 200) (h : ActAt w a len t) : Calls Try.prog 5 #[.int .i64 q, .slice a len cap] w (Ret (.bool true) w) := by
  have K0 := Lib.hid (solo_new w w q (Below.refl _ _) h1 h2)
  have KL := Lib.hid (fun W => liveOk W)
  have HA0 := Lib.hid h
  clear h h1 h2
  go_enter Try.func5, Try.ntmps5
  go_wp2_with (go_at_call 7; (with_reducible refine K0.out.mono ?_); rintro e wA ⟨P, rfl, hV⟩; have HV0 := Lib.hid hV; clear hV)
  clear K0
  go_loopg [6] len (fun gk i wr => ∃ (k : Nat) (s : Fl.St), k ≤ len ∧ gk = len - k ∧ i = .int .i64 (k : Int) ∧ Hid (SoloF w P k s [] wr))
  case atStart => exact ⟨0, _, by omega, rfl, rfl, HV0⟩
  case round =>
    obtain ⟨k, s, hk, rfl, rfl, hst⟩ := hrel
    clear HV0
    by_cases hlt : k < len
    · rcases HA0.out with h | ⟨b, off, rfl, hg, hc⟩
      · omega
      obtain ⟨e0, e1, e2, e3, e4, hwf, hwi⟩ := hc k hlt
      obtain ⟨ac, hac⟩ : ∃ ac, ac = t k := ⟨_, rfl⟩
      rw [← hac] at e0 e1 e2 e3 e4 hwf hwi
      obtain ⟨kd, f0, w0, id0, co0⟩ := ac
      dsimp only at e0 e1 e2 e3 e4 hwf hwi
      have HS0 : Hid (∀ W, Below w.heap.size w W → W.cell? ⟨b, off + k * 5, none⟩ = some (.int .i64 kd) ∧ W.cell? ⟨b, off + k * 5 + 1, none⟩ = some (.int .i64 f0) ∧ W.cell? ⟨b, off + k * 5 + 2, none⟩ = some (.int .i64 w0) ∧ W.cell? ⟨b, off + k * 5 + 3, none⟩ = some (.int .i64 id0) ∧ W.cell? ⟨b, off + k * 5 + 4, none⟩ = some (.int .i64 co0)) := Lib.hid (fun W hW => ⟨(hW.cell (p := ⟨b, _, none⟩) hg).trans e0, (hW.cell (p := ⟨b, _, none⟩) hg).trans e1, (hW.cell (p := ⟨b, _, none⟩) hg).trans e2, (hW.cell (p := ⟨b, _, none⟩) hg).trans e3, (hW.cell (p := ⟨b, _, none⟩) hg).trans e4⟩)
      clear e0 e1 e2 e3 e4 hc hac
      obtain ⟨a0, _, _, _, _⟩ := HS0.out _ hst.out.b
      go_upto_if 40 with fail
      go_cut [] from 41 to 63 (fun wx => ∃ s1, Hid (SoloF w P (k + 1) s1 [] wx))
      case first =>
        by_cases hk0 : kd = 0
        · subst hk0
          have KU := Lib.hid ((solo_push f0 w0 id0 co0 _ (hst.out.below (Below.refl _ _).drew) hwf hwi (by omega)).mono (R' := fun e W' => e = .returned (.int .i64 (s.pushE f0 w0 id0 co0)) ∧ Hid (SoloF w P (k + 1) (s.push f0 w0 id0 co0) [] W')) fun e W' hr => ⟨hr.1, Lib.hid hr.2⟩)
          have hS : Below w.heap.size w wr.drew := hst.out.b.drew
          clear hst hwf hwi a0
          go_upto_region 8 with fail
          refine wp_region_any (by kernel_rfl) ?_
          change wpAny _ _ _ _ _ _ _ (World.drew _)
          refine wpAny_of_held (S := fun W => Below w.heap.size w W) _ _ _ _ ?_
          refine takeH 0 41 ?_ rfl rfl (by kernel_rfl) (by kernel_rfl) (by kernel_rfl) (fun _ _ _ h => h) (Or.inl ⟨by kernel_rfl, ?_⟩) hS ?_; rotate_left; (intro w' hw; skip; first | (go_simp; done) | (go_simp; with_reducible rfl)); rotate_left
          try simp only [List.setIfInBounds_toArray, List.set_cons_zero, List.set_cons_succ]
          refine takeH 1 42 ?_ rfl rfl (by kernel_rfl) (by kernel_rfl) (by kernel_rfl) (fun _ _ _ h => h) (Or.inl ⟨by kernel_rfl, ?_⟩) hS ?_; rotate_left; (intro w' hw; skip; first | (go_simp; done) | (go_simp; with_reducible rfl)); rotate_left
          try simp only [List.setIfInBounds_toArray, List.set_cons_zero, List.set_cons_succ]
          refine takeH 2 43 ?_ rfl rfl (by kernel_rfl) (by kernel_rfl) (by kernel_rfl) (fun _ _ _ h => h) (Or.inl ⟨by kernel_rfl, ?_⟩) hS ?_; rotate_left; (intro w' hw; skip; first | (go_simp; done) | (go_simp; with_reducible rfl)); rotate_left
          try simp only [List.setIfInBounds_toArray, List.set_cons_zero, List.set_cons_succ]
          refine takeH 3 44 ?_ rfl rfl (by kernel_rfl) (by kernel_rfl) (by kernel_rfl) (fun _ _ _ h => h) (Or.inl ⟨by kernel_rfl, ?_⟩) hS ?_; rotate_left; (intro w' hw; skip; first | (go_simp; done) | (go_simp; with_reducible rfl)); rotate_left
          try simp only [List.setIfInBounds_toArray, List.set_cons_zero, List.set_cons_succ]
          refine takeH 4 45 ?_ rfl rfl (by kernel_rfl) (by kernel_rfl) (by kernel_rfl) (fun _ _ _ h => h) (Or.inl ⟨by kernel_rfl, ?_⟩) hS ?_; rotate_left; (intro w' hw; skip; first | (go_simp; done) | (go_simp; with_reducible rfl)); rotate_left
          try simp only [List.setIfInBounds_toArray, List.set_cons_zero, List.set_cons_succ]
          refine takeH 5 46 ?_ rfl rfl (by kernel_rfl) (by kernel_rfl) (by kernel_rfl) (fun _ _ _ h => h) (Or.inl ⟨by kernel_rfl, ?_⟩) hS ?_; rotate_left; (intro w' hw; obtain ⟨z0, z1, z2, z3, z4⟩ := HS0.out _ hw; first | (go_simp; done) | (go_simp; with_reducible rfl)); rotate_left
          try simp only [List.setIfInBounds_toArray, List.set_cons_zero, List.set_cons_succ]
          refine takeH 6 47 ?_ rfl rfl (by kernel_rfl) (by kernel_rfl) (by kernel_rfl) (fun _ _ _ h => h) (Or.inl ⟨by kernel_rfl, ?_⟩) hS ?_; rotate_left; (intro w' hw; skip; first | (go_simp; done) | (go_simp; with_reducible rfl)); rotate_left
          try simp only [List.setIfInBounds_toArray, List.set_cons_zero, List.set_cons_succ]
          refine takeH 7 48 ?_ rfl rfl (by kernel_rfl) (by kernel_rfl) (by kernel_rfl) (fun _ _ _ h => h) (Or.inl ⟨by kernel_rfl, ?_⟩) hS ?_; rotate_left; (intro w' hw; skip; first | (go_simp; done) | (go_simp; with_reducible rfl)); rotate_left
          try simp only [List.setIfInBounds_toArray, List.set_cons_zero, List.set_cons_succ]
          refine takeH 8 49 ?_ rfl rfl (by kernel_rfl) (by kernel_rfl) (by kernel_rfl) (fun _ _ _ h => h) (Or.inl ⟨by kernel_rfl, ?_⟩) hS ?_; rotate_left; (intro w' hw; skip; first | (go_simp; done) | (go_simp; with_reducible rfl)); rotate_left
          try simp only [List.setIfInBounds_toArray, List.set_cons_zero, List.set_cons_succ]
          refine takeH 9 50 ?_ rfl rfl (by kernel_rfl) (by kernel_rfl) (by kernel_rfl) (fun _ _ _ h => h) (Or.inl ⟨by kernel_rfl, ?_⟩) hS ?_; rotate_left; (intro w' hw; skip; first | (go_simp; done) | (go_simp; with_reducible rfl)); rotate_left
          try simp only [List.setIfInBounds_toArray, List.set_cons_zero, List.set_cons_succ]
          refine takeH 10 51 ?_ rfl rfl (by kernel_rfl) (by kernel_rfl) (by kernel_rfl) (fun _ _ _ h => h) (Or.inl ⟨by kernel_rfl, ?_⟩) hS ?_; rotate_left; (intro w' hw; obtain ⟨z0, z1, z2, z3, z4⟩ := HS0.out _ hw; first | (go_simp; done) | (go_simp; with_reducible rfl)); rotate_left
          try simp only [List.setIfInBounds_toArray, List.set_cons_zero, List.set_cons_succ]
          refine takeH 11 52 ?_ rfl rfl (by kernel_rfl) (by kernel_rfl) (by kernel_rfl) (fun _ _ _ h => h) (Or.inl ⟨by kernel_rfl, ?_⟩) hS ?_; rotate_left; (intro w' hw; skip; first | (go_simp; done) | (go_simp; with_reducible rfl)); rotate_left
          try simp only [List.setIfInBounds_toArray, List.set_cons_zero, List.set_cons_succ]
          refine takeH 12 53 ?_ rfl rfl (by kernel_rfl) (by kernel_rfl) (by kernel_rfl) (fun _ _ _ h => h) (Or.inl ⟨by kernel_rfl, ?_⟩) hS ?_; rotate_left; (intro w' hw; skip; first | (go_simp; done) | (go_simp; with_reducible rfl)); rotate_left
          try simp only [List.setIfInBounds_toArray, List.set_cons_zero, List.set_cons_succ]
          refine takeH 13 54 ?_ rfl rfl (by kernel_rfl) (by kernel_rfl) (by kernel_rfl) (fun _ _ _ h => h) (Or.inl ⟨by kernel_rfl, ?_⟩) hS ?_; rotate_left; (intro w' hw; skip; first | (go_simp; done) | (go_simp; with_reducible rfl)); rotate_left
          try simp only [List.setIfInBounds_toArray, List.set_cons_zero, List.set_cons_succ]
          refine takeH 14 55 ?_ rfl rfl (by kernel_rfl) (by kernel_rfl) (by kernel_rfl) (fun _ _ _ h => h) (Or.inl ⟨by kernel_rfl, ?_⟩) hS ?_; rotate_left; (intro w' hw; skip; first | (go_simp; done) | (go_simp; with_reducible rfl)); rotate_left
          try simp only [List.setIfInBounds_toArray, List.set_cons_zero, List.set_cons_succ]
          refine takeH 15 56 ?_ rfl rfl (by kernel_rfl) (by kernel_rfl) (by kernel_rfl) (fun _ _ _ h => h) (Or.inl ⟨by kernel_rfl, ?_⟩) hS ?_; rotate_left; (intro w' hw; obtain ⟨z0, z1, z2, z3, z4⟩ := HS0.out _ hw; first | (go_simp; done) | (go_simp; with_reducible rfl)); rotate_left
          try simp only [List.setIfInBounds_toArray, List.set_cons_zero, List.set_cons_succ]
          refine takeH 16 57 ?_ rfl rfl (by kernel_rfl) (by kernel_rfl) (by kernel_rfl) (fun _ _ _ h => h) (Or.inl ⟨by kernel_rfl, ?_⟩) hS ?_; rotate_left; (intro w' hw; skip; first | (go_simp; done) | (go_simp; with_reducible rfl)); rotate_left
          try simp only [List.setIfInBounds_toArray, List.set_cons_zero, List.set_cons_succ]
          refine takeH 17 58 ?_ rfl rfl (by kernel_rfl) (by kernel_rfl) (by kernel_rfl) (fun _ _ _ h => h) (Or.inl ⟨by kernel_rfl, ?_⟩) hS ?_; rotate_left; (intro w' hw; skip; first | (go_simp; done) | (go_simp; with_reducible rfl)); rotate_left
          try simp only [List.setIfInBounds_toArray, List.set_cons_zero, List.set_cons_succ]
          refine takeH 18 59 ?_ rfl rfl (by kernel_rfl) (by kernel_rfl) (by kernel_rfl) (fun _ _ _ h => h) (Or.inl ⟨by kernel_rfl, ?_⟩) hS ?_; rotate_left; (intro w' hw; skip; first | (go_simp; done) | (go_simp; with_reducible rfl)); rotate_left
          try simp only [List.setIfInBounds_toArray, List.set_cons_zero, List.set_cons_succ]
          refine takeH 19 60 ?_ rfl rfl (by kernel_rfl) (by kernel_rfl) (by kernel_rfl) (fun _ _ _ h => h) (Or.inl ⟨by kernel_rfl, ?_⟩) hS ?_; rotate_left; (intro w' hw; skip; first | (go_simp; done) | (go_simp; with_reducible rfl)); rotate_left
          try simp only [List.setIfInBounds_toArray, List.set_cons_zero, List.set_cons_succ]
          refine takeH 20 61 ?_ rfl rfl (by kernel_rfl) (by kernel_rfl) (by kernel_rfl) (fun _ _ _ h => h) (Or.inl ⟨by kernel_rfl, ?_⟩) hS ?_; rotate_left; (intro w' hw; obtain ⟨z0, z1, z2, z3, z4⟩ := HS0.out _ hw; first | (go_simp; done) | (go_simp; with_reducible rfl)); rotate_left
          try simp only [List.setIfInBounds_toArray, List.set_cons_zero, List.set_cons_succ]
          refine takeH 21 62 ?_ rfl rfl (by kernel_rfl) (by kernel_rfl) (by kernel_rfl) (fun _ _ _ h => h) (Or.inl ⟨by kernel_rfl, ?_⟩) hS ?_; rotate_left; (intro w' hw; skip; first | (go_simp; done) | (go_simp; with_reducible rfl)); rotate_left
          try simp only [List.setIfInBounds_toArray, List.set_cons_zero, List.set_cons_succ]
          refine wpAnyH_ready (rs := [22]) (by kernel_rfl) (by simp) ?_; refine AllReadyH.cons rfl (fun K2 hK => ?_) AllReadyH.nil; go_simp; go_wp2_with (go_at_call 15; (with_reducible refine KU.out.mono ?_); rintro e wU ⟨rfl, hU⟩); replace hS := hU.out.b; refine hK.out _ _ ?_ (fun _ => ?_); (exact hS); clear hK K2
          refine wpAnyH_done (by kernel_rfl) ?_ _
          clear hS
          go_wp2
          go_meet
          exact ⟨_, hU⟩
        · have t0 : (kd == 0) = false := by simpa using hk0
          have HV := Lib.hid (hst.out.mono (Nat.le_succ k))
          clear hst hk0
          go_wp2
          go_meet
          exact ⟨_, HV⟩
      case rest =>
        obtain ⟨s1, hV1⟩ := hcut
        obtain ⟨a0, _, _, _, _⟩ := HS0.out _ hV1.out.b
        clear hst
        go_upto_if 69 with fail
        go_cut [] from 70 to 71 (fun wx => ∃ s1, Hid (SoloF w P (k + 1) s1 [] wx))
        case first =>
          by_cases hk1 : kd = 1
          · subst hk1
            have KT := Lib.hid ((solo_take _ hV1.out (by omega)).mono (R' := fun e W' => ∃ v, e = .returned v ∧ Hid (SoloF w P (k + 1) s1.take [] W')) fun e W' hr => ⟨_, hr.1, Lib.hid hr.2⟩)
            clear hV1
            go_wp2_with (go_at_call 16; (with_reducible refine KT.out.mono ?_); rintro e wT ⟨v, rfl, hT⟩)
            go_meet
            exact ⟨_, hT⟩
          · have t1 : (kd == 1) = false := by simpa using hk1
            clear hk1
            go_wp2
            go_meet
            exact ⟨_, hV1⟩
        case rest =>
          obtain ⟨s2, HV⟩ := hcut
          clear hV1 HS0 a0 hwf hwi
          go_upto_region 11 with fail
          have hGL : Fl.Good s2 ∧ Fl.Lim 64 s2 := ⟨HV.out.g, HV.out.l⟩
          have hfin : ∀ W, SoloF w P (k + 1) (Fl.St.pick s2) [] W → ∃ s3, Hid (SoloF w P (k + 1) s3 [] W) := fun W hW => ⟨_, Lib.hid hW⟩
          have HFIN := Lib.hid hfin
          have KP1 := Lib.hid (fun W hW => solo_pick (w0 := w) (P := P) (n := k + 1) (s := s2) (bx := []) W hW (by omega))
          rcases Fl.picked hGL.1 hGL.2 with ⟨hp1, hp2⟩ | ⟨f, id, co, r, tl, rest, hp1, hp2, hp3, hp4, hp5, hp6, hp7⟩
          · have KP2 := Lib.hid (fun X o W hW => solo_pick (w0 := w) (P := P) (n := k + 1) (s := Fl.St.pick s2) (bx := [(X, o)]) W hW (by omega))
            rw [Fl.takeV_again hGL.1 hGL.2, Fl.pick_again hGL.1 hGL.2, hp1] at KP2
            rw [hp1] at KP1
            unfold tkV at KP1 KP2
            clear hGL hp1 hp2 hfin
            go_wp2_with (first | (go_at_call 17; (with_reducible refine (KP1.out _ HV.out).mono ?_); rintro e wA ⟨rfl, hA⟩; have HA := Lib.hid (hA.box zeroI); clear hA) | (go_at_call 17; (with_reducible refine (KP2.out _ _ _ HA.out).mono ?_); rintro e wB ⟨rfl, hB⟩; have HB := Lib.hid (hB.below ((Below.refl _ _).alloc (Nat.le_refl _) zeroI)); have hX := Lib.hid (hB.at_ (k := wA.heap.size) (o := zeroI) (by simp)); obtain ⟨x0, x1⟩ := it_cells ((Lib.alloc_old wB zeroI wA.heap.size (lt_block hX.out)).trans hX.out); clear hB hX))
            go_quiet (fail)
            go_wp2
            obtain ⟨s3, HS2⟩ := HFIN.out _ ((HB.out.fewer (bx' := []) (by simp)).below (below_drewN (Below.refl _ _) _))
            go_roundg (len - (k + 1))
            case rel => exact ⟨k + 1, s3, by omega, rfl, by go_num, HS2⟩
            case measure => omega
          · have KP2 := Lib.hid (fun X o W hW => solo_pick (w0 := w) (P := P) (n := k + 1) (s := Fl.St.pick s2) (bx := [(X, o)]) W hW (by omega))
            rw [Fl.takeV_again hGL.1 hGL.2, Fl.pick_again hGL.1 hGL.2, hp1] at KP2
            rw [hp1] at KP1
            unfold tkV at KP1 KP2
            have hwf : (Lit.int .i64 f).wf = true := by
              have := ((hGL.1.pick hGL.2).1.ok r (by rw [hp2]; simp)).f
              rw [hp3] at this
              exact wf_i64' (by omega) this.2
            have hdo : defOf (Fl.St.pick s2).l f = r.d := by unfold defOf; rw [hp7]
            have KRR := Lib.hid (fun X W hW => solo_first (w0 := w) (P := P) (n := k + 1) (s := Fl.St.pick s2) (bx := [(X, itO id co)]) hp2 hp4 W hW (by omega))
            rw [hp3] at KRR
            have KDD := Lib.hid (fun X W (hW : SoloF w P (k + 1) (Fl.St.pick s2) [(X, itO id co)] W) => (solo_def f W hW hwf).mono (R' := fun e W' => e = .returned (.int .i64 r.d) ∧ Hid (SoloF w P (k + 1) (Fl.St.pick s2) [(X, itO id co)] W')) fun e W' hr => ⟨by rw [← hdo]; exact hr.e, Lib.hid (hW.below hr.b)⟩)
            have KGG := Lib.hid (fun X W (hW : SoloF w P (k + 1) (Fl.St.pick s2) [(X, itO id co)] W) => solo_given W hW)
            rw [hp6] at KGG
            have hN : 0 < tl.length + 1 := by omega
            have hM : 0 < rest.length + 1 := by omega
            have t1 : ((((tl.length + 1 : Nat) : Nat) : Int) == 0) = false := by simp; omega
            have t2 : ((((rest.length + 1 : Nat) : Nat) : Int) == 0) = false := by simp; omega
            have t3 : decide (r.d < co) = false := decide_eq_false (by omega)
            generalize r.d = rd at *
            generalize tl.length + 1 = N at *
            generalize rest.length + 1 = M at *
            clear hGL hp1 hp2 hp3 hp4 hp5 hp6 hp7 hfin hwf hdo
            go_wp2_with (first | (go_at_call 17; (with_reducible refine (KP1.out _ HV.out).mono ?_); rintro e wA ⟨rfl, hA⟩; have HA := Lib.hid (hA.box (itO id co)); clear hA) | (go_at_call 17; (with_reducible refine (KP2.out _ _ _ HA.out).mono ?_); rintro e wB ⟨rfl, hB⟩; have HB := Lib.hid (hB.below ((Below.refl _ _).alloc (Nat.le_refl _) (itO id co))); have hX := Lib.hid (hB.at_ (k := wA.heap.size) (o := itO id co) (by simp)); obtain ⟨x0, x1⟩ := it_cells ((Lib.alloc_old wB (itO id co) wA.heap.size (lt_block hX.out)).trans hX.out); clear hB hX))
            generalize wA.heap.size = X at *
            clear KP1 KP2 x0 x1 HA
            have KR := Lib.hid (fun W hW => KRR.out X W hW)
            have KD := Lib.hid (fun W hW => KDD.out X W hW)
            have KG := Lib.hid (fun W hW => KGG.out X W hW)
            clear KRR KDD KGG
            have HS1 := Lib.hid (fun W (hW : SoloF w P (k + 1) (Fl.St.pick s2) [(X, itO id co)] W) => it_cells (hW.at_ (k := X) (o := itO id co) (by simp)))
            have hS := HB.out.below (Below.refl _ _).drew
            clear HB
            refine wp_region_any (by kernel_rfl) ?_
            change wpAny _ _ _ _ _ _ _ (World.drew _)
            refine wpAny_of_held (S := fun W => SoloF w P (k + 1) (Fl.St.pick s2) [(X, itO id co)] W) _ _ _ _ ?_
            refine takeH 0 97 ?_ rfl rfl (by kernel_rfl) (by kernel_rfl) (by kernel_rfl) (fun _ _ _ h => h) (Or.inl ⟨by kernel_rfl, ?_⟩) hS ?_; rotate_left; (intro w' hw; skip; first | (go_simp; done) | (go_simp; with_reducible rfl)); rotate_left
            try simp only [List.setIfInBounds_toArray, List.set_cons_zero, List.set_cons_succ]
            refine takeH 1 98 ?_ rfl rfl (by kernel_rfl) (by kernel_rfl) (by kernel_rfl) (fun _ _ _ h => h) (Or.inl ⟨by kernel_rfl, ?_⟩) hS ?_; rotate_left; (intro w' hw; skip; first | (go_simp; done) | (go_simp; with_reducible rfl)); rotate_left
            try simp only [List.setIfInBounds_toArray, List.set_cons_zero, List.set_cons_succ]
            refine takeH 2 99 ?_ rfl rfl (by kernel_rfl) (by kernel_rfl) (by kernel_rfl) (fun _ _ _ h => h) (Or.inl ⟨by kernel_rfl, ?_⟩) hS ?_; rotate_left; (intro w' hw; skip; first | (go_simp; done) | (go_simp; with_reducible rfl)); rotate_left
            try simp only [List.setIfInBounds_toArray, List.set_cons_zero, List.set_cons_succ]
            refine wpAnyH_ready (rs := [3]) (by kernel_rfl) (by simp) ?_; refine AllReadyH.cons rfl (fun K2 hK => ?_) AllReadyH.nil; go_simp; go_wp2_with (go_at_call 20; (with_reducible refine (KR.out _ hS).mono ?_); rintro e wR1 ⟨g1, c1, h1, o1, k1, rfl, y1a, y1b, y1c, y1d, hR⟩); replace hS := hR.out; clear hR; refine hK.out _ _ ?_ (fun _ => ?_); (exact hS); clear hK K2
            refine takeH 4 101 ?_ rfl rfl (by kernel_rfl) (by kernel_rfl) (by kernel_rfl) (fun _ _ _ h => h) (Or.inl ⟨by kernel_rfl, ?_⟩) hS ?_; rotate_left; (intro w' hw; skip; first | (go_simp; done) | (go_simp; with_reducible rfl)); rotate_left
            try simp only [List.setIfInBounds_toArray, List.set_cons_zero, List.set_cons_succ]
            refine takeH 5 102 ?_ rfl rfl (by kernel_rfl) (by kernel_rfl) (by kernel_rfl) (fun _ _ _ h => h) (Or.inl ⟨by kernel_rfl, ?_⟩) hS ?_; rotate_left; (intro w' hw; skip; first | (go_simp; done) | (go_simp; with_reducible rfl)); rotate_left
            try simp only [List.setIfInBounds_toArray, List.set_cons_zero, List.set_cons_succ]
            refine takeH 6 103 ?_ rfl rfl (by kernel_rfl) (by kernel_rfl) (by kernel_rfl) (fun _ _ _ h => h) (Or.inl ⟨by kernel_rfl, ?_⟩) hS ?_; rotate_left; (intro w' hw; skip; first | (go_simp; done) | (go_simp; with_reducible rfl)); rotate_left
            try simp only [List.setIfInBounds_toArray, List.set_cons_zero, List.set_cons_succ]
            refine takeH 7 104 ?_ rfl rfl (by kernel_rfl) (by kernel_rfl) (by kernel_rfl) (fun _ _ _ h => h) (Or.inl ⟨by kernel_rfl, ?_⟩) hS ?_; rotate_left; (intro w' hw; skip; first | (go_simp; done) | (go_simp; with_reducible rfl)); rotate_left
            try simp only [List.setIfInBounds_toArray, List.set_cons_zero, List.set_cons_succ]
            refine takeH 12 109 ?_ rfl rfl (by kernel_rfl) (by kernel_rfl) (by kernel_rfl) (fun _ _ _ h => h) (Or.inl ⟨by kernel_rfl, ?_⟩) hS ?_; rotate_left; (intro w' hw; skip; first | (go_simp; done) | (go_simp; with_reducible rfl)); rotate_left
            try simp only [List.setIfInBounds_toArray, List.set_cons_zero, List.set_cons_succ]
            refine wpAnyH_ready (rs := [8]) (by kernel_rfl) (by simp) ?_; refine AllReadyH.cons rfl (fun K2 hK => ?_) AllReadyH.nil; go_simp; go_wp2_with (go_at_call 20; (with_reducible refine (KR.out _ hS).mono ?_); rintro e wR2 ⟨g2, c2, h2, o2, k2, rfl, y2a, y2b, y2c, y2d, hR⟩); replace hS := hR.out; clear hR; refine hK.out _ _ ?_ (fun _ => ?_); (exact hS); clear hK K2
            refine takeH 9 106 ?_ rfl rfl (by kernel_rfl) (by kernel_rfl) (by kernel_rfl) (fun _ _ _ h => h) (Or.inl ⟨by kernel_rfl, ?_⟩) hS ?_; rotate_left; (intro w' hw; skip; first | (go_simp; done) | (go_simp; with_reducible rfl)); rotate_left
            try simp only [List.setIfInBounds_toArray, List.set_cons_zero, List.set_cons_succ]
            refine takeH 10 107 ?_ rfl rfl (by kernel_rfl) (by kernel_rfl) (by kernel_rfl) (fun _ _ _ h => h) (Or.inl ⟨by kernel_rfl, ?_⟩) hS ?_; rotate_left; (intro w' hw; skip; first | (go_simp; done) | (go_simp; with_reducible rfl)); rotate_left
            try simp only [List.setIfInBounds_toArray, List.set_cons_zero, List.set_cons_succ]
            refine wpAnyH_ready (rs := [11]) (by kernel_rfl) (by simp) ?_; refine AllReadyH.cons rfl (fun K2 hK => ?_) AllReadyH.nil; go_simp; refine hK.out _ _ ?_ (fun _ => ?_); (exact hS); clear hK K2
            refine takeH 13 110 ?_ rfl rfl (by kernel_rfl) (by kernel_rfl) (by kernel_rfl) (fun _ _ _ h => h) (Or.inl ⟨by kernel_rfl, ?_⟩) hS ?_; rotate_left; (intro w' hw; skip; first | (go_simp; done) | (go_simp; with_reducible rfl)); rotate_left
            try simp only [List.setIfInBounds_toArray, List.set_cons_zero, List.set_cons_succ]
            refine takeH 14 111 ?_ rfl rfl (by kernel_rfl) (by kernel_rfl) (by kernel_rfl) (fun _ _ _ h => h) (Or.inl ⟨by kernel_rfl, ?_⟩) hS ?_; rotate_left; (intro w' hw; skip; first | (go_simp; done) | (go_simp; with_reducible rfl)); rotate_left
            try simp only [List.setIfInBounds_toArray, List.set_cons_zero, List.set_cons_succ]
            refine takeH 15 112 ?_ rfl rfl (by kernel_rfl) (by kernel_rfl) (by kernel_rfl) (fun _ _ _ h => h) (Or.inl ⟨by kernel_rfl, ?_⟩) hS ?_; rotate_left; (intro w' hw; skip; first | (go_simp; done) | (go_simp; with_reducible rfl)); rotate_left
            try simp only [List.setIfInBounds_toArray, List.set_cons_zero, List.set_cons_succ]
            refine takeH 16 113 ?_ rfl rfl (by kernel_rfl) (by kernel_rfl) (by kernel_rfl) (fun _ _ _ h => h) (Or.inl ⟨by kernel_rfl, ?_⟩) hS ?_; rotate_left; (intro w' hw; skip; first | (go_simp; done) | (go_simp; with_reducible rfl)); rotate_left
            try simp only [List.setIfInBounds_toArray, List.set_cons_zero, List.set_cons_succ]
            refine wpAnyH_ready (rs := [17]) (by kernel_rfl) (by simp) ?_; refine AllReadyH.cons rfl (fun K2 hK => ?_) AllReadyH.nil; go_simp; go_wp2_with (go_at_call 20; (with_reducible refine (KR.out _ hS).mono ?_); rintro e wR3 ⟨g3, c3, h3, o3, k3, rfl, y3a, y3b, y3c, y3d, hR⟩); replace hS := hR.out; clear hR; refine hK.out _ _ ?_ (fun _ => ?_); (exact hS); clear hK K2
            refine takeH 18 115 ?_ rfl rfl (by kernel_rfl) (by kernel_rfl) (by kernel_rfl) (fun _ _ _ h => h) (Or.inl ⟨by kernel_rfl, ?_⟩) hS ?_; rotate_left; (intro w' hw; skip; first | (go_simp; done) | (go_simp; with_reducible rfl)); rotate_left
            try simp only [List.setIfInBounds_toArray, List.set_cons_zero, List.set_cons_succ]
            refine takeH 19 116 ?_ rfl rfl (by kernel_rfl) (by kernel_rfl) (by kernel_rfl) (fun _ _ _ h => h) (Or.inl ⟨by kernel_rfl, ?_⟩) hS ?_; rotate_left; (intro w' hw; skip; first | (go_simp; done) | (go_simp; with_reducible rfl)); rotate_left
            try simp only [List.setIfInBounds_toArray, List.set_cons_zero, List.set_cons_succ]
            refine wpAnyH_ready (rs := [20]) (by kernel_rfl) (by simp) ?_; refine AllReadyH.cons rfl (fun K2 hK => ?_) AllReadyH.nil; go_simp; refine hK.out _ _ ?_ (fun _ => ?_); (exact hS); clear hK K2
            refine takeH 21 118 ?_ rfl rfl (by kernel_rfl) (by kernel_rfl) (by kernel_rfl) (fun _ _ _ h => h) (Or.inl ⟨by kernel_rfl, ?_⟩) hS ?_; rotate_left; (intro w' hw; skip; first | (go_simp; done) | (go_simp; with_reducible rfl)); rotate_left
            try simp only [List.setIfInBounds_toArray, List.set_cons_zero, List.set_cons_succ]
            refine takeH 22 119 ?_ rfl rfl (by kernel_rfl) (by kernel_rfl) (by kernel_rfl) (fun _ _ _ h => h) (Or.inl ⟨by kernel_rfl, ?_⟩) hS ?_; rotate_left; (intro w' hw; skip; first | (go_simp; done) | (go_simp; with_reducible rfl)); rotate_left
            try simp only [List.setIfInBounds_toArray, List.set_cons_zero, List.set_cons_succ]
            refine takeH 23 120 ?_ rfl rfl (by kernel_rfl) (by kernel_rfl) (by kernel_rfl) (fun _ _ _ h => h) (Or.inl ⟨by kernel_rfl, ?_⟩) hS ?_; rotate_left; (intro w' hw; skip; first | (go_simp; done) | (go_simp; with_reducible rfl)); rotate_left
            try simp only [List.setIfInBounds_toArray, List.set_cons_zero, List.set_cons_succ]
            refine takeH 24 121 ?_ rfl rfl (by kernel_rfl) (by kernel_rfl) (by kernel_rfl) (fun _ _ _ h => h) (Or.inl ⟨by kernel_rfl, ?_⟩) hS ?_; rotate_left; (intro w' hw; skip; first | (go_simp; done) | (go_simp; with_reducible rfl)); rotate_left
            try simp only [List.setIfInBounds_toArray, List.set_cons_zero, List.set_cons_succ]
            refine takeH 25 122 ?_ rfl rfl (by kernel_rfl) (by kernel_rfl) (by kernel_rfl) (fun _ _ _ h => h) (Or.inl ⟨by kernel_rfl, ?_⟩) hS ?_; rotate_left; (intro w' hw; skip; first | (go_simp; done) | (go_simp; with_reducible rfl)); rotate_left
            try simp only [List.setIfInBounds_toArray, List.set_cons_zero, List.set_cons_succ]
            refine takeH 32 129 ?_ rfl rfl (by kernel_rfl) (by kernel_rfl) (by kernel_rfl) (fun _ _ _ h => h) (Or.inl ⟨by kernel_rfl, ?_⟩) hS ?_; rotate_left; (intro w' hw; obtain ⟨z0, z1⟩ := HS1.out _ hw; first | (go_simp; done) | (go_simp; with_reducible rfl)); rotate_left
            try simp only [List.setIfInBounds_toArray, List.set_cons_zero, List.set_cons_succ]
            refine wpAnyH_ready (rs := [26]) (by kernel_rfl) (by simp) ?_; refine AllReadyH.cons rfl (fun K2 hK => ?_) AllReadyH.nil; go_simp; go_wp2_with (go_at_call 20; (with_reducible refine (KR.out _ hS).mono ?_); rintro e wR4 ⟨g4, c4, h4, o4, k4, rfl, y4a, y4b, y4c, y4d, hR⟩); replace hS := hR.out; clear hR; refine hK.out _ _ ?_ (fun _ => ?_); (exact hS); clear hK K2
            refine takeH 27 124 ?_ rfl rfl (by kernel_rfl) (by kernel_rfl) (by kernel_rfl) (fun _ _ _ h => h) (Or.inl ⟨by kernel_rfl, ?_⟩) hS ?_; rotate_left; (intro w' hw; skip; first | (go_simp; done) | (go_simp; with_reducible rfl)); rotate_left
            try simp only [List.setIfInBounds_toArray, List.set_cons_zero, List.set_cons_succ]
            refine takeH 28 125 ?_ rfl rfl (by kernel_rfl) (by kernel_rfl) (by kernel_rfl) (fun _ _ _ h => h) (Or.inl ⟨by kernel_rfl, ?_⟩) hS ?_; rotate_left; (intro w' hw; skip; first | (go_simp; done) | (go_simp; with_reducible rfl)); rotate_left
            try simp only [List.setIfInBounds_toArray, List.set_cons_zero, List.set_cons_succ]
            refine wpAnyH_ready (rs := [29]) (by kernel_rfl) (by simp) ?_; refine AllReadyH.cons rfl (fun K2 hK => ?_) AllReadyH.nil; go_simp; refine hK.out _ _ ?_ (fun _ => ?_); (exact hS); clear hK K2
            refine takeH 30 127 ?_ rfl rfl (by kernel_rfl) (by kernel_rfl) (by kernel_rfl) (fun _ _ _ h => h) (Or.inl ⟨by kernel_rfl, ?_⟩) hS ?_; rotate_left; (intro w' hw; skip; first | (go_simp; done) | (go_simp; with_reducible rfl)); rotate_left
            try simp only [List.setIfInBounds_toArray, List.set_cons_zero, List.set_cons_succ]
            refine wpAnyH_ready (rs := [31]) (by kernel_rfl) (by simp) ?_; refine AllReadyH.cons rfl (fun K2 hK => ?_) AllReadyH.nil; go_simp; refine hK.out _ _ ?_ (fun _ => ?_); (exact hS); clear hK K2
            refine takeH 33 130 ?_ rfl rfl (by kernel_rfl) (by kernel_rfl) (by kernel_rfl) (fun _ _ _ h => h) (Or.inl ⟨by kernel_rfl, ?_⟩) hS ?_; rotate_left; (intro w' hw; skip; first | (go_simp; done) | (go_simp; with_reducible rfl)); rotate_left
            try simp only [List.setIfInBounds_toArray, List.set_cons_zero, List.set_cons_succ]
            refine takeH 34 131 ?_ rfl rfl (by kernel_rfl) (by kernel_rfl) (by kernel_rfl) (fun _ _ _ h => h) (Or.inl ⟨by kernel_rfl, ?_⟩) hS ?_; rotate_left; (intro w' hw; skip; first | (go_simp; done) | (go_simp; with_reducible rfl)); rotate_left
            try simp only [List.setIfInBounds_toArray, List.set_cons_zero, List.set_cons_succ]
            refine takeH 35 132 ?_ rfl rfl (by kernel_rfl) (by kernel_rfl) (by kernel_rfl) (fun _ _ _ h => h) (Or.inl ⟨by kernel_rfl, ?_⟩) hS ?_; rotate_left; (intro w' hw; skip; first | (go_simp; done) | (go_simp; with_reducible rfl)); rotate_left
            try simp only [List.setIfInBounds_toArray, List.set_cons_zero, List.set_cons_succ]
            refine takeH 36 133 ?_ rfl rfl (by kernel_rfl) (by kernel_rfl) (by kernel_rfl) (fun _ _ _ h => h) (Or.inl ⟨by kernel_rfl, ?_⟩) hS ?_; rotate_left; (intro w' hw; skip; first | (go_simp; done) | (go_simp; with_reducible rfl)); rotate_left
            try simp only [List.setIfInBounds_toArray, List.set_cons_zero, List.set_cons_succ]
            refine takeH 37 134 ?_ rfl rfl (by kernel_rfl) (by kernel_rfl) (by kernel_rfl) (fun _ _ _ h => h) (Or.inl ⟨by kernel_rfl, ?_⟩) hS ?_; rotate_left; (intro w' hw; skip; first | (go_simp; done) | (go_simp; with_reducible rfl)); rotate_left
            try simp only [List.setIfInBounds_toArray, List.set_cons_zero, List.set_cons_succ]
            refine takeH 39 136 ?_ rfl rfl (by kernel_rfl) (by kernel_rfl) (by kernel_rfl) (fun _ _ _ h => h) (Or.inl ⟨by kernel_rfl, ?_⟩) hS ?_; rotate_left; (intro w' hw; skip; first | (go_simp; done) | (go_simp; with_reducible rfl)); rotate_left
            try simp only [List.setIfInBounds_toArray, List.set_cons_zero, List.set_cons_succ]
            refine takeH 40 137 ?_ rfl rfl (by kernel_rfl) (by kernel_rfl) (by kernel_rfl) (fun _ _ _ h => h) (Or.inl ⟨by kernel_rfl, ?_⟩) hS ?_; rotate_left; (intro w' hw; obtain ⟨z0, z1⟩ := HS1.out _ hw; first | (go_simp; done) | (go_simp; with_reducible rfl)); rotate_left
            try simp only [List.setIfInBounds_toArray, List.set_cons_zero, List.set_cons_succ]
            refine wpAnyH_ready (rs := [38]) (by kernel_rfl) (by simp) ?_; refine AllReadyH.cons rfl (fun K2 hK => ?_) AllReadyH.nil; go_simp; go_wp2_with (go_at_call 13; (with_reducible refine (KD.out _ hS).mono ?_); rintro e wD ⟨rfl, hR⟩); replace hS := hR.out; clear hR; refine hK.out _ _ ?_ (fun _ => ?_); (exact hS); clear hK K2
            refine takeH 41 138 ?_ rfl rfl (by kernel_rfl) (by kernel_rfl) (by kernel_rfl) (fun _ _ _ h => h) (Or.inl ⟨by kernel_rfl, ?_⟩) hS ?_; rotate_left; (intro w' hw; skip; first | (go_simp; done) | (go_simp; with_reducible rfl)); rotate_left
            try simp only [List.setIfInBounds_toArray, List.set_cons_zero, List.set_cons_succ]
            refine takeH 42 139 ?_ rfl rfl (by kernel_rfl) (by kernel_rfl) (by kernel_rfl) (fun _ _ _ h => h) (Or.inl ⟨by kernel_rfl, ?_⟩) hS ?_; rotate_left; (intro w' hw; skip; first | (go_simp; done) | (go_simp; with_reducible rfl)); rotate_left
            try simp only [List.setIfInBounds_toArray, List.set_cons_zero, List.set_cons_succ]
            refine takeH 43 140 ?_ rfl rfl (by kernel_rfl) (by kernel_rfl) (by kernel_rfl) (fun _ _ _ h => h) (Or.inl ⟨by kernel_rfl, ?_⟩) hS ?_; rotate_left; (intro w' hw; skip; first | (go_simp; done) | (go_simp; with_reducible rfl)); rotate_left
            try simp only [List.setIfInBounds_toArray, List.set_cons_zero, List.set_cons_succ]
            refine takeH 44 141 ?_ rfl rfl (by kernel_rfl) (by kernel_rfl) (by kernel_rfl) (fun _ _ _ h => h) (Or.inl ⟨by kernel_rfl, ?_⟩) hS ?_; rotate_left; (intro w' hw; skip; first | (go_simp; done) | (go_simp; with_reducible rfl)); rotate_left
            try simp only [List.setIfInBounds_toArray, List.set_cons_zero, List.set_cons_succ]
            refine wpAnyH_ready (rs := [45]) (by kernel_rfl) (by simp) ?_; refine AllReadyH.cons rfl (fun K2 hK => ?_) AllReadyH.nil; go_simp; go_wp2_with (go_at_call 21; (with_reducible refine (KG.out _ hS).mono ?_); rintro e wG ⟨rfl, rfl⟩); refine hK.out _ _ ?_ (fun _ => ?_); (exact hS); clear hK K2
            refine takeH 46 143 ?_ rfl rfl (by kernel_rfl) (by kernel_rfl) (by kernel_rfl) (fun _ _ _ h => h) (Or.inl ⟨by kernel_rfl, ?_⟩) hS ?_; rotate_left; (intro w' hw; skip; first | (go_simp; done) | (go_simp; with_reducible rfl)); rotate_left
            try simp only [List.setIfInBounds_toArray, List.set_cons_zero, List.set_cons_succ]
            refine takeH 47 144 ?_ rfl rfl (by kernel_rfl) (by kernel_rfl) (by kernel_rfl) (fun _ _ _ h => h) (Or.inl ⟨by kernel_rfl, ?_⟩) hS ?_; rotate_left; (intro w' hw; skip; first | (go_simp; done) | (go_simp; with_reducible rfl)); rotate_left
            try simp only [List.setIfInBounds_toArray, List.set_cons_zero, List.set_cons_succ]
            refine takeH 48 145 ?_ rfl rfl (by kernel_rfl) (by kernel_rfl) (by kernel_rfl) (fun _ _ _ h => h) (Or.inl ⟨by kernel_rfl, ?_⟩) hS ?_; rotate_left; (intro w' hw; skip; first | (go_simp; done) | (go_simp; with_reducible rfl)); rotate_left
            try simp only [List.setIfInBounds_toArray, List.set_cons_zero, List.set_cons_succ]
            refine wpAnyH_done (by kernel_rfl) ?_ _
            obtain ⟨s3, HS2⟩ := HFIN.out _ (hS.fewer (bx' := []) (by simp))
            clear hS HS1 KR KD KG
            go_wp2
            go_roundg (len - (k + 1))
            case rel => exact ⟨k + 1, s3, by omega, rfl, by go_num, HS2⟩
            case measure => omega
    · obtain rfl : k = len := by omega
      have hGL : Fl.Good s ∧ Fl.Lim 64 s := ⟨hst.out.g, hst.out.l⟩
      rcases Fl.picked hGL.1 hGL.2 with ⟨hp1, hp2⟩ | ⟨f, id, co, r, tl, rest, hp1, hp2, hp3, hp4, hp5, hp6, hp7⟩
      · have KP1 := Lib.hid (solo_pick wr hst.out (by omega))
        have KP2 := Lib.hid (fun X o W hW => solo_take (w0 := w) (P := P) (n := k) (s := Fl.St.pick s) (bx := [(X, o)]) W hW (by omega))
        rw [Fl.takeV_again hGL.1 hGL.2, hp1] at KP2
        rw [hp1] at KP1
        unfold tkV at KP1 KP2
        clear hGL hp1 hp2 hst
        go_wp2_with (first | (go_at_call 17; (with_reducible refine KP1.out.mono ?_); rintro e wA ⟨rfl, hA⟩; have HA := Lib.hid (hA.box zeroI); clear hA) | (go_at_call 16; (with_reducible refine (KP2.out _ _ _ HA.out).mono ?_); rintro e wB ⟨rfl, hB⟩; have HB := Lib.hid (hB.below ((Below.refl _ _).alloc (Nat.le_refl _) zeroI)).b; have hX := Lib.hid (hB.at_ (k := wA.heap.size) (o := zeroI) (by simp)); obtain ⟨x0, x1⟩ := it_cells ((Lib.alloc_old wB zeroI wA.heap.size (lt_block hX.out)).trans hX.out); clear hB hX) | (go_at_call 8; (with_reducible refine (KL.out _).mono ?_); rintro e wL ⟨rfl, hL⟩))
        go_ret
        exact ⟨rfl, HB.out.trans (hL.mono HB.out.size)⟩
      · have KP1 := Lib.hid (solo_pick wr hst.out (by omega))
        have KP2 := Lib.hid (fun X o W hW => solo_take (w0 := w) (P := P) (n := k) (s := Fl.St.pick s) (bx := [(X, o)]) W hW (by omega))
        rw [Fl.takeV_again hGL.1 hGL.2, hp1] at KP2
        rw [hp1] at KP1
        unfold tkV at KP1 KP2
        clear hGL hp1 hp2 hp3 hp4 hp5 hp6 hp7 hst
        go_wp2_with (first | (go_at_call 17; (with_reducible refine KP1.out.mono ?_); rintro e wA ⟨rfl, hA⟩; have HA := Lib.hid (hA.box (itO id co)); clear hA) | (go_at_call 16; (with_reducible refine (KP2.out _ _ _ HA.out).mono ?_); rintro e wB ⟨rfl, hB⟩; have HB := Lib.hid (hB.below ((Below.refl _ _).alloc (Nat.le_refl _) (itO id co))).b; have hX := Lib.hid (hB.at_ (k := wA.heap.size) (o := itO id co) (by simp)); obtain ⟨x0, x1⟩ := it_cells ((Lib.alloc_old wB (itO id co) wA.heap.size (lt_block hX.out)).trans hX.out); clear hB hX) | (go_at_call 8; (with_reducible refine (KL.out _).mono ?_); rintro e wL ⟨rfl, hL⟩))
        go_ret
        exact ⟨rfl, HB.out.trans (hL.mono HB.out.size)⟩
end Go.Proofs.Ytgeoebodlcbebaa
