/-
  The document's wheel behind its pointer: Turn.
-/
import Derived.Test.YtmglpjbikknjgaaWhD
import Derived.Deep.CutBlock
import Derived.Deep.CutRange
namespace Go.Proofs.Ytmglpjbikknjgaa
open Go.RowKit
set_option linter.unusedVariables false

/-- the later of two ticks -/
def later (a b : Int) : Int := if b > a then b else a
theorem run_max64 (ts : Array TypeId) (t : TypeId) (P : Program) (w : World) (a b : Int) : (Builtin.max_ ts t #[.int .u64 a, .int .u64 b]).run P w = .ok (.int .u64 (later a b)) w := by
  unfold later
  simp [Builtin.max_, Builtin.max2]

/-- how long the document's wheel is -/
def refLen (w : World) (R : Nat) : Nat :=
  match w.cell? ⟨R, 1, none⟩ with
  | some (.slice _ n _) => n
  | _ => 0
theorem Ref.refLen {w : World} {B R : Nat} {now : Int} {v : Value} {l : List Wh.E} (h : Ref w B R now v l) : refLen w R = l.length := by
  obtain ⟨a, c, rfl⟩ := own_some h.row
  have : w.cell? ⟨R, 1, none⟩ = some (.slice a l.length c) := by rw [cell_of_row w R _ _ _ _ h.cell]; rfl
  simp only [Go.Proofs.Ytmglpjbikknjgaa.refLen, this]
/-- the wheel behind a store of its tick -/
theorem ref_ticked {w : World} {B R : Nat} {now now' : Int} {v : Value} {l : List Wh.E} (h : Ref w B R now v l) : Ref (w.setCell ⟨R, 0, none⟩ (.int .u64 now')) B R now' v l := by
  have hne := h.ne
  refine ⟨setCell_block w R 0 _ _ _ h.cell, own_keep h.row (fun k hk => Below.heap_setCell _ _ _ _ ?_), h.base⟩
  intro e
  exact hne (by rw [hk]; exact congrArg some e.symm)
theorem row_ticked {w : World} {B R : Nat} {now' : Int} {u : Value} {l : List Wh.E} (h : RowE w B u l) (hne : ∀ k, u.ownBlock = some k → k ≠ R) : RowE (w.setCell ⟨R, 0, none⟩ (.int .u64 now')) B u l :=
  own_keep h (fun k hk => Below.heap_setCell _ _ _ _ (hne k hk))
/-- what the document's Turn returns: a row of what is due -/
structure RetTurn (B R : Nat) (now tm : Int) (v : Value) (l : List Wh.E) (w : World) (e : Ending) (w' : World) : Prop where
  r : ∃ u, e = .returned u ∧ RowE w' w.heap.size u (Wh.turned l tm) ∧ ∃ v', Ref w' B R (later now tm) v' (Wh.rest l tm) ∧ (∀ k, v'.ownBlock = some k → v.ownBlock = some k ∨ w.heap.size ≤ k) ∧ ∀ k, u.ownBlock = some k → ¬ RefF R v' k
  c : Chg (RefF R v) w w'

set_option maxRecDepth 100000 in
set_option maxHeartbeats 8000000 in
theorem refTurnC (now tm : Int) (B R : Nat) (v : Value) (l : List Wh.E) (w : World) (h : Ref w B R now v l) (hl : l.length ≤ 1000000) (hn : (l.map (·.1)).Nodup) :
    Calls Try.prog 15 #[.pointer (some ⟨R, 0, none⟩), .int .u64 tm] w (RetTurn B R now tm v l w) := by
  have hR := lt_block h.cell
  have hBR := h.base
  have H := Lib.hid h; clear h
  have HN := Lib.hid hn; clear hn
  obtain ⟨T, hT⟩ : ∃ T, T = Wh.turned l tm := ⟨_, rfl⟩
  obtain ⟨Z, hZ⟩ : ∃ Z, Z = Wh.rest l tm := ⟨_, rfl⟩
  have HT := Lib.hid hT
  have HZ := Lib.hid hZ
  go_enter Try.func15, Try.ntmps15
  go_wp2
  go_loopw [5] (fun u wr => ∃ (dn m : List Wh.E) (vm : Value), Ref wr B R now vm m ∧ RowE wr w.heap.size u dn ∧ Chg (RefF R v) w wr ∧ dn.length + m.length = l.length ∧ (∀ k, vm.ownBlock = some k → v.ownBlock = some k ∨ w.heap.size ≤ k) ∧ (∀ k, u.ownBlock = some k → ¬ RefF R vm k) ∧ Hid ((m.map (·.1)).Nodup ∧ T = dn ++ Wh.turned m tm ∧ Z = Wh.rest m tm)) (fun u wr => refLen wr R)
  case atStart =>
    have hb : Below w.heap.size w (w.alloc (.cells #[] 51)) := (Below.refl _ _).alloc (Nat.le_refl _) _
    refine ⟨[], l, v, H.out.below hb, RowE.lit w w.heap.size (Nat.le_refl _), Chg.of_below hb, by simp, fun k e => Or.inl e, fun k e hf => ?_, Lib.hid ⟨HN.out, by simpa using HT.out, HZ.out⟩⟩
    have := (H.out.lt k hf).2
    simp [Value.ownBlock] at e
    omega
  case round =>
    obtain ⟨dn, m, vm, hm, hdn, hch, hlen, hlies, hap, hst⟩ := hrel
    clear hT hZ
    obtain ⟨a, cap, rfl, hv⟩ := hm.row.view
    obtain ⟨a', c', rfl⟩ := own_some hdn
    have c0 : wr.cell? ⟨R, 0, none⟩ = some (.int .u64 now) := by rw [cell_of_row wr R _ _ _ _ hm.cell]; rfl
    have c1 : wr.cell? ⟨R, 1, none⟩ = some (.slice a m.length cap) := by rw [cell_of_row wr R _ _ _ _ hm.cell]; rfl
    have hRr := lt_block hm.cell
    by_cases h0 : 0 < m.length
    · obtain ⟨g, rfl, hgr, hc⟩ := hv.is h0
      have KF := Lib.hid (fun W hV => refFirstC now (some ⟨g, 0, none⟩) cap m W h0 (by omega) hV)
      have HV := Lib.hid hv; clear hv
      have HC := Lib.hid hc; clear hc
      have HM := Lib.hid hm; clear hm
      have HDN := Lib.hid hdn; clear hdn
      have HCH := Lib.hid hch; clear hch
      have HL := Lib.hid hlies; clear hlies
      have HAP := Lib.hid hap; clear hap
      go_upto_region 3 with fail
      go_cut [6] from 14 to 23 (fun p wx => ∃ (q k : Nat) (hk : k < m.length), p = .pointer (some ⟨q, 0, none⟩) ∧ Hid (Wh.Least m k) ∧ Hid (wx.heap[q]? = some (.cells #[.int .i64 0, .int .i64 m[k].1, .int .u64 m[k].2] 51)) ∧ wr.heap.size ≤ q ∧ Below wr.heap.size wr wx)
      case first =>
        refine wp_region_any (by kernel_rfl) ?_
        change wpAny _ _ _ _ _ _ _ (World.drew _)
        refine wpAny_of_held (S := fun w' => Below wr.heap.size wr w') _ _ _ _ ?_
        have hS : Below wr.heap.size wr wr.drew := (Below.refl _ _).drew
        refine takeH 0 14 ?_ rfl rfl (by kernel_rfl) (by kernel_rfl) (by kernel_rfl) (fun _ _ _ h => h) (Or.inl ⟨by kernel_rfl, ?_⟩) hS ?_; rotate_left; (intro w' hw; skip; first | (go_simp; done) | (go_simp; with_reducible rfl)); rotate_left
        try simp only [List.setIfInBounds_toArray, List.set_cons_zero, List.set_cons_succ]
        refine takeH 1 15 ?_ rfl rfl (by kernel_rfl) (by kernel_rfl) (by kernel_rfl) (fun _ _ _ h => h) (Or.inl ⟨by kernel_rfl, ?_⟩) hS ?_; rotate_left; (intro w' hw; skip; first | (go_simp; done) | (go_simp; with_reducible rfl)); rotate_left
        try simp only [List.setIfInBounds_toArray, List.set_cons_zero, List.set_cons_succ]
        refine takeH 2 16 ?_ rfl rfl (by kernel_rfl) (by kernel_rfl) (by kernel_rfl) (fun _ _ _ h => h) (Or.inl ⟨by kernel_rfl, ?_⟩) hS ?_; rotate_left; (intro w' hw; skip; first | (go_simp; done) | (go_simp; with_reducible rfl)); rotate_left
        try simp only [List.setIfInBounds_toArray, List.set_cons_zero, List.set_cons_succ]
        refine takeH 3 17 ?_ rfl rfl (by kernel_rfl) (by kernel_rfl) (by kernel_rfl) (fun _ _ _ h => h) (Or.inl ⟨by kernel_rfl, ?_⟩) hS ?_; rotate_left; (intro w' hw; have q0 := (hw.cell (p := ⟨R, 0, none⟩) hRr).trans c0; have q1 := (hw.cell (p := ⟨R, 1, none⟩) hRr).trans c1; first | (go_simp; done) | (go_simp; with_reducible rfl)); rotate_left
        try simp only [List.setIfInBounds_toArray, List.set_cons_zero, List.set_cons_succ]
        refine takeH 4 18 ?_ rfl rfl (by kernel_rfl) (by kernel_rfl) (by kernel_rfl) (fun _ _ _ h => h) (Or.inl ⟨by kernel_rfl, ?_⟩) hS ?_; rotate_left; (intro w' hw; skip; first | (go_simp; done) | (go_simp; with_reducible rfl)); rotate_left
        try simp only [List.setIfInBounds_toArray, List.set_cons_zero, List.set_cons_succ]
        refine takeH 5 19 ?_ rfl rfl (by kernel_rfl) (by kernel_rfl) (by kernel_rfl) (fun _ _ _ h => h) (Or.inl ⟨by kernel_rfl, ?_⟩) hS ?_; rotate_left; (intro w' hw; skip; first | (go_simp; done) | (go_simp; with_reducible rfl)); rotate_left
        try simp only [List.setIfInBounds_toArray, List.set_cons_zero, List.set_cons_succ]
        refine takeH 6 20 ?_ rfl rfl (by kernel_rfl) (by kernel_rfl) (by kernel_rfl) (fun _ _ _ h => h) (Or.inl ⟨by kernel_rfl, ?_⟩) hS ?_; rotate_left; (intro w' hw; have q0 := (hw.cell (p := ⟨R, 0, none⟩) hRr).trans c0; have q1 := (hw.cell (p := ⟨R, 1, none⟩) hRr).trans c1; first | (go_simp; done) | (go_simp; with_reducible rfl)); rotate_left
        try simp only [List.setIfInBounds_toArray, List.set_cons_zero, List.set_cons_succ]
        refine wpAnyH_ready (rs := [7, 10]) (by kernel_rfl) (by simp) ?_
        refine AllReadyH.cons rfl (fun K hK => ?_) (AllReadyH.cons rfl (fun K hK => ?_) AllReadyH.nil)
        · skip
          go_simp
          go_wp2_with (go_at_call 28; (with_reducible refine (KF.out _ (HV.out.below hS)).mono ?_); rintro e wA ⟨⟨k, rfl, hkl, hleast⟩, hbA⟩; replace hS := hS.trans (hbA.mono hS.size))
          refine hK.out _ _ ?_ (fun _ => ?_); (exact hS); clear hK K
          obtain ⟨e0, e1, e2⟩ := HC.out k hkl
          have HLEAST := Lib.hid hleast; clear hleast
          refine takeH 8 22 ?_ rfl rfl (by kernel_rfl) (by kernel_rfl) (by kernel_rfl) (fun _ _ _ h => h) (Or.inl ⟨by kernel_rfl, ?_⟩) hS ?_; rotate_left; (intro w' hw; skip; first | (go_simp; done) | (go_simp; with_reducible rfl)); rotate_left
          try simp only [List.setIfInBounds_toArray, List.set_cons_zero, List.set_cons_succ]
          refine takeH 9 23 ?_ rfl rfl (by kernel_rfl) (by kernel_rfl) (by kernel_rfl) (fun _ _ _ h => h) (Or.inl ⟨by kernel_rfl, ?_⟩) hS ?_; rotate_left; (intro w' hw; have z0 := (hw.cell (p := ⟨g, k * 3, none⟩) hgr).trans e0; have z1 := (hw.cell (p := ⟨g, k * 3 + 1, none⟩) hgr).trans e1; have z2 := (hw.cell (p := ⟨g, k * 3 + 2, none⟩) hgr).trans e2; first | (go_simp; done) | (go_simp; with_reducible rfl)); rotate_left
          try simp only [List.setIfInBounds_toArray, List.set_cons_zero, List.set_cons_succ]
          refine wpAnyH_ready (rs := [10]) (by kernel_rfl) (by simp) ?_; refine AllReadyH.cons rfl (fun K hK => ?_) AllReadyH.nil
          go_simp
          have hS2 := hS.alloc hS.size (.cells #[.int .i64 0, .int .i64 0, .int .u64 0] 51)
          refine hK.out _ _ ?_ (fun _ => ?_); (exact hS2); clear hK K
          refine wpAnyH_ready (rs := [11]) (by kernel_rfl) (by simp) ?_; refine AllReadyH.cons rfl (fun K hK => ?_) AllReadyH.nil
          go_simp
          refine hK.out _ _ ?_ (fun _ => ?_); (exact hS.alloc hS.size _); clear hK K
          refine wpAnyH_done (by kernel_rfl) ?_ _
          go_wp2
          go_meet
          exact ⟨_, k, hkl, rfl, Lib.hid ⟨hkl, HLEAST.out⟩, Lib.hid (heap_alloc_new _ _), hS.size, hS.alloc hS.size _⟩
        · skip
          go_simp
          have hnew : (wr.alloc (.cells #[.int .i64 0, .int .i64 0, .int .u64 0] 51)).drew.heap[wr.heap.size]? = _ := heap_alloc_new wr _
          have hsz : wr.heap.size < (wr.alloc (.cells #[.int .i64 0, .int .i64 0, .int .u64 0] 51)).drew.heap.size := alloc_lt wr _
          replace hS : Below wr.heap.size wr (wr.alloc (.cells #[.int .i64 0, .int .i64 0, .int .u64 0] 51)).drew := ((Below.refl _ _).alloc (Nat.le_refl _) _).drew
          refine hK.out _ _ ?_ (fun _ => ?_); (exact hS); clear hK K
          refine wpAnyH_ready (rs := [7]) (by kernel_rfl) (by simp) ?_; refine AllReadyH.cons rfl (fun K hK => ?_) AllReadyH.nil
          go_simp
          go_wp2_with (go_at_call 28; (with_reducible refine (KF.out _ (HV.out.below hS)).mono ?_); rintro e wA ⟨⟨k, rfl, hkl, hleast⟩, hbA⟩; replace hS := hS.trans (hbA.mono hS.size))
          refine hK.out _ _ ?_ (fun _ => ?_); (exact hS); clear hK K
          obtain ⟨e0, e1, e2⟩ := HC.out k hkl
          have HLEAST := Lib.hid hleast; clear hleast
          have hq := (hbA.block wr.heap.size hsz).trans hnew
          have q0 : wA.cell? ⟨wr.heap.size, 0, none⟩ = some (.int .i64 0) := by rw [cell_of_row wA _ _ _ _ _ hq]; rfl
          have q1 : wA.cell? ⟨wr.heap.size, 1, none⟩ = some (.int .i64 0) := by rw [cell_of_row wA _ _ _ _ _ hq]; rfl
          have q2 : wA.cell? ⟨wr.heap.size, 2, none⟩ = some (.int .u64 0) := by rw [cell_of_row wA _ _ _ _ _ hq]; rfl
          have f0 := frozen_of wA wr.heap.size 0 _ _ hq
          have f1 := frozen_of wA wr.heap.size 1 _ _ hq
          have f2 := frozen_of wA wr.heap.size 2 _ _ hq
          refine takeH 8 22 ?_ rfl rfl (by kernel_rfl) (by kernel_rfl) (by kernel_rfl) (fun _ _ _ h => h) (Or.inl ⟨by kernel_rfl, ?_⟩) hS ?_; rotate_left; (intro w' hw; skip; first | (go_simp; done) | (go_simp; with_reducible rfl)); rotate_left
          try simp only [List.setIfInBounds_toArray, List.set_cons_zero, List.set_cons_succ]
          refine takeH 9 23 ?_ rfl rfl (by kernel_rfl) (by kernel_rfl) (by kernel_rfl) (fun _ _ _ h => h) (Or.inl ⟨by kernel_rfl, ?_⟩) hS ?_; rotate_left; (intro w' hw; have z0 := (hw.cell (p := ⟨g, k * 3, none⟩) hgr).trans e0; have z1 := (hw.cell (p := ⟨g, k * 3 + 1, none⟩) hgr).trans e1; have z2 := (hw.cell (p := ⟨g, k * 3 + 2, none⟩) hgr).trans e2; first | (go_simp; done) | (go_simp; with_reducible rfl)); rotate_left
          try simp only [List.setIfInBounds_toArray, List.set_cons_zero, List.set_cons_succ]
          refine wpAnyH_ready (rs := [11]) (by kernel_rfl) (by simp) ?_; refine AllReadyH.cons rfl (fun K hK => ?_) AllReadyH.nil
          go_simp
          have hS3 : Below wr.heap.size wr (((wA.setCell ⟨wr.heap.size, 0, none⟩ (.int .i64 0)).setCell ⟨wr.heap.size, 1, none⟩ (.int .i64 m[k].1)).setCell ⟨wr.heap.size, 2, none⟩ (.int .u64 m[k].2)) := ((hS.setCell (Nat.le_refl _) _).setCell (Nat.le_refl _) _).setCell (Nat.le_refl _) _
          refine hK.out _ _ ?_ (fun _ => ?_); (exact hS3); clear hK K
          refine wpAnyH_done (by kernel_rfl) ?_ _
          go_wp2
          go_meet
          exact ⟨_, k, hkl, rfl, Lib.hid ⟨hkl, HLEAST.out⟩, Lib.hid (setCell_block _ _ 2 _ _ _ (setCell_block _ _ 1 _ _ _ (setCell_block _ _ 0 _ _ _ hq))), Nat.le_refl _, hS3⟩
      case rest =>
      obtain ⟨q, k, hkl, rfl, hleast, hq, hqs, hbx⟩ := hcut
      have HMW := Lib.hid (HM.out.below hbx)
      have HDW := Lib.hid (RowE.below HDN.out hbx)
      have HCW := Lib.hid (HCH.out.then hbx)
      have q0 : wc.cell? ⟨q, 0, none⟩ = some (.int .i64 0) := by rw [cell_of_row wc _ _ _ _ _ hq.out]; rfl
      have q1 : wc.cell? ⟨q, 1, none⟩ = some (.int .i64 m[k].1) := by rw [cell_of_row wc _ _ _ _ _ hq.out]; rfl
      have q2 : wc.cell? ⟨q, 2, none⟩ = some (.int .u64 m[k].2) := by rw [cell_of_row wc _ _ _ _ _ hq.out]; rfl
      have r0 : wc.cell? ⟨R, 0, none⟩ = some (.int .u64 now) := (hbx.cell (p := ⟨R, 0, none⟩) hRr).trans c0
      have r1 : wc.cell? ⟨R, 1, none⟩ = some (.slice (some ⟨g, 0, none⟩) m.length cap) := (hbx.cell (p := ⟨R, 1, none⟩) hRr).trans c1
      have hRc : R < wc.heap.size := Nat.lt_of_lt_of_le hRr hbx.size
      have HR0 := Lib.hid HM.out.refLen
      have HUL := Lib.hid (fun k e => (World.ownsRow.lt HDN.out k e).2)
      clear c0 c1 HM HDN HCH hRr
      obtain ⟨hnd, hTm, hZm⟩ := hst.out
      by_cases hgt : tm < m[k].2
      · have t1 : decide (tm < m[k].2) = true := decide_eq_true hgt
        obtain ⟨g1, g2⟩ := Wh.turned_end hleast.out (fun _ => hgt)
        rw [g1, List.append_nil] at hTm
        rw [g2] at hZm
        have hTd := Lib.hid hTm
        have hZd := Lib.hid hZm
        clear hTm hZm hgt hst hnd g1 g2 hleast
        generalize m[k].1 = x at *
        generalize m[k].2 = y at *
        have f0 := frozen_of wc R 0 _ _ HMW.out.cell
        have hmax := run_max64
        go_wp2
        go_ret
        exact ⟨⟨_, rfl, by rw [← HT.out, hTd.out]; exact row_ticked HDW.out (fun k e h => HAP.out k e (Or.inl h)), _, by rw [← HZ.out, hZd.out]; exact ref_ticked HMW.out, HL.out, HAP.out⟩, HCW.out.setCell (Or.inl (Or.inl rfl)) _⟩
      · have t1 : decide (tm < m[k].2) = false := decide_eq_false hgt
        obtain ⟨_, g1, g2⟩ := Wh.turned_step (tm := tm) hnd hleast.out (fun _ => by omega)
        rw [g1] at hTm
        rw [g2] at hZm
        have hwo := Wh.without_at hnd k hkl
        rw [← hwo] at hTm hZm
        have hnd2 := Wh.nodup_without (id := m[k].1) hnd
        have hel : (Wh.without m m[k].1).length + 1 = m.length := by rw [hwo, List.length_eraseIdx_of_lt hkl]; omega
        have hST : Hid (((Wh.without m m[k].1).map (·.1)).Nodup ∧ T = (dn ++ [(m[k].1, m[k].2)]) ++ Wh.turned (Wh.without m m[k].1) tm ∧ Z = Wh.rest (Wh.without m m[k].1) tm) := Lib.hid ⟨hnd2, by rw [hTm]; simp, hZm⟩
        have kd := fun W h => refDropC m[k].1 now B R (.slice (some ⟨g, 0, none⟩) m.length cap) m W h (by omega)
        have KD := Lib.hid kd
        have hlen2 : dn.length ≤ 9223372036 := by omega
        have hwsz : w.heap.size ≤ wc.heap.size := HCW.out.size
        have hOA : wc.ownsRow w.heap.size 51 3 (.slice a' dn.length c') dn.length (cellsE dn) := HDW.out
        clear hTm hZm hgt hst hnd g1 g2 hleast hwo hnd2 kd
        generalize Wh.without m m[k].1 = m2 at *
        generalize m[k].1 = x at *
        generalize m[k].2 = y at *
        have hqc := lt_block hq.out
        go_wp2_with (first | (at_builtin; (refine wpApp2 wc rfl _ _ 28 rfl w.heap.size 51 _ 3 24 Try.underlying28 infoTimer rfl (by decide) (by decide) (.slice a' dn.length c') dn.length (cellsE dn) rfl hOA #[.int .i64 0, .int .i64 x, .int .u64 y] _ rfl rfl (fun u hu => by simp at hu; rcases hu with rfl | rfl | rfl <;> rfl) hlen2 hwsz ?_); intro v' w2 hown hb2 hkeep hlies2; have hM2 := HMW.out.keep (fun k hk => hkeep k (HMW.out.lt k hk).2 (fun e => HAP.out k e.symm hk)); have hq2 : w2.heap[q]? = some (.cells #[.int .i64 0, .int .i64 x, .int .u64 y] 51) := (hkeep q hqc (fun e => by have := HUL.out q e.symm; omega)).trans hq.out; have s1 : w2.cell? ⟨q, 1, none⟩ = some (.int .i64 x) := by rw [cell_of_row w2 _ _ _ _ _ hq2]; rfl) | (go_at_call 12; (with_reducible refine (KD.out _ hM2).mono ?_); rintro e w3 ⟨rfl, ⟨vn, hM3, hln⟩, hc3⟩))
        have hrow3 : RowE w3 w.heap.size v' (dn ++ [(x, y)]) := own_keep (RowE.snoc (l := dn) (e := (x, y)) hown) (fun k hk => hc3.block k (World.ownsRow.lt hown k hk).2 (fun hf => by
          rcases hlies2 k hk with h | h
          · exact HAP.out k h hf
          · have := (HMW.out.lt k hf).2; omega))
        have hap3 : ∀ k, v'.ownBlock = some k → ¬ RefF R vn k := fun k hk hf => by
          have hlt2 := (World.ownsRow.lt hown k hk).2
          rcases hlies2 k hk with h | h
          · rcases hf with e | e
            · exact HAP.out k h (Or.inl e)
            · rcases hln k e with e | e
              · exact HAP.out k h (Or.inr e)
              · omega
          · rcases hf with e | e
            · omega
            · rcases hln k e with e | e
              · have := (HMW.out.lt k (Or.inr e)).2; omega
              · omega
        have hch3 : Chg (RefF R v) w w3 := by
          have h1 : Chg (RefF R v) w w2 := HCW.out.trans (G := fun k => (Value.slice a' dn.length c').ownBlock = some k) ⟨hb2.os, hb2.tape, hb2.output, hb2.size, fun k hk hf => hkeep k hk (fun e => hf e.symm)⟩ (fun k hk => Or.inr (World.ownsRow.lt hOA k hk).1)
          refine h1.trans hc3 (fun k hk => ?_)
          rcases hk with e | e
          · exact Or.inl (Or.inl e)
          · rcases HL.out k e with e | e
            · exact Or.inl (Or.inr e)
            · exact Or.inr e
        have hl3 : ∀ k, vn.ownBlock = some k → v.ownBlock = some k ∨ w.heap.size ≤ k := fun k e => by
          rcases hln k e with e | e
          · exact HL.out k e
          · exact Or.inr (Nat.le_trans (Nat.le_trans hwsz hb2.size) e)
        have hr1 := HR0.out
        have hr3 := hM3.refLen
        clear hkeep hlies2 hb2 hc3 hln hown hM2 hq2 s1
        go_roundw
        case rel => exact ⟨dn ++ [(x, y)], m2, vn, hM3, hrow3, hch3, by simp; omega, hl3, hap3, hST⟩
        case measure => rw [hr3, hr1]; omega
    · have hm0 : m = [] := List.length_eq_zero_iff.1 (by omega)
      obtain ⟨hnd, hTm, hZm⟩ := hst.out
      have HMW := Lib.hid hm
      have HDW := Lib.hid hdn
      have HCW := Lib.hid hch
      have HL := Lib.hid hlies
      have HAP := Lib.hid hap
      have hTd : Hid (T = dn) := Lib.hid (by rw [hm0] at hTm; simpa [Wh.turned, Wh.due, Wh.sortT] using hTm)
      have hZd : Hid (Z = m) := Lib.hid (by rw [hm0] at hZm ⊢; exact hZm)
      have hml : m.length = 0 := by omega
      clear hm hdn hch hlies hap hst hnd hTm hZm hv
      have f0 := frozen_of wr R 0 _ _ HMW.out.cell
      have hmax := run_max64
      go_wp2
      go_ret
      exact ⟨⟨_, rfl, by rw [← HT.out, hTd.out]; exact row_ticked HDW.out (fun k e h => HAP.out k e (Or.inl h)), _, by rw [← HZ.out, hZd.out]; exact ref_ticked HMW.out, HL.out, HAP.out⟩, HCW.out.setCell (Or.inl (Or.inl rfl)) _⟩
end Go.Proofs.Ytmglpjbikknjgaa
