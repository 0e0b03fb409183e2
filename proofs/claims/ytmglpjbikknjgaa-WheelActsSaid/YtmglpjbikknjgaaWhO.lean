/-
  The law WheelActs, by the wheel's contracts.
-/
import Derived.Test.YtmglpjbikknjgaaWhN
namespace Go.Proofs.Ytmglpjbikknjgaa
open Go.RowKit
set_option linter.unusedVariables false

/-- a row of acts, as it came in -/
def ActAt (w : World) (a : Option Addr) (len : Nat) (t : Nat → Int × Int × Int) : Prop := len = 0 ∨ ∃ b off : Nat, a = some ⟨b, off, none⟩ ∧ b < w.heap.size ∧
  ∀ i, i < len → w.cell? ⟨b, off + i * 3, none⟩ = some (.int .i64 (t i).1) ∧ w.cell? ⟨b, off + i * 3 + 1, none⟩ = some (.int .i64 (t i).2.1) ∧ w.cell? ⟨b, off + i * 3 + 2, none⟩ = some (.int .u64 (t i).2.2) ∧ (Lit.int .i64 (t i).2.1).wf = true ∧ (Lit.int .u64 (t i).2.2).wf = true
theorem len_put (l : List Wh.E) (id a : Int) : (Wh.putL l id a).length ≤ l.length + 1 := by unfold Wh.putL; split <;> simp
theorem len_rest (l : List Wh.E) (tk : Int) : (Wh.rest l tk).length ≤ l.length := List.length_filter_le _ _
theorem turned_len (l : List Wh.E) (tk : Int) : (Wh.turned l tk).length ≤ l.length := by unfold Wh.turned; rw [(Wh.sortT_perm _).length_eq]; exact List.length_filter_le _ _
theorem nodup_rest {l : List Wh.E} {tk : Int} (hn : (l.map (·.1)).Nodup) : ((Wh.rest l tk).map (·.1)).Nodup := (List.Sublist.map _ List.filter_sublist).nodup hn

set_option maxRecDepth 100000 in
set_option maxHeartbeats 8000000 in
theorem wheelActs_many {Is : WS} (K : WheelC Is) (now : Int) (a : Option Addr) (len cap : Nat) (w : World) (h : 200 < len) :
    Calls Try.prog 3 #[.int .u64 now, .slice a len cap] w (Ret (.bool true) w) := by
  have KL := Lib.hid (liveOk K)
  go_enter Try.func3, Try.ntmps3
  go_wp2_with (go_at_call 6; (with_reducible refine (KL.out _).mono ?_); rintro e wA ⟨rfl, hbA⟩)
  go_ret
  exact ⟨rfl, hbA⟩

set_option maxRecDepth 100000 in
set_option maxHeartbeats 8000000 in
theorem wheelActs_at {Is : WS} (K : WheelC Is) (now : Int) (a : Option Addr) (len cap : Nat) (t : Nat → Int × Int × Int) (w : World) (hw : (Lit.int .u64 now).wf = true) (hl : len ≤ 200) (h : ActAt w a len t) :
    Calls Try.prog 3 #[.int .u64 now, .slice a len cap] w (Ret (.bool true) w) := by
  have KL := Lib.hid (liveOk K)
  have K0 := Lib.hid (fun W hb => solo_new K w now hw W hb)
  have KN := Lib.hid numC
  have HA := Lib.hid h; clear h hw
  go_enter Try.func3, Try.ntmps3
  go_wp2_with (go_at_call 7; (with_reducible refine (K0.out _ (Below.refl _ _)).mono ?_); rintro e wA ⟨P, rfl, hV⟩)
  have hT0 : Hid (Two Is w w.heap.size P wA.heap.size (.slice none 0 0) now [] now [] (wA.alloc (.cells #[.int .u64 now, .slice none 0 0] 30))) := Lib.hid (by
    obtain ⟨F, hF⟩ := hV.s
    have hb : Below wA.heap.size wA (wA.alloc (.cells #[.int .u64 now, .slice none 0 0] 30)) := (Below.refl _ _).alloc (Nat.le_refl _) _
    refine ⟨⟨F, K.keep hF hb.size (fun k hk => hb.block k (K.lt hF k hk).2), fun k hk hf => ?_⟩, ⟨heap_alloc_new _ _, RowE.nil _ _, hV.z⟩, hV.b.trans (hb.mono hV.z)⟩
    rcases hf with e | e
    · have := (K.lt hF k hk).2; omega
    · simp [Value.ownBlock] at e)
  have KS := Lib.hid (fun v n id l hid hn hl W h => sameC K w w.heap.size P wA.heap.size v n id l W hid hn hl h)
  clear hV
  go_loopw [7] (fun i wr => ∃ (k : Nat) (n : Int) (l : List Wh.E) (v : Value), k ≤ len ∧ i = .int .i64 (k : Int) ∧ Two Is w w.heap.size P wA.heap.size v n l n l wr ∧ (l.map (·.1)).Nodup ∧ l.length ≤ k) (fun i _ => len - (intOf i).toNat)
  case atStart => exact ⟨0, now, [], _, by omega, rfl, hT0.out, by simp, by simp⟩
  case round =>
    obtain ⟨k, n, l, v, hk, rfl, hTw, hnd, hlk⟩ := hrel
    clear hT0
    have HTW := Lib.hid hTw; clear hTw
    have HND := Lib.hid hnd; clear hnd
    by_cases hlt : k < len
    · rcases HA.out with h | ⟨g, off, rfl, hg, hc⟩
      · omega
      · obtain ⟨d0, d1, d2, wi, wt⟩ := hc k hlt
        have c0 := (HTW.out.b.cell (p := ⟨g, off + k * 3, none⟩) hg).trans d0
        have c1 := (HTW.out.b.cell (p := ⟨g, off + k * 3 + 1, none⟩) hg).trans d1
        have c2 := (HTW.out.b.cell (p := ⟨g, off + k * 3 + 2, none⟩) hg).trans d2
        clear d0 d1 d2 hc
        generalize (t k).1 = kd at *
        generalize (t k).2.1 = id at *
        generalize (t k).2.2 = tk at *
        have HQ := Lib.hid (HTW.out.withQ K (.cells #[.int .i64 kd, .int .i64 id, .int .u64 tk] 32))
        have HWI := Lib.hid wi; clear wi
        have HWT := Lib.hid wt; clear wt
        have hl1 : l.length ≤ 1000 := by omega
        by_cases h0 : kd = 0
        · subst h0
          have hkd : ((0 : Int) == 0) = true := rfl
          have KA := Lib.hid (fun W h => putQ K (w0 := w) (B := w.heap.size) (P := P) (R := wA.heap.size) (v := v) (n := n) (l := l) (Q := wr.heap.size) (o := .cells #[.int .i64 0, .int .i64 id, .int .u64 tk] 32) (id := id) (a := tk) HWI.out HWT.out HND.out hl1 W h)
          have KB := Lib.hid (fun W h => refPutQ K (w0 := w) (B := w.heap.size) (P := P) (R := wA.heap.size) (v := v) (n := n) (nw := n) (l := l) (lw := Wh.putL l id tk) (Q := wr.heap.size) (o := .cells #[.int .i64 0, .int .i64 id, .int .u64 tk] 32) (id := id) (a := tk) hl1 W h)
          have HNN := Lib.hid (Wh.nodup_put (id := id) (a := tk) HND.out)
          have hLN : (Wh.putL l id tk).length ≤ 1000 := by have := len_put l id tk; omega
          have hLK := len_put l id tk
          go_upto_region 13 with fail
          refine wp_region_any (by kernel_rfl) ?_
          change wpAny _ _ _ _ _ _ _ (World.drew _)
          refine wpAny_of_held (S := fun w' => w'.heap[wr.heap.size]? = some (.cells #[.int .i64 0, .int .i64 id, .int .u64 tk] 32)) _ _ _ _ ?_
          have hV := HQ.out.below K ((Below.refl _ _).drew)
          have hS := hV.c
          refine takeH 0 42 ?_ rfl rfl (by kernel_rfl) (by kernel_rfl) (by kernel_rfl) (fun _ _ _ h => h) (Or.inl ⟨by kernel_rfl, ?_⟩) hS ?_; rotate_left; (intro w' hw; skip; first | (go_simp; done) | (go_simp; with_reducible rfl)); rotate_left
          try simp only [List.setIfInBounds_toArray, List.set_cons_zero, List.set_cons_succ]
          refine takeH 1 43 ?_ rfl rfl (by kernel_rfl) (by kernel_rfl) (by kernel_rfl) (fun _ _ _ h => h) (Or.inl ⟨by kernel_rfl, ?_⟩) hS ?_; rotate_left; (intro w' hw; skip; first | (go_simp; done) | (go_simp; with_reducible rfl)); rotate_left
          try simp only [List.setIfInBounds_toArray, List.set_cons_zero, List.set_cons_succ]
          refine takeH 2 44 ?_ rfl rfl (by kernel_rfl) (by kernel_rfl) (by kernel_rfl) (fun _ _ _ h => h) (Or.inl ⟨by kernel_rfl, ?_⟩) hS ?_; rotate_left; (intro w' hw; (have z1 : w'.cell? ⟨wr.heap.size, 1, none⟩ = some (.int .i64 id) := (by rw [cell_of_row w' _ _ _ _ _ hw]; rfl)); (have z2 : w'.cell? ⟨wr.heap.size, 2, none⟩ = some (.int .u64 tk) := (by rw [cell_of_row w' _ _ _ _ _ hw]; rfl)); first | (go_simp; done) | (go_simp; with_reducible rfl)); rotate_left
          try simp only [List.setIfInBounds_toArray, List.set_cons_zero, List.set_cons_succ]
          refine takeH 3 45 ?_ rfl rfl (by kernel_rfl) (by kernel_rfl) (by kernel_rfl) (fun _ _ _ h => h) (Or.inl ⟨by kernel_rfl, ?_⟩) hS ?_; rotate_left; (intro w' hw; skip; first | (go_simp; done) | (go_simp; with_reducible rfl)); rotate_left
          try simp only [List.setIfInBounds_toArray, List.set_cons_zero, List.set_cons_succ]
          refine takeH 4 46 ?_ rfl rfl (by kernel_rfl) (by kernel_rfl) (by kernel_rfl) (fun _ _ _ h => h) (Or.inl ⟨by kernel_rfl, ?_⟩) hS ?_; rotate_left; (intro w' hw; (have z1 : w'.cell? ⟨wr.heap.size, 1, none⟩ = some (.int .i64 id) := (by rw [cell_of_row w' _ _ _ _ _ hw]; rfl)); (have z2 : w'.cell? ⟨wr.heap.size, 2, none⟩ = some (.int .u64 tk) := (by rw [cell_of_row w' _ _ _ _ _ hw]; rfl)); first | (go_simp; done) | (go_simp; with_reducible rfl)); rotate_left
          try simp only [List.setIfInBounds_toArray, List.set_cons_zero, List.set_cons_succ]
          refine takeH 7 49 ?_ rfl rfl (by kernel_rfl) (by kernel_rfl) (by kernel_rfl) (fun _ _ _ h => h) (Or.inl ⟨by kernel_rfl, ?_⟩) hS ?_; rotate_left; (intro w' hw; skip; first | (go_simp; done) | (go_simp; with_reducible rfl)); rotate_left
          try simp only [List.setIfInBounds_toArray, List.set_cons_zero, List.set_cons_succ]
          refine takeH 8 50 ?_ rfl rfl (by kernel_rfl) (by kernel_rfl) (by kernel_rfl) (fun _ _ _ h => h) (Or.inl ⟨by kernel_rfl, ?_⟩) hS ?_; rotate_left; (intro w' hw; skip; first | (go_simp; done) | (go_simp; with_reducible rfl)); rotate_left
          try simp only [List.setIfInBounds_toArray, List.set_cons_zero, List.set_cons_succ]
          refine takeH 9 51 ?_ rfl rfl (by kernel_rfl) (by kernel_rfl) (by kernel_rfl) (fun _ _ _ h => h) (Or.inl ⟨by kernel_rfl, ?_⟩) hS ?_; rotate_left; (intro w' hw; (have z1 : w'.cell? ⟨wr.heap.size, 1, none⟩ = some (.int .i64 id) := (by rw [cell_of_row w' _ _ _ _ _ hw]; rfl)); (have z2 : w'.cell? ⟨wr.heap.size, 2, none⟩ = some (.int .u64 tk) := (by rw [cell_of_row w' _ _ _ _ _ hw]; rfl)); first | (go_simp; done) | (go_simp; with_reducible rfl)); rotate_left
          try simp only [List.setIfInBounds_toArray, List.set_cons_zero, List.set_cons_succ]
          refine takeH 10 52 ?_ rfl rfl (by kernel_rfl) (by kernel_rfl) (by kernel_rfl) (fun _ _ _ h => h) (Or.inl ⟨by kernel_rfl, ?_⟩) hS ?_; rotate_left; (intro w' hw; skip; first | (go_simp; done) | (go_simp; with_reducible rfl)); rotate_left
          try simp only [List.setIfInBounds_toArray, List.set_cons_zero, List.set_cons_succ]
          refine takeH 11 53 ?_ rfl rfl (by kernel_rfl) (by kernel_rfl) (by kernel_rfl) (fun _ _ _ h => h) (Or.inl ⟨by kernel_rfl, ?_⟩) hS ?_; rotate_left; (intro w' hw; (have z1 : w'.cell? ⟨wr.heap.size, 1, none⟩ = some (.int .i64 id) := (by rw [cell_of_row w' _ _ _ _ _ hw]; rfl)); (have z2 : w'.cell? ⟨wr.heap.size, 2, none⟩ = some (.int .u64 tk) := (by rw [cell_of_row w' _ _ _ _ _ hw]; rfl)); first | (go_simp; done) | (go_simp; with_reducible rfl)); rotate_left
          try simp only [List.setIfInBounds_toArray, List.set_cons_zero, List.set_cons_succ]
          refine wpAnyH_ready (rs := [5]) (by kernel_rfl) (by simp) ?_; refine AllReadyH.cons rfl (fun K2 hK => ?_) AllReadyH.nil; go_simp; go_wp2_with (go_at_call 9; (with_reducible refine (KA.out _ hV).mono ?_); rintro e wA ⟨rfl, hT⟩; replace hV := hT; clear hT; replace hS := hV.c); refine hK.out _ _ ?_ (fun _ => ?_); (exact hS); clear hK K2
          refine wpAnyH_ready (rs := [6]) (by kernel_rfl) (by simp) ?_; refine AllReadyH.cons rfl (fun K2 hK => ?_) AllReadyH.nil; go_simp; go_wp2_with (go_at_call 8; (with_reducible refine (KN.out _ _).mono ?_); rintro e wA ⟨rfl, rfl⟩); refine hK.out _ _ ?_ (fun _ => ?_); (exact hS); clear hK K2
          refine wpAnyH_ready (rs := [12]) (by kernel_rfl) (by simp) ?_; refine AllReadyH.cons rfl (fun K2 hK => ?_) AllReadyH.nil; go_simp; go_wp2_with (go_at_call 10; (with_reducible refine (KB.out _ hV).mono ?_); rintro e wA ⟨rfl, v', hT⟩; replace hV := hT; clear hT; replace hS := hV.c); refine hK.out _ _ ?_ (fun _ => ?_); (exact hS); clear hK K2
          refine takeH 13 55 ?_ rfl rfl (by kernel_rfl) (by kernel_rfl) (by kernel_rfl) (fun _ _ _ h => h) (Or.inl ⟨by kernel_rfl, ?_⟩) hS ?_; rotate_left; (intro w' hw; skip; first | (go_simp; done) | (go_simp; with_reducible rfl)); rotate_left
          try simp only [List.setIfInBounds_toArray, List.set_cons_zero, List.set_cons_succ]
          refine wpAnyH_done (by kernel_rfl) ?_ _
          have y1 := (cell_of_row _ wr.heap.size 1 _ _ _ hS).trans (show _ = some (.int .i64 id) from rfl)
          go_wp2_with (go_at_call 16; (with_reducible refine (KS.out _ _ _ _ HWI.out HNN.out hLN _ hV.two).mono ?_); rintro e wA ⟨rfl, hT, _⟩)
          go_roundw
          case rel => exact ⟨k + 1, _, _, _, by omega, by go_num, hT, HNN.out, by omega⟩
          case measure => simp [intOf]; omega
        · have t0 : (kd == 0) = false := by simpa using h0
          by_cases h1 : kd = 1
          · subst h1
            have KA := Lib.hid (fun W h => dropQ K (w0 := w) (B := w.heap.size) (P := P) (R := wA.heap.size) (v := v) (n := n) (l := l) (Q := wr.heap.size) (o := .cells #[.int .i64 1, .int .i64 id, .int .u64 tk] 32) (id := id) HWI.out HND.out hl1 W h)
            have KB := Lib.hid (fun W h => refDropQ K (w0 := w) (B := w.heap.size) (P := P) (R := wA.heap.size) (v := v) (n := n) (nw := n) (l := l) (lw := Wh.without l id) (Q := wr.heap.size) (o := .cells #[.int .i64 1, .int .i64 id, .int .u64 tk] 32) (id := id) hl1 W h)
            have HNN := Lib.hid (Wh.nodup_without (id := id) HND.out)
            have hLK := without_le l id
            have hLN : (Wh.without l id).length ≤ 1000 := by omega
            clear t0 h0
            go_upto_region 16 with fail
            refine wp_region_any (by kernel_rfl) ?_
            change wpAny _ _ _ _ _ _ _ (World.drew _)
            refine wpAny_of_held (S := fun w' => w'.heap[wr.heap.size]? = some (.cells #[.int .i64 1, .int .i64 id, .int .u64 tk] 32)) _ _ _ _ ?_
            have hV := HQ.out.below K ((Below.refl _ _).drew)
            have hS := hV.c
            refine takeH 0 58 ?_ rfl rfl (by kernel_rfl) (by kernel_rfl) (by kernel_rfl) (fun _ _ _ h => h) (Or.inl ⟨by kernel_rfl, ?_⟩) hS ?_; rotate_left; (intro w' hw; skip; first | (go_simp; done) | (go_simp; with_reducible rfl)); rotate_left
            try simp only [List.setIfInBounds_toArray, List.set_cons_zero, List.set_cons_succ]
            refine takeH 1 59 ?_ rfl rfl (by kernel_rfl) (by kernel_rfl) (by kernel_rfl) (fun _ _ _ h => h) (Or.inl ⟨by kernel_rfl, ?_⟩) hS ?_; rotate_left; (intro w' hw; skip; first | (go_simp; done) | (go_simp; with_reducible rfl)); rotate_left
            try simp only [List.setIfInBounds_toArray, List.set_cons_zero, List.set_cons_succ]
            refine takeH 2 60 ?_ rfl rfl (by kernel_rfl) (by kernel_rfl) (by kernel_rfl) (fun _ _ _ h => h) (Or.inl ⟨by kernel_rfl, ?_⟩) hS ?_; rotate_left; (intro w' hw; (have z1 : w'.cell? ⟨wr.heap.size, 1, none⟩ = some (.int .i64 id) := (by rw [cell_of_row w' _ _ _ _ _ hw]; rfl)); (have z2 : w'.cell? ⟨wr.heap.size, 2, none⟩ = some (.int .u64 tk) := (by rw [cell_of_row w' _ _ _ _ _ hw]; rfl)); first | (go_simp; done) | (go_simp; with_reducible rfl)); rotate_left
            try simp only [List.setIfInBounds_toArray, List.set_cons_zero, List.set_cons_succ]
            refine takeH 4 62 ?_ rfl rfl (by kernel_rfl) (by kernel_rfl) (by kernel_rfl) (fun _ _ _ h => h) (Or.inl ⟨by kernel_rfl, ?_⟩) hS ?_; rotate_left; (intro w' hw; skip; first | (go_simp; done) | (go_simp; with_reducible rfl)); rotate_left
            try simp only [List.setIfInBounds_toArray, List.set_cons_zero, List.set_cons_succ]
            refine takeH 5 63 ?_ rfl rfl (by kernel_rfl) (by kernel_rfl) (by kernel_rfl) (fun _ _ _ h => h) (Or.inl ⟨by kernel_rfl, ?_⟩) hS ?_; rotate_left; (intro w' hw; skip; first | (go_simp; done) | (go_simp; with_reducible rfl)); rotate_left
            try simp only [List.setIfInBounds_toArray, List.set_cons_zero, List.set_cons_succ]
            refine takeH 6 64 ?_ rfl rfl (by kernel_rfl) (by kernel_rfl) (by kernel_rfl) (fun _ _ _ h => h) (Or.inl ⟨by kernel_rfl, ?_⟩) hS ?_; rotate_left; (intro w' hw; (have z1 : w'.cell? ⟨wr.heap.size, 1, none⟩ = some (.int .i64 id) := (by rw [cell_of_row w' _ _ _ _ _ hw]; rfl)); (have z2 : w'.cell? ⟨wr.heap.size, 2, none⟩ = some (.int .u64 tk) := (by rw [cell_of_row w' _ _ _ _ _ hw]; rfl)); first | (go_simp; done) | (go_simp; with_reducible rfl)); rotate_left
            try simp only [List.setIfInBounds_toArray, List.set_cons_zero, List.set_cons_succ]
            refine wpAnyH_ready (rs := [3]) (by kernel_rfl) (by simp) ?_; refine AllReadyH.cons rfl (fun K2 hK => ?_) AllReadyH.nil; go_simp; go_wp2_with (go_at_call 11; (with_reducible refine (KA.out _ hV).mono ?_); rintro e wA ⟨rfl, hT⟩; replace hV := hT; clear hT; replace hS := hV.c); refine hK.out _ _ ?_ (fun _ => ?_); (exact hS); clear hK K2
            refine wpAnyH_ready (rs := [7]) (by kernel_rfl) (by simp) ?_; refine AllReadyH.cons rfl (fun K2 hK => ?_) AllReadyH.nil; go_simp; go_wp2_with (go_at_call 12; (with_reducible refine (KB.out _ hV).mono ?_); rintro e wA ⟨rfl, v', hT⟩; replace hV := hT; clear hT; replace hS := hV.c); refine hK.out _ _ ?_ (fun _ => ?_); (exact hS); clear hK K2
            refine takeH 8 66 ?_ rfl rfl (by kernel_rfl) (by kernel_rfl) (by kernel_rfl) (fun _ _ _ h => h) (Or.inl ⟨by kernel_rfl, ?_⟩) hS ?_; rotate_left; (intro w' hw; skip; first | (go_simp; done) | (go_simp; with_reducible rfl)); rotate_left
            try simp only [List.setIfInBounds_toArray, List.set_cons_zero, List.set_cons_succ]
            refine wpAnyH_done (by kernel_rfl) ?_ _
            have y1 := (cell_of_row _ wr.heap.size 1 _ _ _ hS).trans (show _ = some (.int .i64 id) from rfl)
            go_wp2_with (go_at_call 16; (with_reducible refine (KS.out _ _ _ _ HWI.out HNN.out hLN _ hV.two).mono ?_); rintro e wA ⟨rfl, hT, _⟩)
            go_roundw
            case rel => exact ⟨k + 1, _, _, _, by omega, by go_num, hT, HNN.out, by omega⟩
            case measure => simp [intOf]; omega
          · have t1 : (kd == 1) = false := by simpa using h1
            have KA := Lib.hid (fun W h => turnQ K (w0 := w) (B := w.heap.size) (P := P) (R := wA.heap.size) (v := v) (n := n) (l := l) (Q := wr.heap.size) (o := .cells #[.int .i64 kd, .int .i64 id, .int .u64 tk] 32) (tm := tk) HWT.out HND.out hl1 W h)
            have KB := Lib.hid (fun a1 W h hv => refTurnQ K (w0 := w) (B := w.heap.size) (P := P) (R := wA.heap.size) (v := v) (n := n) (nw := later n tk) (l := l) (lw := Wh.rest l tk) (Q := wr.heap.size) (o := .cells #[.int .i64 kd, .int .i64 id, .int .u64 tk] 32) (tm := tk) HND.out hl1 (a := a1) (T := Wh.turned l tk) W h hv)
            have hTL := turned_len l tk
            have km := fun a1 a2 c1 c2 W h1 h2 => sameListC a1 a2 c1 c2 (Wh.turned l tk) (Wh.turned l tk) W (by omega) (by omega) h1 h2
            rw [decide_eq_true rfl] at km
            have KM := Lib.hid km; clear km
            have HNN := Lib.hid (nodup_rest (tk := tk) HND.out)
            have hLK := len_rest l tk
            have hLN : (Wh.rest l tk).length ≤ 1000 := by omega
            clear h0 h1 hTL
            go_upto_region 10 with fail
            refine wp_region_any (by kernel_rfl) ?_
            change wpAny _ _ _ _ _ _ _ (World.drew _)
            refine wpAny_of_held (S := fun w' => w'.heap[wr.heap.size]? = some (.cells #[.int .i64 kd, .int .i64 id, .int .u64 tk] 32)) _ _ _ _ ?_
            have hV := HQ.out.below K ((Below.refl _ _).drew)
            have hS := hV.c
            refine takeH 0 30 ?_ rfl rfl (by kernel_rfl) (by kernel_rfl) (by kernel_rfl) (fun _ _ _ h => h) (Or.inl ⟨by kernel_rfl, ?_⟩) hS ?_; rotate_left; (intro w' hw; skip; first | (go_simp; done) | (go_simp; with_reducible rfl)); rotate_left
            try simp only [List.setIfInBounds_toArray, List.set_cons_zero, List.set_cons_succ]
            refine takeH 1 31 ?_ rfl rfl (by kernel_rfl) (by kernel_rfl) (by kernel_rfl) (fun _ _ _ h => h) (Or.inl ⟨by kernel_rfl, ?_⟩) hS ?_; rotate_left; (intro w' hw; skip; first | (go_simp; done) | (go_simp; with_reducible rfl)); rotate_left
            try simp only [List.setIfInBounds_toArray, List.set_cons_zero, List.set_cons_succ]
            refine takeH 2 32 ?_ rfl rfl (by kernel_rfl) (by kernel_rfl) (by kernel_rfl) (fun _ _ _ h => h) (Or.inl ⟨by kernel_rfl, ?_⟩) hS ?_; rotate_left; (intro w' hw; (have z1 : w'.cell? ⟨wr.heap.size, 1, none⟩ = some (.int .i64 id) := (by rw [cell_of_row w' _ _ _ _ _ hw]; rfl)); (have z2 : w'.cell? ⟨wr.heap.size, 2, none⟩ = some (.int .u64 tk) := (by rw [cell_of_row w' _ _ _ _ _ hw]; rfl)); first | (go_simp; done) | (go_simp; with_reducible rfl)); rotate_left
            try simp only [List.setIfInBounds_toArray, List.set_cons_zero, List.set_cons_succ]
            refine takeH 4 34 ?_ rfl rfl (by kernel_rfl) (by kernel_rfl) (by kernel_rfl) (fun _ _ _ h => h) (Or.inl ⟨by kernel_rfl, ?_⟩) hS ?_; rotate_left; (intro w' hw; skip; first | (go_simp; done) | (go_simp; with_reducible rfl)); rotate_left
            try simp only [List.setIfInBounds_toArray, List.set_cons_zero, List.set_cons_succ]
            refine takeH 5 35 ?_ rfl rfl (by kernel_rfl) (by kernel_rfl) (by kernel_rfl) (fun _ _ _ h => h) (Or.inl ⟨by kernel_rfl, ?_⟩) hS ?_; rotate_left; (intro w' hw; skip; first | (go_simp; done) | (go_simp; with_reducible rfl)); rotate_left
            try simp only [List.setIfInBounds_toArray, List.set_cons_zero, List.set_cons_succ]
            refine takeH 6 36 ?_ rfl rfl (by kernel_rfl) (by kernel_rfl) (by kernel_rfl) (fun _ _ _ h => h) (Or.inl ⟨by kernel_rfl, ?_⟩) hS ?_; rotate_left; (intro w' hw; (have z1 : w'.cell? ⟨wr.heap.size, 1, none⟩ = some (.int .i64 id) := (by rw [cell_of_row w' _ _ _ _ _ hw]; rfl)); (have z2 : w'.cell? ⟨wr.heap.size, 2, none⟩ = some (.int .u64 tk) := (by rw [cell_of_row w' _ _ _ _ _ hw]; rfl)); first | (go_simp; done) | (go_simp; with_reducible rfl)); rotate_left
            try simp only [List.setIfInBounds_toArray, List.set_cons_zero, List.set_cons_succ]
            refine wpAnyH_ready (rs := [3]) (by kernel_rfl) (by simp) ?_; refine AllReadyH.cons rfl (fun K2 hK => ?_) AllReadyH.nil; go_simp; go_wp2_with (go_at_call 14; (with_reducible refine (KA.out _ hV).mono ?_); rintro e wA ⟨a1, cap1, rfl, hvw, hT⟩; replace hV := hT; clear hT; replace hS := hV.c); refine hK.out _ _ ?_ (fun _ => ?_); (exact hS); clear hK K2
            refine wpAnyH_ready (rs := [7]) (by kernel_rfl) (by simp) ?_; refine AllReadyH.cons rfl (fun K2 hK => ?_) AllReadyH.nil; go_simp; go_wp2_with (go_at_call 15; (with_reducible refine (KB.out _ _ hV hvw).mono ?_); rintro e wA ⟨a2, cap2, rfl, hvw2, v', hT⟩; replace hV := hT; clear hT; replace hS := hV.c); refine hK.out _ _ ?_ (fun _ => ?_); (exact hS); clear hK K2
            refine wpAnyH_ready (rs := [8]) (by kernel_rfl) (by simp) ?_; refine AllReadyH.cons rfl (fun K2 hK => ?_) AllReadyH.nil; go_simp; go_wp2_with (go_at_call 13; (refine (KM.out _ _ _ _ _ hvw2.1 hvw2.2).mono ?_); rintro e wA ⟨rfl, hbA⟩; replace hV := hV.below K hbA; clear hbA; replace hS := hV.c); refine hK.out _ _ ?_ (fun _ => ?_); (exact hS); clear hK K2
            refine takeH 9 39 ?_ rfl rfl (by kernel_rfl) (by kernel_rfl) (by kernel_rfl) (fun _ _ _ h => h) (Or.inl ⟨by kernel_rfl, ?_⟩) hS ?_; rotate_left; (intro w' hw; skip; first | (go_simp; done) | (go_simp; with_reducible rfl)); rotate_left
            try simp only [List.setIfInBounds_toArray, List.set_cons_zero, List.set_cons_succ]
            refine wpAnyH_done (by kernel_rfl) ?_ _
            have y1 := (cell_of_row _ wr.heap.size 1 _ _ _ hS).trans (show _ = some (.int .i64 id) from rfl)
            go_wp2_with (go_at_call 16; (with_reducible refine (KS.out _ _ _ _ HWI.out HNN.out hLN _ hV.two).mono ?_); rintro e wA ⟨rfl, hT, _⟩)
            go_roundw
            case rel => exact ⟨k + 1, _, _, _, by omega, by go_num, hT, HNN.out, by omega⟩
            case measure => simp [intOf]; omega
    · obtain rfl : k = len := by omega
      clear HA
      go_wp2_with (go_at_call 6; (with_reducible refine (KL.out _).mono ?_); rintro e wB ⟨rfl, hbB⟩)
      go_ret
      exact ⟨rfl, HTW.out.b.trans (hbB.mono HTW.out.size)⟩
end Go.Proofs.Ytmglpjbikknjgaa
