/-
  The law HistoryRises.
-/
import Derived.Test.YtmdpfinadffcaaaHyS
namespace Go.Proofs.Ytmdpfinadffcaaa
open Go.RowKit
set_option linter.unusedVariables false

/-- a history apart from the box of what is asked, which is the first block since w -/
structure OneH (w : World) (T : Nat) (l : List Lr.E) (q : Obj) (W : World) : Prop where
  s : ∃ F, HIs W w.heap.size T 8 l F ∧ ∀ k, F k → k ≠ w.heap.size
  q : W.heap[w.heap.size]? = some q
  b : Below w.heap.size w W
theorem OneH.next {w : World} {T : Nat} {l : List Lr.E} {q : Obj} {W W' : World} (h : OneH w T l q W) (hb : Below W.heap.size W W') : OneH w T l q W' := by
  obtain ⟨F, h1, h2⟩ := h.s
  exact ⟨⟨F, h1.below hb, h2⟩, (hb.block _ (lt_block h.q)).trans h.q, h.b.trans (hb.mono h.b.size)⟩
theorem OneH.did {w : World} {T : Nat} {l l' : List Lr.E} {q : Obj} {W W' : World} {F : Nat → Prop} {r : Value} {e : Ending} (h : OneH w T l q W) (h1 : HIs W w.heap.size T 8 l F) (h2 : ∀ k, F k → k ≠ w.heap.size) (hr : RetHy r w.heap.size T 8 l' F W e W') : e = .returned r ∧ OneH w T l' q W' := by
  obtain ⟨F', g1, g2⟩ := hr.s
  refine ⟨hr.r, ⟨F', g1, fun k hk => ?_⟩, hr.c.keep h.q (fun hf => h2 _ hf rfl), h.b.trans (hr.c.below (fun k hk => (h1.lt k hk).1) h.b.size)⟩
  rcases g2 k hk with e | e
  · exact h2 k e
  · have := lt_block h.q; omega
theorem one_obs {w : World} {T : Nat} {l : List Lr.E} {q : Obj} (key : ByteArray) (x : Int) (W : World) (hk : key.size ≤ 140737488351232) (h0 : 0 ≤ x) (h1 : x < 18446744073709551616) (hl : l.length ≤ 1000000) (hr : (l.length : Int) ≤ 8) (h : OneH w T l q W) :
    Calls Try.prog 8 #[.pointer (some ⟨T, 0, none⟩), .string key, .int .u64 x] W fun e W' => e = .returned (.tuple #[]) ∧ OneH w T (Hy.obs 8 l key x) q W' := by
  obtain ⟨F, g1, g2⟩ := h.s
  exact (observeC w.heap.size T 8 l F key x W g1 hk h0 h1 hl hr h.b.size).mono fun e w' hr => h.did g1 g2 hr
theorem one_class {w : World} {T : Nat} {l : List Lr.E} {q : Obj} (key : ByteArray) (a : Option Addr) (n cap : Nat) (p : Int) (L : Nat → Int) (x : Int) (ok : Bool) (c : Nat) (W : World) (hk : key.size ≤ 140737488351232) (hL : LimW w a n L) (hn : n ≤ 1000000) (ht : Hy.Told (Hy.valOf l key).1 p L n x ok c) (h : OneH w T l q W) :
    Calls Try.prog 13 #[.pointer (some ⟨T, 0, none⟩), .string key, .slice a n cap, .int .i64 p] W fun e W' => e = .returned (.int .i64 (c : Int)) ∧ OneH w T l q W' := by
  obtain ⟨F, g1, g2⟩ := h.s
  exact (classC w.heap.size T 8 l F key a n cap p L x ok c W g1 hk (hL.below h.b) hn ht).mono fun e w' hr => ⟨hr.e, h.next hr.b⟩
theorem one_est {w : World} {T : Nat} {l : List Lr.E} {q : Obj} (key : ByteArray) (p : Int) (L : Nat → Int) (n : Nat) (x : Int) (ok : Bool) (c : Nat) (W : World) (hk : key.size ≤ 140737488351232) (ht : Hy.Told (Hy.valOf l key).1 p L n x ok c) (h : OneH w T l q W) :
    Calls Try.prog 14 #[.pointer (some ⟨T, 0, none⟩), .string key, .int .i64 p] W fun e W' => e = .returned (.tuple #[.int .u64 x, .bool ok]) ∧ OneH w T l q W' := by
  obtain ⟨F, g1, g2⟩ := h.s
  exact (estC w.heap.size T 8 l F key p L n x ok c W g1 hk ht).mono fun e w' hr => ⟨hr.e, h.next hr.b⟩
theorem one_new {w : World} {q : Obj} (W : World) (hq : W.heap[w.heap.size]? = some q) (hb : Below w.heap.size w W) :
    Calls Try.prog 6 #[.int .i64 8] W fun e W' => ∃ T, e = .returned (.pointer (some ⟨T, 0, none⟩)) ∧ Hid (OneH w T [] q W') := by
  refine (newHC 8 W (by decide)).mono fun e W' h => ?_
  obtain ⟨T, F, rfl, h1, h2⟩ := h
  exact ⟨T, rfl, Lib.hid ⟨⟨F, h1.base hb.size, fun k hk => by have := (h1.lt k hk).1; have := lt_block hq; omega⟩, (h2.block _ (lt_block hq)).trans hq, hb.trans (h2.mono hb.size)⟩⟩

set_option maxRecDepth 100000 in
set_option maxHeartbeats 8000000 in
theorem rises_off (a : Option Addr) (len cap : Nat) (qk : ByteArray) (la : Option Addr) (ln lcap : Nat) (p more : Int) (w : World) (h : 100 < len ∨ 20 < ln ∨ more < p ∨ 100 < more ∨ p < 1) :
    Calls Try.prog 5 #[.slice a len cap, .agg #[.string qk, .slice la ln lcap, .int .i64 p], .int .i64 more] w (Ret (.bool true) w) := by
  have KL := Lib.hid (fun W => liveOk W)
  have hq : (w.alloc (askO qk la ln lcap p)).heap[w.heap.size]? = some (askO qk la ln lcap p) := heap_alloc_new _ _
  have HB := Lib.hid ((Below.refl w.heap.size w).alloc (Nat.le_refl _) (askO qk la ln lcap p))
  obtain ⟨z0, z1, z2⟩ := ask_cells hq
  clear hq
  by_cases q5 : 100 < len
  · clear h
    go_enter Try.func5, Try.ntmps5
    go_wp2_with (go_at_call 7; (with_reducible refine (KL.out _).mono ?_); rintro e wB ⟨rfl, hbB⟩)
    go_ret
    exact ⟨rfl, HB.out.trans (hbB.mono HB.out.size)⟩
  · by_cases q4 : 20 < ln
    · clear h
      go_enter Try.func5, Try.ntmps5
      go_wp2_with (go_at_call 7; (with_reducible refine (KL.out _).mono ?_); rintro e wB ⟨rfl, hbB⟩)
      go_ret
      exact ⟨rfl, HB.out.trans (hbB.mono HB.out.size)⟩
    · by_cases q3 : more < p
      · clear h
        go_enter Try.func5, Try.ntmps5
        go_wp2_with (go_at_call 7; (with_reducible refine (KL.out _).mono ?_); rintro e wB ⟨rfl, hbB⟩)
        go_ret
        exact ⟨rfl, HB.out.trans (hbB.mono HB.out.size)⟩
      · by_cases q2 : 100 < more
        · clear h
          go_enter Try.func5, Try.ntmps5
          go_wp2_with (go_at_call 7; (with_reducible refine (KL.out _).mono ?_); rintro e wB ⟨rfl, hbB⟩)
          go_ret
          exact ⟨rfl, HB.out.trans (hbB.mono HB.out.size)⟩
        · have q1 : p < 1 := by omega
          clear h
          go_enter Try.func5, Try.ntmps5
          go_wp2_with (go_at_call 7; (with_reducible refine (KL.out _).mono ?_); rintro e wB ⟨rfl, hbB⟩)
          go_ret
          exact ⟨rfl, HB.out.trans (hbB.mono HB.out.size)⟩

set_option maxRecDepth 100000 in
set_option maxHeartbeats 16000000 in
theorem rises_at (a : Option Addr) (len cap : Nat) (t : Nat → ByteArray × Int) (qk : ByteArray) (la : Option Addr) (ln lcap : Nat) (p more : Int) (L : Nat → Int) (w : World) (hl : len ≤ 100) (hn : ln ≤ 20) (h1 : p ≤ more) (h2 : more ≤ 100) (h3 : 1 ≤ p) (hqk : qk.size ≤ 140737488351232) (hRun : RunAt w a len t) (hL : LimW w la ln L) :
    Calls Try.prog 5 #[.slice a len cap, .agg #[.string qk, .slice la ln lcap, .int .i64 p], .int .i64 more] w (Ret (.bool true) w) := by
  have KL := Lib.hid (fun W => liveOk W)
  have hq : (w.alloc (askO qk la ln lcap p)).heap[w.heap.size]? = some (askO qk la ln lcap p) := heap_alloc_new _ _
  obtain ⟨z0, z1, z2⟩ := ask_cells hq
  have HQ0 := Lib.hid hq
  have HB0 := Lib.hid ((Below.refl w.heap.size w).alloc (Nat.le_refl _) (askO qk la ln lcap p))
  have KN := Lib.hid (fun W (h : W.heap[w.heap.size]? = some (askO qk la ln lcap p) ∧ Below w.heap.size w W) => one_new W h.1 h.2)
  have HA := Lib.hid hRun
  have HLM := Lib.hid hL
  clear hq hRun hL
  go_enter Try.func5, Try.ntmps5
  go_wp2
  go_loopw [7] (fun s wr => ∃ i : Nat, 1 ≤ i ∧ s = .int .i64 (i : Int) ∧ Hid (wr.heap[w.heap.size]? = some (askO qk la ln lcap p) ∧ Below w.heap.size w wr)) (fun s _ => ln - (intOf s).toNat)
  case atStart => exact ⟨1, Nat.le_refl _, rfl, Lib.hid ⟨HQ0.out, HB0.out⟩⟩
  case round =>
    obtain ⟨i, hi, rfl, hAQ⟩ := hrel
    clear z0 z1 z2 HQ0 HB0
    obtain ⟨z0, z1, z2⟩ := ask_cells hAQ.out.1
    by_cases hin : i < ln
    · obtain ⟨g, off, rfl, d0⟩ := (HLM.out.below hAQ.out.2).cell hin
      obtain ⟨g', off', e, d1⟩ := (HLM.out.below hAQ.out.2).cell (i := i - 1) (by omega)
      cases e
      have hi1 : ((i - 1 : Nat) : Int) = (i : Int) - 1 := by omega
      obtain ⟨j, rfl⟩ : ∃ j, i = j + 1 := ⟨i - 1, by omega⟩
      rw [Nat.add_sub_cancel] at d1
      have HDR := Lib.hid (fun q => (show (wr.drewN q).heap[w.heap.size]? = some (askO qk (some ⟨g, off, none⟩) ln lcap p) ∧ Below w.heap.size w (wr.drewN q) from ⟨hAQ.out.1, below_drewN hAQ.out.2 q⟩))
      clear hi1
      generalize L (j + 1) = y1 at *
      generalize L j = y0 at *
      by_cases hle : y1 ≤ y0
      · go_wp2
        go_quiet (fail)
        go_wp2_with (go_at_call 7; (with_reducible refine (KL.out _).mono ?_); rintro e wB ⟨rfl, hbB⟩)
        go_ret
        exact ⟨rfl, (HDR.out _).2.trans (hbB.mono (HDR.out _).2.size)⟩
      · go_wp2
        go_quiet (fail)
        go_wp2
        go_roundw
        case rel => exact ⟨j + 1 + 1, by omega, by go_num, Lib.hid (HDR.out _)⟩
        case measure => simp [intOf]; omega
    · have hge : ln ≤ i := by omega
      go_wp2_with (go_at_call 6; (with_reducible refine (KN.out _ hAQ.out).mono ?_); rintro e wA ⟨T, rfl, hT⟩)
      have hT0 : Hid (OneH w T (Hy.runL 8 t 0) (askO qk la ln lcap p) wA) := hT
      clear hT hge hin hi z0 z1 z2 hAQ
      go_loopw [9] (fun s wr => ∃ j : Nat, j ≤ len ∧ s = .int .i64 (j : Int) ∧ Hid (OneH w T (Hy.runL 8 t j) (askO qk la ln lcap p) wr)) (fun s _ => len - (intOf s).toNat)
      case atStart => exact ⟨0, Nat.zero_le _, rfl, hT0⟩
      case round =>
        obtain ⟨j, hj, rfl, hTj⟩ := hrel
        clear hT0
        have QO := Lib.hid hTj.out
        clear hTj
        have hlj := Hy.runL_len 8 t j
        by_cases hlt : j < len
        · obtain h0 | ⟨g, off, rfl, hg, hc⟩ := HA.out
          · omega
          obtain ⟨c0, c1, hks, hx0, hx1⟩ := hc j hlt
          have HCL := Lib.hid (fun W (hb : Below w.heap.size w W) => (show W.cell? ⟨g, off + j * 2, none⟩ = some (.string (t j).1) ∧ W.cell? ⟨g, off + j * 2 + 1, none⟩ = some (.int .u64 (t j).2) from ⟨(hb.cell (p := ⟨g, off + j * 2, none⟩) hg).trans c0, (hb.cell (p := ⟨g, off + j * 2 + 1, none⟩) hg).trans c1⟩))
          have hrm := Hy.runL_room (by decide : (0 : Int) ≤ 8) t j
          have HSUC : Hid (Hy.obs 8 (Hy.runL 8 t j) (t j).1 (t j).2 = Hy.runL 8 t (j + 1)) := Lib.hid rfl
          have K1 := Lib.hid (fun W (h : OneH w T (Hy.runL 8 t j) (askO qk la ln lcap p) W) => one_obs (t j).1 (t j).2 W hks hx0 hx1 (by omega) hrm h)
          clear hc c0 c1 hks hx0 hx1 hrm hg
          generalize (t j).1 = key at *
          generalize (t j).2 = x at *
          generalize Hy.runL 8 t j = l1 at *
          go_upto_region 12 with fail
          replace QO := Lib.hid (QO.out.next (Below.refl _ _).drew)
          refine wp_region_any (by kernel_rfl) ?_
          change wpAny _ _ _ _ _ _ _ (World.drew _)
          refine wpAny_of_held (S := fun W => W.cell? ⟨g, off + j * 2, none⟩ = some (.string key) ∧ W.cell? ⟨g, off + j * 2 + 1, none⟩ = some (.int .u64 x)) _ _ _ _ ?_
          have hS := HCL.out _ QO.out.b
          refine takeH 0 66 ?_ rfl rfl (by kernel_rfl) (by kernel_rfl) (by kernel_rfl) (fun _ _ _ h => h) (Or.inl ⟨by kernel_rfl, ?_⟩) hS ?_; rotate_left; (intro w' hw; first | (go_simp; done) | (go_simp; with_reducible rfl)); rotate_left
          try simp only [List.setIfInBounds_toArray, List.set_cons_zero, List.set_cons_succ]
          refine takeH 1 67 ?_ rfl rfl (by kernel_rfl) (by kernel_rfl) (by kernel_rfl) (fun _ _ _ h => h) (Or.inl ⟨by kernel_rfl, ?_⟩) hS ?_; rotate_left; (intro w' hw; first | (go_simp; done) | (go_simp; with_reducible rfl)); rotate_left
          try simp only [List.setIfInBounds_toArray, List.set_cons_zero, List.set_cons_succ]
          refine takeH 2 68 ?_ rfl rfl (by kernel_rfl) (by kernel_rfl) (by kernel_rfl) (fun _ _ _ h => h) (Or.inl ⟨by kernel_rfl, ?_⟩) hS ?_; rotate_left; (intro w' hw; first | (go_simp; done) | (go_simp; with_reducible rfl)); rotate_left
          try simp only [List.setIfInBounds_toArray, List.set_cons_zero, List.set_cons_succ]
          refine takeH 3 69 ?_ rfl rfl (by kernel_rfl) (by kernel_rfl) (by kernel_rfl) (fun _ _ _ h => h) (Or.inl ⟨by kernel_rfl, ?_⟩) hS ?_; rotate_left; (intro w' hw; first | (go_simp; done) | (go_simp; with_reducible rfl)); rotate_left
          try simp only [List.setIfInBounds_toArray, List.set_cons_zero, List.set_cons_succ]
          refine takeH 4 70 ?_ rfl rfl (by kernel_rfl) (by kernel_rfl) (by kernel_rfl) (fun _ _ _ h => h) (Or.inl ⟨by kernel_rfl, ?_⟩) hS ?_; rotate_left; (intro w' hw; first | (go_simp; done) | (go_simp; with_reducible rfl)); rotate_left
          try simp only [List.setIfInBounds_toArray, List.set_cons_zero, List.set_cons_succ]
          refine takeH 5 71 ?_ rfl rfl (by kernel_rfl) (by kernel_rfl) (by kernel_rfl) (fun _ _ _ h => h) (Or.inl ⟨by kernel_rfl, ?_⟩) hS ?_; rotate_left; (intro w' hw; obtain ⟨z0, z1⟩ := hw; first | (go_simp; done) | (go_simp; with_reducible rfl)); rotate_left
          try simp only [List.setIfInBounds_toArray, List.set_cons_zero, List.set_cons_succ]
          refine takeH 6 72 ?_ rfl rfl (by kernel_rfl) (by kernel_rfl) (by kernel_rfl) (fun _ _ _ h => h) (Or.inl ⟨by kernel_rfl, ?_⟩) hS ?_; rotate_left; (intro w' hw; first | (go_simp; done) | (go_simp; with_reducible rfl)); rotate_left
          try simp only [List.setIfInBounds_toArray, List.set_cons_zero, List.set_cons_succ]
          refine takeH 7 73 ?_ rfl rfl (by kernel_rfl) (by kernel_rfl) (by kernel_rfl) (fun _ _ _ h => h) (Or.inl ⟨by kernel_rfl, ?_⟩) hS ?_; rotate_left; (intro w' hw; first | (go_simp; done) | (go_simp; with_reducible rfl)); rotate_left
          try simp only [List.setIfInBounds_toArray, List.set_cons_zero, List.set_cons_succ]
          refine takeH 8 74 ?_ rfl rfl (by kernel_rfl) (by kernel_rfl) (by kernel_rfl) (fun _ _ _ h => h) (Or.inl ⟨by kernel_rfl, ?_⟩) hS ?_; rotate_left; (intro w' hw; first | (go_simp; done) | (go_simp; with_reducible rfl)); rotate_left
          try simp only [List.setIfInBounds_toArray, List.set_cons_zero, List.set_cons_succ]
          refine takeH 9 75 ?_ rfl rfl (by kernel_rfl) (by kernel_rfl) (by kernel_rfl) (fun _ _ _ h => h) (Or.inl ⟨by kernel_rfl, ?_⟩) hS ?_; rotate_left; (intro w' hw; first | (go_simp; done) | (go_simp; with_reducible rfl)); rotate_left
          try simp only [List.setIfInBounds_toArray, List.set_cons_zero, List.set_cons_succ]
          refine takeH 10 76 ?_ rfl rfl (by kernel_rfl) (by kernel_rfl) (by kernel_rfl) (fun _ _ _ h => h) (Or.inl ⟨by kernel_rfl, ?_⟩) hS ?_; rotate_left; (intro w' hw; obtain ⟨z0, z1⟩ := hw; first | (go_simp; done) | (go_simp; with_reducible rfl)); rotate_left
          try simp only [List.setIfInBounds_toArray, List.set_cons_zero, List.set_cons_succ]
          refine wpAnyH_ready (rs := [11]) (by kernel_rfl) (by simp) ?_; refine AllReadyH.cons rfl (fun K9 hK => ?_) AllReadyH.nil; go_simp; go_wp2_with (go_at_call 8; (with_reducible refine (K1.out _ QO.out).mono ?_); rintro e wN ⟨rfl, hT⟩; have QO2 := Lib.hid hT; clear hT); replace hS := HCL.out _ QO2.out.b; refine hK.out _ _ ?_ (fun _ => ?_); (exact hS); clear hK K9
          refine wpAnyH_done (by kernel_rfl) ?_ _
          clear hS
          go_wp2
          go_roundw
          case rel => exact ⟨j + 1, by omega, by go_num, Lib.hid (by rw [← HSUC.out]; exact QO2.out)⟩
          case measure => simp [intOf]; omega
        · obtain rfl : j = len := by omega
          obtain ⟨x, ok, c, ht⟩ := Hy.told_ex (Hy.valOf (Hy.runL 8 t j) qk) p L ln
          obtain ⟨x2, ok2, c2, ht2⟩ := Hy.told_ex (Hy.valOf (Hy.runL 8 t j) qk) more L ln
          have K2 := Lib.hid (fun W (h : OneH w T (Hy.runL 8 t j) (askO qk la ln lcap p) W) => one_class qk la ln lcap p L x ok c W hqk HLM.out (by omega) ht h)
          have K3 := Lib.hid (fun W (h : OneH w T (Hy.runL 8 t j) (askO qk la ln lcap p) W) => one_class qk la ln lcap more L x2 ok2 c2 W hqk HLM.out (by omega) ht2 h)
          have K4 := Lib.hid (fun W (h : OneH w T (Hy.runL 8 t j) (askO qk la ln lcap p) W) => one_est qk p L ln x ok c W hqk ht h)
          have hcc := ht.mono ht2 h3 h1 h2
          have hcn := ht2.le
          have HF : Hid (ok = true → c < ln → x ≤ max (L c) 0) := Lib.hid (fun e hc => by subst e; exact ht.fits hc)
          obtain ⟨hx0, hx1⟩ := ht.range
          have HMX := Lib.hid run_max0
          clear ht ht2 hlt
          generalize Hy.runL 8 t j = l at *
          go_upto_region 13 with fail
          replace QO := Lib.hid (QO.out.next (Below.refl _ _).drew)
          refine wp_region_any (by kernel_rfl) ?_
          change wpAny _ _ _ _ _ _ _ (World.drew _)
          refine wpAny_of_held (S := OneH w T l (askO qk la ln lcap p)) _ _ _ _ ?_
          have hS := QO.out
          refine takeH 0 78 ?_ rfl rfl (by kernel_rfl) (by kernel_rfl) (by kernel_rfl) (fun _ _ _ h => h) (Or.inl ⟨by kernel_rfl, ?_⟩) hS ?_; rotate_left; (intro w' hw; first | (go_simp; done) | (go_simp; with_reducible rfl)); rotate_left
          try simp only [List.setIfInBounds_toArray, List.set_cons_zero, List.set_cons_succ]
          refine takeH 1 79 ?_ rfl rfl (by kernel_rfl) (by kernel_rfl) (by kernel_rfl) (fun _ _ _ h => h) (Or.inl ⟨by kernel_rfl, ?_⟩) hS ?_; rotate_left; (intro w' hw; first | (go_simp; done) | (go_simp; with_reducible rfl)); rotate_left
          try simp only [List.setIfInBounds_toArray, List.set_cons_zero, List.set_cons_succ]
          refine takeH 2 80 ?_ rfl rfl (by kernel_rfl) (by kernel_rfl) (by kernel_rfl) (fun _ _ _ h => h) (Or.inl ⟨by kernel_rfl, ?_⟩) hS ?_; rotate_left; (intro w' hw; obtain ⟨z0, z1, z2⟩ := ask_cells hw.q; first | (go_simp; done) | (go_simp; with_reducible rfl)); rotate_left
          try simp only [List.setIfInBounds_toArray, List.set_cons_zero, List.set_cons_succ]
          refine takeH 3 81 ?_ rfl rfl (by kernel_rfl) (by kernel_rfl) (by kernel_rfl) (fun _ _ _ h => h) (Or.inl ⟨by kernel_rfl, ?_⟩) hS ?_; rotate_left; (intro w' hw; first | (go_simp; done) | (go_simp; with_reducible rfl)); rotate_left
          try simp only [List.setIfInBounds_toArray, List.set_cons_zero, List.set_cons_succ]
          refine takeH 4 82 ?_ rfl rfl (by kernel_rfl) (by kernel_rfl) (by kernel_rfl) (fun _ _ _ h => h) (Or.inl ⟨by kernel_rfl, ?_⟩) hS ?_; rotate_left; (intro w' hw; obtain ⟨z0, z1, z2⟩ := ask_cells hw.q; first | (go_simp; done) | (go_simp; with_reducible rfl)); rotate_left
          try simp only [List.setIfInBounds_toArray, List.set_cons_zero, List.set_cons_succ]
          refine takeH 5 83 ?_ rfl rfl (by kernel_rfl) (by kernel_rfl) (by kernel_rfl) (fun _ _ _ h => h) (Or.inl ⟨by kernel_rfl, ?_⟩) hS ?_; rotate_left; (intro w' hw; first | (go_simp; done) | (go_simp; with_reducible rfl)); rotate_left
          try simp only [List.setIfInBounds_toArray, List.set_cons_zero, List.set_cons_succ]
          refine takeH 6 84 ?_ rfl rfl (by kernel_rfl) (by kernel_rfl) (by kernel_rfl) (fun _ _ _ h => h) (Or.inl ⟨by kernel_rfl, ?_⟩) hS ?_; rotate_left; (intro w' hw; obtain ⟨z0, z1, z2⟩ := ask_cells hw.q; first | (go_simp; done) | (go_simp; with_reducible rfl)); rotate_left
          try simp only [List.setIfInBounds_toArray, List.set_cons_zero, List.set_cons_succ]
          refine takeH 8 86 ?_ rfl rfl (by kernel_rfl) (by kernel_rfl) (by kernel_rfl) (fun _ _ _ h => h) (Or.inl ⟨by kernel_rfl, ?_⟩) hS ?_; rotate_left; (intro w' hw; first | (go_simp; done) | (go_simp; with_reducible rfl)); rotate_left
          try simp only [List.setIfInBounds_toArray, List.set_cons_zero, List.set_cons_succ]
          refine takeH 9 87 ?_ rfl rfl (by kernel_rfl) (by kernel_rfl) (by kernel_rfl) (fun _ _ _ h => h) (Or.inl ⟨by kernel_rfl, ?_⟩) hS ?_; rotate_left; (intro w' hw; first | (go_simp; done) | (go_simp; with_reducible rfl)); rotate_left
          try simp only [List.setIfInBounds_toArray, List.set_cons_zero, List.set_cons_succ]
          refine takeH 10 88 ?_ rfl rfl (by kernel_rfl) (by kernel_rfl) (by kernel_rfl) (fun _ _ _ h => h) (Or.inl ⟨by kernel_rfl, ?_⟩) hS ?_; rotate_left; (intro w' hw; obtain ⟨z0, z1, z2⟩ := ask_cells hw.q; first | (go_simp; done) | (go_simp; with_reducible rfl)); rotate_left
          try simp only [List.setIfInBounds_toArray, List.set_cons_zero, List.set_cons_succ]
          refine takeH 11 89 ?_ rfl rfl (by kernel_rfl) (by kernel_rfl) (by kernel_rfl) (fun _ _ _ h => h) (Or.inl ⟨by kernel_rfl, ?_⟩) hS ?_; rotate_left; (intro w' hw; first | (go_simp; done) | (go_simp; with_reducible rfl)); rotate_left
          try simp only [List.setIfInBounds_toArray, List.set_cons_zero, List.set_cons_succ]
          refine takeH 12 90 ?_ rfl rfl (by kernel_rfl) (by kernel_rfl) (by kernel_rfl) (fun _ _ _ h => h) (Or.inl ⟨by kernel_rfl, ?_⟩) hS ?_; rotate_left; (intro w' hw; obtain ⟨z0, z1, z2⟩ := ask_cells hw.q; first | (go_simp; done) | (go_simp; with_reducible rfl)); rotate_left
          try simp only [List.setIfInBounds_toArray, List.set_cons_zero, List.set_cons_succ]
          refine takeH 13 91 ?_ rfl rfl (by kernel_rfl) (by kernel_rfl) (by kernel_rfl) (fun _ _ _ h => h) (Or.inl ⟨by kernel_rfl, ?_⟩) hS ?_; rotate_left; (intro w' hw; first | (go_simp; done) | (go_simp; with_reducible rfl)); rotate_left
          try simp only [List.setIfInBounds_toArray, List.set_cons_zero, List.set_cons_succ]
          refine wpAnyH_ready (rs := [7]) (by kernel_rfl) (by simp) ?_; refine AllReadyH.cons rfl (fun K9 hK => ?_) AllReadyH.nil; go_simp; go_wp2_with (go_at_call 13; (with_reducible refine (K2.out _ hS).mono ?_); rintro e wN ⟨rfl, hT⟩; replace hS := hT; clear hT); refine hK.out _ _ ?_ (fun _ => ?_); (exact hS); clear hK K9
          refine wpAnyH_ready (rs := [14]) (by kernel_rfl) (by simp) ?_; refine AllReadyH.cons rfl (fun K9 hK => ?_) AllReadyH.nil; go_simp; go_wp2_with (go_at_call 13; (with_reducible refine (K3.out _ hS).mono ?_); rintro e wN ⟨rfl, hT⟩; replace hS := hT; clear hT); refine hK.out _ _ ?_ (fun _ => ?_); (exact hS); clear hK K9
          refine takeH 15 10 ?_ rfl rfl (by kernel_rfl) (by kernel_rfl) (by kernel_rfl) (fun _ _ _ h => h) (Or.inl ⟨by kernel_rfl, ?_⟩) hS ?_; rotate_left; (intro w' hw; first | (go_simp; done) | (go_simp; with_reducible rfl)); rotate_left
          try simp only [List.setIfInBounds_toArray, List.set_cons_zero, List.set_cons_succ]
          refine takeH 16 11 ?_ rfl rfl (by kernel_rfl) (by kernel_rfl) (by kernel_rfl) (fun _ _ _ h => h) (Or.inl ⟨by kernel_rfl, ?_⟩) hS ?_; rotate_left; (intro w' hw; first | (go_simp; done) | (go_simp; with_reducible rfl)); rotate_left
          try simp only [List.setIfInBounds_toArray, List.set_cons_zero, List.set_cons_succ]
          refine wpAnyH_done (by kernel_rfl) ?_ _
          replace QO := Lib.hid hS
          clear hS
          obtain ⟨y0, y1, y2⟩ := ask_cells QO.out.q
          cases ok with
          | false =>
            clear HF
            go_wp2_with (first | (go_at_call 14; (with_reducible refine (K4.out _ QO.out).mono ?_); rintro e wE ⟨rfl, hT⟩; obtain ⟨u0, u1, u2⟩ := ask_cells hT.q; have QE := Lib.hid hT; clear hT) | (go_at_call 7; (with_reducible refine (KL.out _).mono ?_); rintro e wB ⟨rfl, hbB⟩))
            go_ret
            exact ⟨rfl, QE.out.b.trans (hbB.mono QE.out.b.size)⟩
          | true =>
            by_cases hc : c < ln
            · have hfx := HF.out rfl hc
              obtain ⟨r0, r1⟩ := HLM.out.wf c hc
              obtain ⟨g, off, rfl, d0⟩ := HLM.out.cell hc
              have HCW := Lib.hid (fun W (hb : Below w.heap.size w W) => (show W.cell? ⟨g, off + c, none⟩ = some (.int .i64 (L c)) from by obtain ⟨g', off', e, d⟩ := (HLM.out.below hb).cell hc; cases e; exact d))
              clear d0 HF
              have hm0 : 0 ≤ max (L c) 0 := by omega
              have hm1 : max (L c) 0 < 9223372036854775808 := by omega
              generalize hM : max (L c) 0 = M at *
              have hmx2 : ∀ (ts : Array TypeId) (t : TypeId) (P : Program) (w : World), (Builtin.max_ ts t #[.int .i64 (L c), .int .i64 0]).run P w = .ok (.int .i64 M) w := fun ts t P w => by rw [← hM]; exact HMX.out ts t P w (L c)
              clear hM r0 r1
              generalize L c = y at *
              go_wp2_with (first | (go_at_call 14; (with_reducible refine (K4.out _ QO.out).mono ?_); rintro e wE ⟨rfl, hT⟩; obtain ⟨u0, u1, u2⟩ := ask_cells hT.q; have u3 := HCW.out _ hT.b; have QE := Lib.hid hT; clear hT) | (go_at_call 7; (with_reducible refine (KL.out _).mono ?_); rintro e wB ⟨rfl, hbB⟩))
              go_ret
              exact ⟨rfl, QE.out.b.trans (hbB.mono QE.out.b.size)⟩
            · clear HF
              go_wp2_with (first | (go_at_call 14; (with_reducible refine (K4.out _ QO.out).mono ?_); rintro e wE ⟨rfl, hT⟩; obtain ⟨u0, u1, u2⟩ := ask_cells hT.q; have QE := Lib.hid hT; clear hT) | (go_at_call 7; (with_reducible refine (KL.out _).mono ?_); rintro e wB ⟨rfl, hbB⟩))
              go_ret
              exact ⟨rfl, QE.out.b.trans (hbB.mono QE.out.b.size)⟩
end Go.Proofs.Ytmdpfinadffcaaa
