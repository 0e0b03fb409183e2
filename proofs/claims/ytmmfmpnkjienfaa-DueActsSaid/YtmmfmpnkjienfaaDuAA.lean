/-
  The law DueActs.
-/
import Derived.Test.YtmmfmpnkjienfaaDuZ
import Derived.Test.YtmmfmpnkjienfaaRows2
import Derived.ChangeSame
namespace Go.Proofs.Ytmmfmpnkjienfaa
open Go.RowKit Go.ChangeShapes Go.WideShapes Go.Deep
set_option linter.unusedVariables false

/-- a row of acts, as it came in -/
def ActAt (w : World) (a : Option Addr) (len : Nat) (t : Nat → Int × Int × Int × Int) : Prop := len = 0 ∨ ∃ b off : Nat, a = some ⟨b, off, none⟩ ∧ b < w.heap.size ∧
  ∀ i, i < len → w.cell? ⟨b, off + i * 4, none⟩ = some (.int .i64 (t i).1) ∧ w.cell? ⟨b, off + i * 4 + 1, none⟩ = some (.int .i64 (t i).2.1) ∧ w.cell? ⟨b, off + i * 4 + 2, none⟩ = some (.int .i64 (t i).2.2.1) ∧ w.cell? ⟨b, off + i * 4 + 3, none⟩ = some (.int .u64 (t i).2.2.2) ∧ (Lit.int .u64 (t i).2.2.2).wf = true
theorem acts_of {H : Type} {enc : TypeId × Value → H} {w : World} {a : Option Addr} {len cap : Nat} {d : DataW H} {p : List MemPlace}
    (h : DataW.Trod enc Try.prog w 0 (fun _ => true) true 23 (.slice a len cap) d p) : ∃ t, ActAt w a len t := by
  obtain ⟨hm, h0 | ⟨x, rfl, hl, _, hc⟩⟩ := Bil.slice_cells Try.underlying23 Try.underlying33 (by kernel_rfl) (by kernel_rfl) h
  · exact ⟨fun _ => (0, 0, 0, 0), Or.inl h0⟩
  · by_cases h0 : len = 0
    · exact ⟨fun _ => (0, 0, 0, 0), Or.inl h0⟩
    obtain ⟨b, off, spot⟩ := x
    have hone : ∀ i, i < cap → ∃ (s k q m : Int), w.cell? ((⟨b, off, spot⟩ : Addr).add (i * 4 + 0)) = some (.int .i64 s) ∧ w.cell? ((⟨b, off, spot⟩ : Addr).add (i * 4 + 1)) = some (.int .i64 k) ∧ w.cell? ((⟨b, off, spot⟩ : Addr).add (i * 4 + 2)) = some (.int .i64 q) ∧ w.cell? ((⟨b, off, spot⟩ : Addr).add (i * 4 + 3)) = some (.int .u64 m) ∧ (Lit.int .u64 m).wf = true := by
      intro i hi
      obtain ⟨v0, n0, y0, hc0, ht0⟩ := hc i hi 0 _ rfl
      obtain ⟨v1, n1, y1, hc1, ht1⟩ := hc i hi 1 _ rfl
      obtain ⟨v2, n2, y2, hc2, ht2⟩ := hc i hi 2 _ rfl
      obtain ⟨v3, n3, y3, hc3, ht3⟩ := hc i hi 3 _ rfl
      obtain ⟨s, hs, _, _⟩ := DataW.trod_int Try.underlying3 ht0
      obtain ⟨k, hk, _, _⟩ := DataW.trod_int Try.underlying3 ht1
      obtain ⟨q, hq, _, _⟩ := DataW.trod_int Try.underlying3 ht2
      obtain ⟨m, hm, _, wm⟩ := DataW.trod_int Try.underlying22 ht3
      simp at hs hk hq hm
      subst hs hk hq hm
      exact ⟨s, k, q, m, hc0, hc1, hc2, hc3, wm⟩
    have hsp : spot = none := by
      obtain ⟨s, k, q, m, hc0, _⟩ := hone 0 (by omega)
      have := World.cell?_spot hc0
      simpa [Addr.add] using this
    subst hsp
    have hb : b < w.heap.size := by
      obtain ⟨s, k, q, m, hc0, _⟩ := hone 0 (by omega)
      have := block_lt_of_cell hc0
      simpa [Addr.add] using this
    have hex : ∀ i, ∃ q : Int × Int × Int × Int, i < len → w.cell? ⟨b, off + i * 4, none⟩ = some (.int .i64 q.1) ∧ w.cell? ⟨b, off + i * 4 + 1, none⟩ = some (.int .i64 q.2.1) ∧ w.cell? ⟨b, off + i * 4 + 2, none⟩ = some (.int .i64 q.2.2.1) ∧ w.cell? ⟨b, off + i * 4 + 3, none⟩ = some (.int .u64 q.2.2.2) ∧ (Lit.int .u64 q.2.2.2).wf = true := by
      intro i
      by_cases hi : i < len
      · obtain ⟨s, k, q, m, g0, g1, g2, g3, g4⟩ := hone i (by omega)
        rw [Bil.add_off] at g0 g1 g2 g3
        exact ⟨(s, k, q, m), fun _ => ⟨by simpa using g0, by simpa [Nat.add_assoc] using g1, by simpa [Nat.add_assoc] using g2, by simpa [Nat.add_assoc] using g3, g4⟩⟩
      · exact ⟨(0, 0, 0, 0), fun h => absurd h hi⟩
    exact ⟨fun i => Classical.choose (hex i), Or.inr ⟨b, off, rfl, hb, fun i hi => Classical.choose_spec (hex i) hi⟩⟩

/-- what Find tells, against At -/
theorem find_none {l : List Wh.E} (hO : OkL l) {k i : Int} {w w' : World} {e : Ending} (hn : atR2 l k i = none) (h : RetPlace l k i w e w') : Ret (.int .i64 (-1)) w e w' := by
  obtain ⟨r, rfl, ⟨rfl, _⟩ | ⟨j, _, hj, hx⟩⟩ := h.r
  · exact ⟨rfl, h.b⟩
  · exfalso
    have hm := Wh.may_of hO.good (List.getElem_mem hj)
    rw [hx.1, hx.2] at hm
    unfold atR2 at hn
    rw [if_pos hm] at hn
    exact Wh.find_none.1 hn _ (List.getElem_mem hj) ((Wh.key_eq hO.good (List.getElem_mem hj) hm).2 hx)
theorem find_some {l : List Wh.E} (hO : OkL l) {k i t : Int} {w w' : World} {e : Ending} (hn : atR2 l k i = some t) (h : RetPlace l k i w e w') : ∃ j : Nat, e = .returned (.int .i64 (j : Int)) ∧ (∃ hj : j < l.length, l[j].2 = t) ∧ Below w.heap.size w w' := by
  have hm : Wh.May k i := by
    unfold atR2 at hn
    by_cases hm : Wh.May k i
    · exact hm
    · rw [if_neg hm] at hn; cases hn
  have hfd : Wh.find l (Wh.key k i) = some t := by unfold atR2 at hn; rwa [if_pos hm] at hn
  obtain ⟨r, rfl, ⟨_, h1⟩ | ⟨j, rfl, hj, hx⟩⟩ := h.r
  · exact absurd ⟨Wh.kd_key hm, Wh.nm_key hm⟩ (h1 _ (Wh.find_mem hfd))
  · refine ⟨j, rfl, ⟨hj, ?_⟩, h.b⟩
    have := Wh.find_eq hO.nd (List.getElem_mem hj) hfd ((Wh.key_eq hO.good (List.getElem_mem hj) hm).2 hx)
    rw [this]

set_option maxRecDepth 100000 in
set_option maxHeartbeats 8000000 in
theorem dueActs_many (now : Int) (a : Option Addr) (len cap : Nat) (w : World) (h : 200 < len) :
    Calls Try.prog 3 #[.int .u64 now, .slice a len cap] w (Ret (.bool true) w) := by
  have KL := Lib.hid liveOk
  go_enter Try.func3, Try.ntmps3
  go_wp2_with (go_at_call 6; (with_reducible refine (KL.out _).mono ?_); rintro e wA ⟨rfl, hbA⟩)
  go_ret
  exact ⟨rfl, hbA⟩
set_option maxRecDepth 100000 in
set_option maxHeartbeats 8000000 in
theorem dueActs_at (now : Int) (a : Option Addr) (len cap : Nat) (t : Nat → Int × Int × Int × Int) (w : World) (hw : (Lit.int .u64 now).wf = true) (hl : len ≤ 200) (h : ActAt w a len t) :
    Calls Try.prog 3 #[.int .u64 now, .slice a len cap] w (Ret (.bool true) w) := by
  have KL := Lib.hid liveOk
  have K0 := Lib.hid (fun W hb => solo_new w now hw W hb)
  have HA := Lib.hid h; clear h hw
  go_enter Try.func3, Try.ntmps3
  go_wp2_with (go_at_call 7; (with_reducible refine (K0.out _ (Below.refl _ _)).mono ?_); rintro e wA ⟨D, rfl, hV⟩)
  have hT0 : Hid (TwoS w w.heap.size D wA.heap.size (.slice none 0 0) now [] now [] [] (wA.alloc (.cells #[.int .u64 now, .slice none 0 0] 30))) := Lib.hid (by
    obtain ⟨G, h1, h2⟩ := hV.s
    have hb : Below wA.heap.size wA (wA.alloc (.cells #[.int .u64 now, .slice none 0 0] 30)) := (Below.refl _ _).alloc (Nat.le_refl _) _
    refine ⟨⟨G, h1.keep hb.size (fun k hk => hb.block k (h1.lt k hk).2), fun k hk hf => ?_, fun q hq => (by cases hq)⟩, ⟨heap_alloc_new _ _, RowD.nil _ _, hV.b.size⟩, fun q hq => (by cases hq), fun q hq => (by cases hq), hV.b.trans (hb.mono hV.b.size)⟩
    rcases hf with e | e
    · have := (h1.lt k hk).2; omega
    · simp [Value.ownBlock] at e)
  clear hV
  generalize wA.heap.size = R at *
  go_loopw [7] (fun s wr => ∃ (k : Nat) (n : Int) (l : List Wh.E) (v : Value), k ≤ len ∧ s = .int .i64 (k : Int) ∧ Hid (TwoS w w.heap.size D R v n l n l [] wr) ∧ Hid (OkL l) ∧ l.length ≤ k) (fun s _ => len - (intOf s).toNat)
  case atStart => exact ⟨0, now, [], _, Nat.zero_le _, rfl, hT0, Lib.hid OkL.nil, Nat.le_refl _⟩
  case round =>
    obtain ⟨k, n, l, v, hk, rfl, hT, hO, hlk⟩ := hrel
    clear hT0
    by_cases hlt : k < len
    · rcases HA.out with h | ⟨g, off, rfl, hg, hc⟩
      · omega
      · obtain ⟨d0, d1, d2, d3, wt⟩ := hc k hlt
        have c0 := (hT.out.b.cell (p := ⟨g, off + k * 4, none⟩) hg).trans d0
        have c1 := (hT.out.b.cell (p := ⟨g, off + k * 4 + 1, none⟩) hg).trans d1
        have c2 := (hT.out.b.cell (p := ⟨g, off + k * 4 + 2, none⟩) hg).trans d2
        have c3 := (hT.out.b.cell (p := ⟨g, off + k * 4 + 3, none⟩) hg).trans d3
        clear hc d0 d3
        generalize (t k).1 = ac at *
        generalize (t k).2.1 = kd at *
        generalize (t k).2.2.1 = id at *
        generalize (t k).2.2.2 = tk at *
        have KD := Lib.hid (doesC ac kd id tk n w w.heap.size D R v l wr (by omega) hO.out wt hT.out)
        clear wt hT hO
        go_wp2_with (go_at_call 8; (with_reducible refine KD.out.mono ?_); rintro e w1 ⟨rfl, v1, n1, l1, hT1, hO1, hl1⟩; have HT1 := Lib.hid hT1; have HO1 := Lib.hid hO1; have e1 := (hT1.b.cell (p := ⟨g, off + k * 4 + 1, none⟩) hg).trans d1; have e2 := (hT1.b.cell (p := ⟨g, off + k * 4 + 2, none⟩) hg).trans d2; clear hT1 hO1)
        obtain ⟨ra, rcap, rfl⟩ := own_some HT1.out.r.row
        have hl2 : l1.length ≤ 201 := by omega
        have kat := fun W h => two_same (w0 := w) (v := .slice ra l1.length rcap) (R := R) (nr := n1) (lr := l1) (qs := []) (fun w' P F a cap h => dAtC kd id w' w.heap.size D n1 l1 _ P F a cap h) W h
        have kln := fun W h => two_same (w0 := w) (v := .slice ra l1.length rcap) (R := R) (nr := n1) (lr := l1) (qs := []) (fun w' P F a cap h => dLenC w' w.heap.size D n1 l1 _ P F a cap h) W h
        have know := fun W h => two_same (w0 := w) (v := .slice ra l1.length rcap) (R := R) (nr := n1) (lr := l1) (qs := []) (fun w' P F a cap h => dNowC w' w.heap.size D n1 l1 _ P F a cap h) W h
        have knx := fun W h => two_real (w0 := w) (v := .slice ra l1.length rcap) (R := R) (nr := n1) (lr := l1) (qs := []) (fun w' G h => dNextC w' w.heap.size D n1 l1 G (by omega) h) W h
        have hvw : ∀ W, TwoS w w.heap.size D R (.slice ra l1.length rcap) n1 l1 n1 l1 [] W → ViewD W ra l1 := fun W h => by
          obtain ⟨a', c', e, hv⟩ := h.r.row.view
          cases e
          exact hv
        have krn := fun W (h : TwoS w w.heap.size D R (.slice ra l1.length rcap) n1 l1 n1 l1 [] W) => refNextDC n1 ra rcap l1 W (by omega) (hvw W h)
        have krf := fun W (h : TwoS w w.heap.size D R (.slice ra l1.length rcap) n1 l1 n1 l1 [] W) => refFindC n1 kd id ra rcap l1 W (by omega) (hvw W h)
        have hcell : ∀ W, TwoS w w.heap.size D R (.slice ra l1.length rcap) n1 l1 n1 l1 [] W → W.cell? ⟨R, 0, none⟩ = some (.int .u64 n1) ∧ W.cell? ⟨R, 1, none⟩ = some (.slice ra l1.length rcap) ∧ W.cell? ⟨g, off + k * 4 + 1, none⟩ = some (.int .i64 kd) ∧ W.cell? ⟨g, off + k * 4 + 2, none⟩ = some (.int .i64 id) := fun W h =>
          ⟨h.r.c0, h.r.c1, (h.b.cell (p := ⟨g, off + k * 4 + 1, none⟩) hg).trans d1, (h.b.cell (p := ⟨g, off + k * 4 + 2, none⟩) hg).trans d2⟩
        have HCELL := Lib.hid hcell
        have HLN := Lib.hid kln
        have HNOW := Lib.hid know
        unfold atV at knx krn
        have HD : ∀ W q, TwoS w w.heap.size D R (.slice ra l1.length rcap) n1 l1 n1 l1 [] W → TwoS w w.heap.size D R (.slice ra l1.length rcap) n1 l1 n1 l1 [] (W.drewN q) := fun W q h => h.below (below_drewN (Below.refl _ _) q)
        have HDN := Lib.hid HD
        have HBL := Lib.hid (fun W W' (h : TwoS w w.heap.size D R (.slice ra l1.length rcap) n1 l1 n1 l1 [] W) hb => h.below (w' := W') hb)
        have HREL := Lib.hid (fun W (h : TwoS w w.heap.size D R (.slice ra l1.length rcap) n1 l1 n1 l1 [] W) => (⟨k + 1, n1, l1, _, by omega, by simp, Lib.hid h, HO1, by omega⟩ : ∃ (k' : Nat) (n : Int) (l : List Wh.E) (v : Value), k' ≤ len ∧ (.int .i64 ((k : Int) + 1) : Value) = .int .i64 (k' : Int) ∧ Hid (TwoS w w.heap.size D R v n l n l [] W) ∧ Hid (OkL l) ∧ l.length ≤ k'))
        clear KD c0 c1 c2 c3 d1 d2 hlk hl1 hcell kln know HD
        generalize (Wh.nextR l1).getD 0 = x at *
        generalize (Wh.nextR l1).isSome = y at *
        have HNX := Lib.hid knx
        have HRN := Lib.hid krn
        clear knx krn
        cases hat : atR2 l1 kd id with
        | none =>
          rw [hat, show atV none = .tuple #[.int .u64 0, .bool false] from rfl] at kat
          have HAT := Lib.hid kat
          have HFI := Lib.hid (fun W h => (krf W h).mono (fun e w' hr => find_none HO1.out hat hr))
          clear kat krf hat hvw
          go_upto_region 10 with fail
          go_quiet ((first | (go_at_call 9; with_reducible exact Calls.quiet_of_same ((HAT.out _ (HDN.out _ _ HT1.out)).mono fun _ _ h => ⟨h.e, h.w.symm⟩))))
          have hq2 := HDN.out _ nq HT1.out
          clear e1 e2 HT1
          generalize w1.drewN nq = w2 at *
          obtain ⟨r0, r1, b1, b2⟩ := HCELL.out _ hq2
          have HQ2 := Lib.hid hq2
          clear hq2
          go_upto_region 11 with fail
          go_still_tail 13, (by kernel_rfl)
          change wpList _ _ _ _ _ w2.drew
          have HQ2' := Lib.hid (HBL.out _ w2.drew HQ2.out (Below.refl _ _).drew)
          go_wp2_with (first | (go_at_call 10; (with_reducible refine (HFI.out _ HQ2'.out).mono ?_); rintro e w3 ⟨rfl, hb3⟩; have HQ3 := Lib.hid (HBL.out _ _ HQ2'.out hb3); clear hb3) | (go_at_call 11; (with_reducible refine (HNX.out _ HQ3.out).mono ?_); rintro e w4 ⟨rfl, hT4⟩; clear r0 r1 b1 b2; obtain ⟨r0, r1, b1, b2⟩ := HCELL.out _ hT4; have HQ4 := Lib.hid hT4; clear hT4) | (go_at_call 12; (with_reducible refine (HRN.out _ HQ4.out).mono ?_); rintro e w5 ⟨rfl, hb5⟩; have hT5 := HBL.out _ _ HQ4.out hb5; clear r0 r1 b1 b2 hb5; obtain ⟨r0, r1, b1, b2⟩ := HCELL.out _ hT5; have HQ5 := Lib.hid hT5; clear hT5))
          go_quiet ((first | (go_at_call 13; with_reducible exact Calls.quiet_of_same ((HLN.out _ (HDN.out _ _ HQ5.out)).mono fun _ _ h => ⟨h.e, h.w.symm⟩)) | (go_at_call 14; with_reducible exact Calls.quiet_of_same ((HNOW.out _ (HDN.out _ _ HQ5.out)).mono fun _ _ h => ⟨h.e, h.w.symm⟩))))
          go_wp2
          go_roundw
          case rel => exact HREL.out _ (HDN.out _ _ HQ5.out)
          case measure => simp [intOf]; omega
        | some at_ =>
          rw [hat, show atV (some at_) = .tuple #[.int .u64 at_, .bool true] from rfl] at kat
          have HAT := Lib.hid kat
          have HFI := Lib.hid (fun W h => (krf W h).mono (fun e w' hr => find_some HO1.out hat hr))
          have HVW := Lib.hid hvw
          clear kat krf hat hvw
          go_upto_region 10 with fail
          go_quiet ((first | (go_at_call 9; with_reducible exact Calls.quiet_of_same ((HAT.out _ (HDN.out _ _ HT1.out)).mono fun _ _ h => ⟨h.e, h.w.symm⟩))))
          have hq2 := HDN.out _ nq HT1.out
          clear e1 e2 HT1
          generalize w1.drewN nq = w2 at *
          obtain ⟨r0, r1, b1, b2⟩ := HCELL.out _ hq2
          have HQ2 := Lib.hid hq2
          clear hq2
          go_upto_region 11 with fail
          go_still_tail 13, (by kernel_rfl)
          change wpList _ _ _ _ _ w2.drew
          have HQ2' := Lib.hid (HBL.out _ w2.drew HQ2.out (Below.refl _ _).drew)
          go_wp2_with (first | (go_at_call 10; (with_reducible refine (HFI.out _ HQ2'.out).mono ?_); rintro e w3 ⟨j, rfl, ⟨hj, hje⟩, hb3⟩; have HJE := Lib.hid hje; clear hje; have HQ3 := Lib.hid (HBL.out _ _ HQ2'.out hb3); clear hb3) | (go_at_call 11; (with_reducible refine (HNX.out _ HQ3.out).mono ?_); rintro e w4 ⟨rfl, hT4⟩; clear r0 r1 b1 b2; obtain ⟨r0, r1, b1, b2⟩ := HCELL.out _ hT4; have HQ4 := Lib.hid hT4; clear hT4) | (go_at_call 12; (with_reducible refine (HRN.out _ HQ4.out).mono ?_); rintro e w5 ⟨rfl, hb5⟩; have hT5 := HBL.out _ _ HQ4.out hb5; clear r0 r1 b1 b2 hb5; obtain ⟨r0, r1, b1, b2⟩ := HCELL.out _ hT5; have HQ5 := Lib.hid hT5; clear hT5))
          obtain ⟨g2, rfl, _, hcj⟩ := (HVW.out _ HQ5.out).is (by omega)
          have q2 := (hcj j hj).2.2
          rw [HJE.out] at q2
          clear hcj HJE
          have t1 : decide ((0 : Int) ≤ (j : Int)) = true := decide_eq_true (by omega)
          go_quiet ((first | (go_at_call 13; with_reducible exact Calls.quiet_of_same ((HLN.out _ (HDN.out _ _ HQ5.out)).mono fun _ _ h => ⟨h.e, h.w.symm⟩)) | (go_at_call 14; with_reducible exact Calls.quiet_of_same ((HNOW.out _ (HDN.out _ _ HQ5.out)).mono fun _ _ h => ⟨h.e, h.w.symm⟩))))
          go_wp2
          go_roundw
          case rel => exact HREL.out _ (HDN.out _ _ HQ5.out)
          case measure => simp [intOf]; omega
    · obtain rfl : k = len := by omega
      go_wp2_with (go_at_call 6; (with_reducible refine (KL.out _).mono ?_); rintro e wL ⟨rfl, hbL⟩)
      go_ret
      exact ⟨rfl, hT.out.b.trans (hbL.mono hT.out.b.size)⟩

theorem dueActs_walk (now : Int) (a : Option Addr) (len cap : Nat) (w : World) (hw : (Lit.int .u64 now).wf = true) (h : ∃ t, ActAt w a len t) : Calls Try.prog 3 #[.int .u64 now, .slice a len cap] w (Ret (.bool true) w) := by
  obtain ⟨t, h⟩ := h
  by_cases hl : 200 < len
  · exact dueActs_many now a len cap w hl
  · exact dueActs_at now a len cap t w hw (by omega) h
end Go.Proofs.Ytmmfmpnkjienfaa
