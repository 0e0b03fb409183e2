/-
  The law DueOrder.
-/
import Derived.Test.YtmmfmpnkjienfaaDuW
import Derived.Test.YtmmfmpnkjienfaaRows2
import Derived.ChangeSame
namespace Go.Proofs.Ytmmfmpnkjienfaa
open Go.RowKit Go.ChangeShapes Go.WideShapes Go.Deep
set_option linter.unusedVariables false

/-- a row of timers, as it came in -/
def TimAt (w : World) (a : Option Addr) (len : Nat) (t : Nat → Int × Int × Int) : Prop := len = 0 ∨ ∃ b off : Nat, a = some ⟨b, off, none⟩ ∧ b < w.heap.size ∧
  ∀ i, i < len → w.cell? ⟨b, off + i * 3, none⟩ = some (.int .i64 (t i).1) ∧ w.cell? ⟨b, off + i * 3 + 1, none⟩ = some (.int .i64 (t i).2.1) ∧ w.cell? ⟨b, off + i * 3 + 2, none⟩ = some (.int .u64 (t i).2.2) ∧ (Lit.int .u64 (t i).2.2).wf = true
theorem timers_of {H : Type} {enc : TypeId × Value → H} {w : World} {a : Option Addr} {len cap : Nat} {d : DataW H} {p : List MemPlace}
    (h : DataW.Trod enc Try.prog w 0 (fun _ => true) true 28 (.slice a len cap) d p) : ∃ t, TimAt w a len t := by
  obtain ⟨hm, h0 | ⟨x, rfl, hl, _, hc⟩⟩ := Bil.slice_cells Try.underlying28 Try.underlying39 (by kernel_rfl) (by kernel_rfl) h
  · exact ⟨fun _ => (0, 0, 0), Or.inl h0⟩
  · by_cases h0 : len = 0
    · exact ⟨fun _ => (0, 0, 0), Or.inl h0⟩
    obtain ⟨b, off, spot⟩ := x
    have hone : ∀ i, i < cap → ∃ (s k m : Int), w.cell? ((⟨b, off, spot⟩ : Addr).add (i * 3 + 0)) = some (.int .i64 s) ∧ w.cell? ((⟨b, off, spot⟩ : Addr).add (i * 3 + 1)) = some (.int .i64 k) ∧ w.cell? ((⟨b, off, spot⟩ : Addr).add (i * 3 + 2)) = some (.int .u64 m) ∧ (Lit.int .u64 m).wf = true := by
      intro i hi
      obtain ⟨v0, n0, y0, hc0, ht0⟩ := hc i hi 0 _ rfl
      obtain ⟨v1, n1, y1, hc1, ht1⟩ := hc i hi 1 _ rfl
      obtain ⟨v2, n2, y2, hc2, ht2⟩ := hc i hi 2 _ rfl
      obtain ⟨s, hs, _, _⟩ := DataW.trod_int Try.underlying3 ht0
      obtain ⟨k, hk, _, _⟩ := DataW.trod_int Try.underlying3 ht1
      obtain ⟨m, hm, _, wm⟩ := DataW.trod_int Try.underlying22 ht2
      simp at hs hk hm
      subst hs hk hm
      exact ⟨s, k, m, hc0, hc1, hc2, wm⟩
    have hsp : spot = none := by
      obtain ⟨s, k, m, hc0, _⟩ := hone 0 (by omega)
      have := World.cell?_spot hc0
      simpa [Addr.add] using this
    subst hsp
    have hb : b < w.heap.size := by
      obtain ⟨s, k, m, hc0, _⟩ := hone 0 (by omega)
      have := block_lt_of_cell hc0
      simpa [Addr.add] using this
    have hex : ∀ i, ∃ q : Int × Int × Int, i < len → w.cell? ⟨b, off + i * 3, none⟩ = some (.int .i64 q.1) ∧ w.cell? ⟨b, off + i * 3 + 1, none⟩ = some (.int .i64 q.2.1) ∧ w.cell? ⟨b, off + i * 3 + 2, none⟩ = some (.int .u64 q.2.2) ∧ (Lit.int .u64 q.2.2).wf = true := by
      intro i
      by_cases hi : i < len
      · obtain ⟨s, k, m, g0, g1, g2, g4⟩ := hone i (by omega)
        rw [Bil.add_off] at g0 g1 g2
        exact ⟨(s, k, m), fun _ => ⟨by simpa using g0, by simpa [Nat.add_assoc] using g1, by simpa [Nat.add_assoc] using g2, g4⟩⟩
      · exact ⟨(0, 0, 0), fun h => absurd h hi⟩
    exact ⟨fun i => Classical.choose (hex i), Or.inr ⟨b, off, rfl, hb, fun i hi => Classical.choose_spec (hex i) hi⟩⟩

set_option maxRecDepth 100000 in
set_option maxHeartbeats 1000000 in
theorem laterC (x y : Wh.E) (w : World) (h : Wh.less y x) : Calls Try.prog 18 #[.agg #[.int .i64 (Wh.kd x), .int .i64 (Wh.nm x), .int .u64 x.2], .agg #[.int .i64 (Wh.kd y), .int .i64 (Wh.nm y), .int .u64 y.2]] w (Ret (.bool true) w) := by
  rw [Wh.less_kd] at h
  generalize Wh.kd x = x0 at *
  generalize Wh.nm x = x1 at *
  generalize x.2 = x2 at *
  generalize Wh.kd y = y0 at *
  generalize Wh.nm y = y1 at *
  generalize y.2 = y2 at *
  by_cases h1 : y2 < x2
  · have t1 : decide (y2 < x2) = true := decide_eq_true h1
    clear h h1
    go_enter Try.func18, Try.ntmps18
    go_wp2
    go_ret
    exact ⟨rfl, box2 _ _ _⟩
  · have t1 : decide (y2 < x2) = false := decide_eq_false h1
    have e2 : x2 = y2 := by omega
    have t2 : (x2 == y2) = true := by simpa using e2
    by_cases h3 : y0 < x0
    · have t3 : decide (y0 < x0) = true := decide_eq_true h3
      clear h h1 h3 e2
      go_enter Try.func18, Try.ntmps18
      go_wp2
      go_ret
      exact ⟨rfl, box2 _ _ _⟩
    · have t3 : decide (y0 < x0) = false := decide_eq_false h3
      have e4 : x0 = y0 := by omega
      have t4 : (x0 == y0) = true := by simpa using e4
      have t5 : decide (y1 < x1) = true := decide_eq_true (by omega)
      clear h h1 h3 e2 e4
      go_enter Try.func18, Try.ntmps18
      go_wp2
      go_ret
      exact ⟨rfl, box2 _ _ _⟩

/-- a block that stays is written -/
theorem SoloD.store {w0 w : World} {D : Nat} {n : Int} {l : List Wh.E} {Q : Nat} {a b c : Value} (h : SoloD w0 D n l [(Q, .cells #[a, b, c] 39)] w) (hQ : w0.heap.size ≤ Q) (x y z : Value) :
    SoloD w0 D n l [(Q, .cells #[x, y, z] 39)] (((w.setCell ⟨Q, 0, none⟩ x).setCell ⟨Q, 1, none⟩ y).setCell ⟨Q, 2, none⟩ z) := by
  obtain ⟨G, h1, h2⟩ := h.s
  have hc := h.c _ List.mem_cons_self
  have e0 := setCell_block w Q 0 _ _ x hc
  have e1 := setCell_block _ Q 1 _ _ y e0
  have e2 := setCell_block _ Q 2 _ _ z e1
  have hne : ∀ k, G k → k ≠ Q := fun k hk e => h2 _ List.mem_cons_self (e ▸ hk)
  refine ⟨⟨G, h1.keep (by simp [World.setCell]) (fun k hk => (Below.heap_setCell _ _ _ _ (hne k hk)).trans ((Below.heap_setCell _ _ _ _ (hne k hk)).trans (Below.heap_setCell _ _ _ _ (hne k hk)))), fun q hq => ?_⟩, fun q hq => ?_, ((h.b.setCell hQ x).setCell hQ y).setCell hQ z⟩
  · rw [List.mem_singleton] at hq
    subst hq
    exact h2 (Q, .cells #[a, b, c] 39) List.mem_cons_self
  · rw [List.mem_singleton] at hq
    subst hq
    simpa using e2
/-- the first, and those that are left -/
theorem first_less {M : List Wh.E} (hM : OkL M) {e : Wh.E} (hf : Wh.firstOf M = some e) : (∀ u ∈ Wh.without M e.1, Wh.less e u) ∧ (Wh.without M e.1).length + 1 = M.length ∧ e ∈ M := by
  have hnl := Wh.nodup_of hM.nd
  obtain ⟨h1, h2⟩ := Wh.firstOf_is hnl hf
  refine ⟨fun u hu => ?_, ?_, h1⟩
  · obtain ⟨h3, h4⟩ := Wh.mem_without.1 hu
    rcases Wh.less_tri e u with h | h | h
    · exact h
    · exact absurd (by rw [h]) h4
    · exact absurd h (h2 u h3)
  · obtain ⟨k, hk, rfl⟩ := List.getElem_of_mem h1
    rw [Wh.without_at hM.nd k hk, List.length_eraseIdx_of_lt hk]
    omega

set_option maxRecDepth 100000 in
set_option maxHeartbeats 8000000 in
theorem dueOrder_many (now to_ : Int) (a : Option Addr) (len cap : Nat) (w : World) (h : 100 < len) :
    Calls Try.prog 4 #[.int .u64 now, .slice a len cap, .int .u64 to_] w (Ret (.bool true) w) := by
  have KL := Lib.hid liveOk
  go_enter Try.func4, Try.ntmps4
  go_wp2_with (go_at_call 6; (with_reducible refine (KL.out _).mono ?_); rintro e wA ⟨rfl, hbA⟩)
  go_ret
  exact ⟨rfl, hbA⟩
set_option maxRecDepth 100000 in
set_option maxHeartbeats 8000000 in
theorem dueOrder_at (now to_ : Int) (a : Option Addr) (len cap : Nat) (t : Nat → Int × Int × Int) (w : World) (hw : (Lit.int .u64 now).wf = true) (hto : (Lit.int .u64 to_).wf = true) (hl : len ≤ 100) (h : TimAt w a len t) :
    Calls Try.prog 4 #[.int .u64 now, .slice a len cap, .int .u64 to_] w (Ret (.bool true) w) := by
  have KL := Lib.hid liveOk
  have K0 := Lib.hid (fun W hb => solo_new w now hw W hb)
  have KS := Lib.hid (fun k i t D n l W (hlen : l.length ≤ 900) (hwt : (Lit.int .u64 t).wf = true) h => solo_do (w0 := w) (D := D) (n := n) (l := l) (qs := []) (fun w' G h => dSetC k i t w' w.heap.size D n l G hlen hwt h) W h)
  have HA := Lib.hid h; clear h hw
  have HTO := Lib.hid hto; clear hto
  go_enter Try.func4, Try.ntmps4
  go_wp2_with (go_at_call 7; (with_reducible refine (K0.out _ (Below.refl _ _)).mono ?_); rintro e wA ⟨D, rfl, hV⟩; have HV := Lib.hid hV; clear hV)
  go_loopw [8] (fun s wr => ∃ (k : Nat) (l : List Wh.E), k ≤ len ∧ s = .int .i64 (k : Int) ∧ Hid (SoloD w D now l [] wr) ∧ Hid (OkL l) ∧ l.length ≤ k) (fun s _ => len - (intOf s).toNat)
  case atStart => exact ⟨0, [], Nat.zero_le _, rfl, HV, Lib.hid OkL.nil, Nat.le_refl _⟩
  case round =>
    obtain ⟨k, l, hk, rfl, hV, hO, hlk⟩ := hrel
    clear HV
    by_cases hlt : k < len
    · rcases HA.out with h | ⟨g, off, rfl, hg, hc⟩
      · omega
      · obtain ⟨d0, d1, d2, wt⟩ := hc k hlt
        have c0 := (hV.out.b.cell (p := ⟨g, off + k * 3, none⟩) hg).trans d0
        have c1 := (hV.out.b.cell (p := ⟨g, off + k * 3 + 1, none⟩) hg).trans d1
        have c2 := (hV.out.b.cell (p := ⟨g, off + k * 3 + 2, none⟩) hg).trans d2
        clear d0 d1 d2 hc
        generalize (t k).1 = kd at *
        generalize (t k).2.1 = id at *
        generalize (t k).2.2 = tk at *
        have KP := Lib.hid (KS.out kd id tk D now l wr.drew (by omega) wt (hV.out.below (Below.refl _ _).drew))
        have HO2 := Lib.hid (hO.out.set (k := kd) (i := id) wt)
        have hl2 := len_setLL l kd id tk
        clear wt
        generalize setLL l kd id tk = l2 at *
        generalize setR kd id = rr at *
        go_upto_region 7 with fail
        go_still_tail 16, (by kernel_rfl)
        change wpList _ _ _ _ _ wr.drew
        go_wp2_with (go_at_call 15; (with_reducible refine KP.out.mono ?_); rintro e wB ⟨rfl, hT⟩; have HT := Lib.hid hT; clear hT)
        go_roundw
        case rel => exact ⟨k + 1, l2, by omega, by go_num, HT, HO2, by omega⟩
        case measure => simp [intOf]; omega
    · obtain rfl : k = len := by omega
      have KN := Lib.hid (solo_same (fun w' P F a cap h => dLenC w' w.heap.size D now l _ P F a cap h) wr hV.out)
      have hln : l.length ≤ 100 := by omega
      have hQ : Hid (SoloD w D now l [(wr.heap.size, .cells #[.int .i64 0, .int .i64 0, .int .u64 0] 39)] (wr.alloc (.cells #[.int .i64 0, .int .i64 0, .int .u64 0] 39))) := Lib.hid (hV.out.box _)
      have hQz : w.heap.size ≤ wr.heap.size := hV.out.b.size
      clear HA KS hV hlk hl hlt hk
      generalize hnn : l.length = n at *
      have HNN := Lib.hid hnn; clear hnn
      go_wp2_with (go_at_call 13; (with_reducible refine KN.out.mono ?_); rintro e wB ⟨rfl, rfl⟩)
      have HQ2 := Lib.hid (show SoloD w D now l [(wr.heap.size, .cells #[.int .i64 0, .int .i64 0, .int .u64 0] 39)] (wr.alloc (.cells #[.int .i64 0, .int .i64 0, .int .u64 0] 39)) from hQ.out)
      clear hQ KN
      generalize wr.heap.size = Q at *
      have KF := Lib.hid (fun m M qs W (hlen : M.length ≤ 900) h => solo_do (w0 := w) (D := D) (n := m) (l := M) (qs := qs) (fun w' G h => dFirstC to_ w' w.heap.size D m M G hlen h) W h)
      have KX := Lib.hid (fun m M qs W (hlen : M.length ≤ 1000) h => solo_do (w0 := w) (D := D) (n := m) (n' := m) (l := M) (l' := M) (qs := qs) (fun w' G h => dNextC w' w.heap.size D m M G hlen h) W h)
      have KG := Lib.hid (fun m M qs W (hlen : M.length ≤ 900) h => solo_do (w0 := w) (D := D) (n := m) (l := M) (qs := qs) (fun w' G h => dGoC to_ w' w.heap.size D m M G hlen HTO.out h) W h)
      have KN := Lib.hid (fun m M qs W h => solo_same (w0 := w) (D := D) (n := m) (l := M) (qs := qs) (fun w' P F a cap h => dLenC w' w.heap.size D m M _ P F a cap h) W h)
      have KA := Lib.hid (fun x y W h => laterC x y W h)
      go_loopw [11] (fun s wr => ∃ (i : Nat) (m : Int) (M : List Wh.E) (x y z : Int), i ≤ n ∧ s = .int .i64 (i : Int) ∧ Hid (i + M.length = n) ∧ Hid (SoloD w D m M [(Q, .cells #[.int .i64 x, .int .i64 y, .int .u64 z] 39)] wr) ∧ Hid (OkL M) ∧ Hid (0 < i → ∃ e : Wh.E, x = Wh.kd e ∧ y = Wh.nm e ∧ z = e.2 ∧ ∀ u ∈ M, Wh.less e u)) (fun s _ => n + 1 - (intOf s).toNat)
      case atStart => exact ⟨0, now, l, 0, 0, 0, Nat.zero_le _, rfl, Lib.hid (by rw [HNN.out]; omega), HQ2, hO, Lib.hid (fun h => absurd h (by omega))⟩
      case round =>
        obtain ⟨i, m, M, x, y, z, hin, rfl, hcount, hS, hOM, hlast⟩ := hrel
        clear HQ2
        have hMl : M.length ≤ 100 := by have := hcount.out; omega
        have KF2 := KF.out m M _ wr (by omega) hS.out
        cases hf : firstDue M to_ with
        | none =>
          rw [hf, show firstV none = .tuple #[.agg #[.int .i64 0, .int .i64 0, .int .u64 0], .bool false] from rfl] at KF2
          have HKF := Lib.hid KF2
          have hgo : goB M to_ = true := by unfold goB; rw [hf]; rfl
          have hnx : (Wh.nextR M).isSome = false ∨ (Wh.nextR M).isSome = true ∧ to_ < (Wh.nextR M).getD 0 := by
            rw [Wh.nextR_first (Wh.nodup_of hOM.out.nd)]
            cases hff : Wh.firstOf M with
            | none => exact Or.inl rfl
            | some e => exact Or.inr ⟨rfl, firstDue_ends hf e hff⟩
          have KG2 := KG.out m M [(Q, .cells #[.int .i64 x, .int .i64 y, .int .u64 z] 39)]
          rw [hgo] at KG2
          have HKG := Lib.hid (fun W hlen h => KG2 W hlen h)
          have KX2 := fun W h => KX.out m M [(Q, .cells #[.int .i64 x, .int .i64 y, .int .u64 z] 39)] W (by omega) h
          unfold atV at KX2
          have HKX := Lib.hid KX2
          have KN2 := fun W h => KN.out m M [(Q, .cells #[.int .i64 x, .int .i64 y, .int .u64 z] 39)] W h
          have hlenI : ((M.length : Nat) : Int) = (n : Int) - (i : Int) := by have := hcount.out; omega
          rw [hlenI] at KN2
          have HKN := Lib.hid KN2
          clear KF2 KG2 KX2 KN2 hf hgo hlenI KF KX KG KN
          generalize (Wh.nextR M).isSome = bb at *
          generalize (Wh.nextR M).getD 0 = xx at *
          rcases hnx with rfl | ⟨rfl, hxx⟩
          · go_wp2_with (first | (go_at_call 16; (with_reducible refine HKF.out.mono ?_); rintro e wB ⟨rfl, hT⟩; have HT : Hid (SoloD w D m M [(Q, .cells #[.int .i64 x, .int .i64 y, .int .u64 z] 39)] (wB.alloc (.cells #[.int .i64 0, .int .i64 0, .int .u64 0] 39))) := Lib.hid (hT.below ((Below.refl _ _).alloc (Nat.le_refl _) _)); clear hT) | (go_at_call 11; (with_reducible refine (HKX.out _ HT.out).mono ?_); rintro e wC ⟨rfl, hT⟩; replace HT := Lib.hid hT; clear hT) | (go_at_call 13; (with_reducible refine (HKN.out _ HT.out).mono ?_); rintro e wD ⟨rfl, rfl⟩) | (go_at_call 17; (with_reducible refine (HKG.out _ (Nat.le_trans hMl (by decide)) HT.out).mono ?_); rintro e wE ⟨rfl, hT⟩; have HG := Lib.hid hT.b; clear hT) | (go_at_call 6; (with_reducible refine (KL.out _).mono ?_); rintro e wL ⟨rfl, hbL⟩))
            go_ret
            exact ⟨rfl, HG.out.trans (hbL.mono HG.out.size)⟩
          · have t1 : decide (to_ < xx) = true := decide_eq_true hxx
            clear hxx
            go_wp2_with (first | (go_at_call 16; (with_reducible refine HKF.out.mono ?_); rintro e wB ⟨rfl, hT⟩; have HT : Hid (SoloD w D m M [(Q, .cells #[.int .i64 x, .int .i64 y, .int .u64 z] 39)] (wB.alloc (.cells #[.int .i64 0, .int .i64 0, .int .u64 0] 39))) := Lib.hid (hT.below ((Below.refl _ _).alloc (Nat.le_refl _) _)); clear hT) | (go_at_call 11; (with_reducible refine (HKX.out _ HT.out).mono ?_); rintro e wC ⟨rfl, hT⟩; replace HT := Lib.hid hT; clear hT) | (go_at_call 13; (with_reducible refine (HKN.out _ HT.out).mono ?_); rintro e wD ⟨rfl, rfl⟩) | (go_at_call 17; (with_reducible refine (HKG.out _ (Nat.le_trans hMl (by decide)) HT.out).mono ?_); rintro e wE ⟨rfl, hT⟩; have HG := Lib.hid hT.b; clear hT) | (go_at_call 6; (with_reducible refine (KL.out _).mono ?_); rintro e wL ⟨rfl, hbL⟩))
            go_ret
            exact ⟨rfl, HG.out.trans (hbL.mono HG.out.size)⟩
        | some e =>
          obtain ⟨hfo, hdue⟩ := firstDue_is hf
          obtain ⟨hless, hcnt, hmem⟩ := first_less hOM.out hfo
          have hlt3 : Hid (0 < i → Calls Try.prog 18 #[.agg #[.int .i64 (Wh.kd e), .int .i64 (Wh.nm e), .int .u64 e.2], .agg #[.int .i64 x, .int .i64 y, .int .u64 z]] wr (Ret (.bool true) wr)) := Lib.hid (fun hi => by
            obtain ⟨e', rfl, rfl, rfl, hall⟩ := hlast.out hi
            exact KA.out e e' wr (hall e hmem))
          have hlt4 : ∀ W, 0 < i → Calls Try.prog 18 #[.agg #[.int .i64 (Wh.kd e), .int .i64 (Wh.nm e), .int .u64 e.2], .agg #[.int .i64 x, .int .i64 y, .int .u64 z]] W (Ret (.bool true) W) := fun W hi => by
            obtain ⟨e', rfl, rfl, rfl, hall⟩ := hlast.out hi
            exact KA.out e e' W (hall e hmem)
          have HLT := Lib.hid hlt4
          rw [hf, show firstV (some e) = .tuple #[.agg #[.int .i64 (Wh.kd e), .int .i64 (Wh.nm e), .int .u64 e.2], .bool true] from rfl] at KF2
          have HKF := Lib.hid KF2
          have hnext : ∀ W (s : Int), s = (i : Int) + 1 → SoloD w D (tickF m (some e)) (restF M (some e)) [(Q, .cells #[.int .i64 (Wh.kd e), .int .i64 (Wh.nm e), .int .u64 e.2] 39)] W → ∃ (i' : Nat) (m : Int) (M : List Wh.E) (x y z : Int), i' ≤ n ∧ (.int .i64 s : Value) = .int .i64 (i' : Int) ∧ Hid (i' + M.length = n) ∧ Hid (SoloD w D m M [(Q, .cells #[.int .i64 x, .int .i64 y, .int .u64 z] 39)] W) ∧ Hid (OkL M) ∧ Hid (0 < i' → ∃ e : Wh.E, x = Wh.kd e ∧ y = Wh.nm e ∧ z = e.2 ∧ ∀ u ∈ M, Wh.less e u) := fun W s hs hW => by
            have hc := hcount.out
            have hc2 : (Wh.without M e.1).length + 1 = M.length := hcnt
            exact ⟨i + 1, _, _, _, _, _, by omega, by rw [hs]; simp, Lib.hid (by show i + 1 + (Wh.without M e.1).length = n; omega), Lib.hid hW, Lib.hid (hOM.out.rest (some e)), Lib.hid (fun _ => ⟨e, rfl, rfl, rfl, hless⟩)⟩
          have HNEXT := Lib.hid hnext
          have t1 : decide (to_ < e.2) = false := decide_eq_false (by omega)
          have hi1 : i < n := by have := hcount.out; have : (Wh.without M e.1).length + 1 = M.length := hcnt; omega
          clear KF2 hf hfo hdue hless hcnt hmem hlt3 hlt4 hnext KF KX KG KN hMl hS hcount hlast hOM
          generalize tickF m (some e) = m2 at *
          generalize restF M (some e) = M2 at *
          generalize Wh.kd e = e0 at *
          generalize Wh.nm e = e1 at *
          generalize e.2 = e2 at *
          by_cases hi0 : i = 0
          · subst hi0
            go_wp2_with (go_at_call 16; (with_reducible refine HKF.out.mono ?_); rintro e wB ⟨rfl, hT⟩; have HT := Lib.hid (hT.box (.cells #[.int .i64 e0, .int .i64 e1, .int .u64 e2] 39)); obtain ⟨c0, c1, c2, _⟩ := HT.out.cells (q := wB.heap.size) List.mem_cons_self; obtain ⟨q0, q1, q2, g0, g1, g2⟩ := HT.out.cells (q := Q) (List.mem_cons_of_mem _ List.mem_cons_self); clear hT)
            go_roundw
            case rel => exact HNEXT.out _ _ (by simp) ((HT.out.less (ps := [(Q, .cells #[.int .i64 x, .int .i64 y, .int .u64 z] 39)]) (fun q hq => List.mem_cons_of_mem _ hq)).store hQz _ _ _)
            case measure => simp [intOf]
          · have hpos : 0 < i := by omega
            have t2 : decide ((0 : Int) < (i : Int)) = true := decide_eq_true (by omega)
            go_wp2_with (first | (go_at_call 16; (with_reducible refine HKF.out.mono ?_); rintro e wB ⟨rfl, hT⟩; have HT := Lib.hid (hT.box (.cells #[.int .i64 e0, .int .i64 e1, .int .u64 e2] 39)); obtain ⟨c0, c1, c2, _⟩ := HT.out.cells (q := wB.heap.size) List.mem_cons_self; obtain ⟨q0, q1, q2, g0, g1, g2⟩ := HT.out.cells (q := Q) (List.mem_cons_of_mem _ List.mem_cons_self); clear hT) | (go_at_call 18; (with_reducible refine (HLT.out _ hpos).mono ?_); rintro e wC ⟨rfl, hbC⟩; replace HT := Lib.hid (HT.out.below hbC); clear c0 c1 c2 q0 q1 q2 g0 g1 g2; obtain ⟨c0, c1, c2, _⟩ := HT.out.cells (q := wB.heap.size) List.mem_cons_self; obtain ⟨q0, q1, q2, g0, g1, g2⟩ := HT.out.cells (q := Q) (List.mem_cons_of_mem _ List.mem_cons_self); clear hbC))
            go_roundw
            case rel => exact HNEXT.out _ _ (by simp) ((HT.out.less (ps := [(Q, .cells #[.int .i64 x, .int .i64 y, .int .u64 z] 39)]) (fun q hq => List.mem_cons_of_mem _ hq)).store hQz _ _ _)
            case measure => simp [intOf]; omega

theorem dueOrder_walk (now : Int) (a : Option Addr) (len cap : Nat) (to_ : Int) (w : World) (hw : (Lit.int .u64 now).wf = true) (h : ∃ t, TimAt w a len t) (hto : (Lit.int .u64 to_).wf = true) : Calls Try.prog 4 #[.int .u64 now, .slice a len cap, .int .u64 to_] w (Ret (.bool true) w) := by
  obtain ⟨t, h⟩ := h
  by_cases hl : 100 < len
  · exact dueOrder_many now to_ a len cap w hl
  · exact dueOrder_at now to_ a len cap t w hw hto (by omega) h
end Go.Proofs.Ytmmfmpnkjienfaa
