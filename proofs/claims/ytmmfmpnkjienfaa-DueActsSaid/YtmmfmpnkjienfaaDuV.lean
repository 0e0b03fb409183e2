/-
  The document's set of timers: First.
-/
import Derived.Test.YtmmfmpnkjienfaaDuU
namespace Go.Proofs.Ytmmfmpnkjienfaa
open Go.RowKit
set_option linter.unusedVariables false

set_option maxRecDepth 100000 in
set_option maxHeartbeats 2000000 in
theorem refFirstNone (to_ now : Int) (B R : Nat) (v : Value) (l : List Wh.E) (w : World) (hl : l.length ≤ 1000000) (hnl : l.Nodup) (h : RefS w B R now v l) (hn : ∀ x, Wh.firstOf l = some x → to_ < x.2) :
    Calls Try.prog 24 #[.pointer (some ⟨R, 0, none⟩), .int .u64 to_] w (RetRS (firstV none) B R now v l w) := by
  obtain ⟨a, cap, rfl, hv⟩ := h.row.view
  have hb1 : Below w.heap.size w (w.alloc zeroT) := (Below.refl _ _).alloc (Nat.le_refl _) _
  have h1 := h.below hb1
  have c0 := h1.c0
  have c1 := h1.c1
  have hRw := (h.lt R (Or.inl rfl)).2
  have kl := refLeastC now a cap l (w.alloc zeroT) hl (hv.below hb1)
  have hfin : ∀ wA, Below (w.alloc zeroT).heap.size (w.alloc zeroT) wA → wA.cell? ⟨R, 1, none⟩ = some (.slice a l.length cap) ∧ (wA.cell? ⟨w.heap.size, 0, none⟩ = some (.int .i64 0) ∧ wA.cell? ⟨w.heap.size, 1, none⟩ = some (.int .i64 0) ∧ wA.cell? ⟨w.heap.size, 2, none⟩ = some (.int .u64 0) ∧ wA.frozen? ⟨w.heap.size, 0, none⟩ = false ∧ wA.frozen? ⟨w.heap.size, 1, none⟩ = false ∧ wA.frozen? ⟨w.heap.size, 2, none⟩ = false) ∧
      Hid (∀ x y z, RetRS (firstV none) B R now (.slice a l.length cap) l w (.returned (firstV none)) (((wA.setCell ⟨w.heap.size, 0, none⟩ x).setCell ⟨w.heap.size, 1, none⟩ y).setCell ⟨w.heap.size, 2, none⟩ z)) := fun wA hb => by
    have hq := (hb.block w.heap.size (alloc_lt _ _)).trans (heap_alloc_new w zeroT)
    have hbw := hb1.trans (hb.mono hb1.size)
    have hA := h1.below hb
    refine ⟨hA.c1, cellsT hq, Lib.hid (fun x y z => h.asks rfl (((hbw.setCell (Nat.le_refl _) x).setCell (Nat.le_refl _) y).setCell (Nat.le_refl _) z))⟩
  have HF := Lib.hid hfin
  by_cases h0 : l = []
  · have kl' := kl.mono (R' := Ret (.int .i64 (-1)) (w.alloc zeroT)) (fun e w' hr => by
      obtain ⟨r, rfl, ⟨rfl, _⟩ | ⟨j, _, hj, _⟩⟩ := hr.r
      · exact ⟨rfl, hr.b⟩
      · subst h0
        exact absurd hj (Nat.not_lt_zero _))
    have KL := Lib.hid kl'
    clear kl kl' hfin hv h hn hnl h1 hb1 h0
    generalize l.length = n at *
    go_enter Try.func24, Try.ntmps24
    go_wp2_with (go_at_call 29; (with_reducible refine KL.out.mono ?_); rintro e wA ⟨rfl, hbA⟩; obtain ⟨e1, ⟨q0, q1, q2, g0, g1, g2⟩, hR⟩ := HF.out _ hbA; clear hbA)
    (try simp only [Exit.inBlock, Exit.then])
    refine bodyPost_ret (v := firstV none) ?_ rfl ?_
    · rw [results_cell_tmp rfl]; go_simp; (try rfl)
    · exact hR.out _ _ _
  · have kl' := kl.mono (R' := fun e wA => ∃ (j g : Nat) (t : Int), e = .returned (.int .i64 (j : Int)) ∧ j < l.length ∧ a = some ⟨g, 0, none⟩ ∧ to_ < t ∧ wA.cell? ⟨g, j * 3 + 2, none⟩ = some (.int .u64 t) ∧ Hid (Below (w.alloc zeroT).heap.size (w.alloc zeroT) wA)) (fun e wA hr => by
      obtain ⟨r, rfl, ⟨_, hx⟩ | ⟨j, rfl, hj⟩⟩ := hr.r
      · exact absurd hx h0
      · obtain ⟨hjl, hfo⟩ := Wh.firstOf_least hnl hj
        obtain ⟨g, ha, hg, hc⟩ := ((hv.below hb1).below hr.b).is (by omega)
        exact ⟨j, g, l[j].2, rfl, hjl, ha, hn _ hfo, (hc j hjl).2.2, Lib.hid hr.b⟩)
    have KL := Lib.hid kl'
    clear kl kl' hfin hv h hn hnl h1 hb1 h0
    go_enter Try.func24, Try.ntmps24
    go_wp2_with (go_at_call 29; (with_reducible refine KL.out.mono ?_); rintro e wA ⟨j, g, t, rfl, hjl, rfl, htt, e2, hbA⟩; have t1 : decide (to_ < t) = true := decide_eq_true htt; obtain ⟨e1, ⟨q0, q1, q2, g0, g1, g2⟩, hR⟩ := HF.out _ hbA.out; clear hbA)
    (try simp only [Exit.inBlock, Exit.then])
    refine bodyPost_ret (v := firstV none) ?_ rfl ?_
    · rw [results_cell_tmp rfl]; go_simp; (try rfl)
    · exact hR.out _ _ _

set_option maxRecDepth 100000 in
set_option maxHeartbeats 2000000 in
theorem refFirstSome (to_ now : Int) (B R : Nat) (v : Value) (l : List Wh.E) (x : Wh.E) (w : World) (hl : l.length ≤ 1000000) (hn : (l.map (·.1)).Nodup) (h : RefS w B R now v l) (hf : Wh.firstOf l = some x) (hx : x.2 ≤ to_) :
    Calls Try.prog 24 #[.pointer (some ⟨R, 0, none⟩), .int .u64 to_] w (RetRS (firstV (some x)) B R (later now x.2) v (Wh.without l x.1) w) := by
  have hnl := Wh.nodup_of hn
  obtain ⟨a, cap, rfl, hv⟩ := h.row.view
  have hb1 : Below w.heap.size w (w.alloc zeroT) := (Below.refl _ _).alloc (Nat.le_refl _) _
  have h1 := h.below hb1
  have c0 := h1.c0
  have c1 := h1.c1
  have hRw := (h.lt R (Or.inl rfl)).2
  have hBR := h.base
  have kl := refLeastC now a cap l (w.alloc zeroT) hl (hv.below hb1)
  have hmax := fun ts t P w => run_max64 ts t P w now x.2
  have kl' := kl.mono (R' := fun e wA => ∃ (j g : Nat), e = .returned (.int .i64 (j : Int)) ∧ j < l.length ∧ a = some ⟨g, 0, none⟩ ∧ wA.cell? ⟨R, 1, none⟩ = some (.slice a l.length cap) ∧ (wA.cell? ⟨g, j * 3, none⟩ = some (.int .i64 (Wh.kd x)) ∧ wA.cell? ⟨g, j * 3 + 1, none⟩ = some (.int .i64 (Wh.nm x)) ∧ wA.cell? ⟨g, j * 3 + 2, none⟩ = some (.int .u64 x.2)) ∧
      ((wA.alloc (.cells #[.int .i64 (Wh.kd x), .int .i64 (Wh.nm x), .int .u64 x.2] 39)).cell? ⟨R, 0, none⟩ = some (.int .u64 now) ∧ (wA.alloc (.cells #[.int .i64 (Wh.kd x), .int .i64 (Wh.nm x), .int .u64 x.2] 39)).cell? ⟨R, 1, none⟩ = some (.slice a l.length cap)) ∧
      Calls Try.prog 40 #[.agg #[.int .u64 now, .slice a l.length cap], .int .i64 (j : Int)] (wA.alloc (.cells #[.int .i64 (Wh.kd x), .int .i64 (Wh.nm x), .int .u64 x.2] 39)) fun e2 wB => ∃ a2 n2 c2, e2 = .returned (.slice a2 n2 c2) ∧ wB.cell? ⟨R, 1, none⟩ = some (.slice a l.length cap) ∧ wB.frozen? ⟨R, 1, none⟩ = false ∧
        ((wB.setCell ⟨R, 1, none⟩ (.slice a2 n2 c2)).drew.cell? ⟨R, 0, none⟩ = some (.int .u64 now) ∧ (wB.setCell ⟨R, 1, none⟩ (.slice a2 n2 c2)).drew.frozen? ⟨R, 0, none⟩ = false ∧ (wB.setCell ⟨R, 1, none⟩ (.slice a2 n2 c2)).drew.cell? ⟨wA.heap.size, 2, none⟩ = some (.int .u64 x.2)) ∧
        (∀ w5, w5 = (wB.setCell ⟨R, 1, none⟩ (.slice a2 n2 c2)).drew.setCell ⟨R, 0, none⟩ (.int .u64 (later now x.2)) → (w5.cell? ⟨wA.heap.size, 0, none⟩ = some (.int .i64 (Wh.kd x)) ∧ w5.cell? ⟨wA.heap.size, 1, none⟩ = some (.int .i64 (Wh.nm x)) ∧ w5.cell? ⟨wA.heap.size, 2, none⟩ = some (.int .u64 x.2)) ∧
          (w5.cell? ⟨w.heap.size, 0, none⟩ = some (.int .i64 0) ∧ w5.cell? ⟨w.heap.size, 1, none⟩ = some (.int .i64 0) ∧ w5.cell? ⟨w.heap.size, 2, none⟩ = some (.int .u64 0) ∧ w5.frozen? ⟨w.heap.size, 0, none⟩ = false ∧ w5.frozen? ⟨w.heap.size, 1, none⟩ = false ∧ w5.frozen? ⟨w.heap.size, 2, none⟩ = false) ∧
          Hid (∀ r y0 y1 y2, RetRS r B R (later now x.2) (.slice a l.length cap) (Wh.without l x.1) w (.returned r) (((w5.setCell ⟨w.heap.size, 0, none⟩ y0).setCell ⟨w.heap.size, 1, none⟩ y1).setCell ⟨w.heap.size, 2, none⟩ y2)))) (fun e wA hr => by
    obtain ⟨r, rfl, ⟨_, hx⟩ | ⟨j, rfl, hj⟩⟩ := hr.r
    · subst hx; cases hf
    · obtain ⟨hjl, hfo⟩ := Wh.firstOf_least hnl hj
      rw [hf] at hfo
      have hxj : l[j] = x := by injection hfo with hfo; exact hfo.symm
      have hA := h1.below hr.b
      have hvA := (hv.below hb1).below hr.b
      obtain ⟨g, ha, hg, hc⟩ := hvA.is (by omega)
      have hcx := hc j hjl
      rw [hxj] at hcx
      have hb2 : Below wA.heap.size wA (wA.alloc (.cells #[.int .i64 (Wh.kd x), .int .i64 (Wh.nm x), .int .u64 x.2] 39)) := (Below.refl _ _).alloc (Nat.le_refl _) _
      have hA2 := hA.below hb2
      have hbox := heap_alloc_new wA (.cells #[.int .i64 (Wh.kd x), .int .i64 (Wh.nm x), .int .u64 x.2] 39)
      have hq1 := (hr.b.block w.heap.size (alloc_lt _ _)).trans (heap_alloc_new w zeroT)
      have hsA := hr.b.size
      have hwA : w.heap.size < wA.heap.size := by have := alloc_lt w zeroT; omega
      refine ⟨j, g, rfl, hjl, ha, hA.c1, hcx, ⟨hA2.c0, hA2.c1⟩, (refWithoutC now j a cap l _ hl hjl (hvA.below hb2)).mono fun e2 wB hr2 => ?_⟩
      have her : l.eraseIdx j = Wh.without l x.1 := by rw [← hxj, Wh.without_at hn j hjl]
      obtain ⟨v', rfl, hrow⟩ := hr2.r
      rw [her] at hrow
      obtain ⟨a2, c2, rfl⟩ := own_some hrow
      have hB := hA2.below hr2.b
      have hboxB := (hr2.b.block wA.heap.size (alloc_lt _ _)).trans hbox
      have hqB : wB.heap[w.heap.size]? = some zeroT := (hr2.b.block w.heap.size (Nat.lt_of_lt_of_le hwA hb2.size)).trans ((hb2.block w.heap.size hwA).trans hq1)
      have hsz : B ≤ (wA.alloc (.cells #[.int .i64 (Wh.kd x), .int .i64 (Wh.nm x), .int .u64 x.2] 39)).heap.size := by have := hb2.size; omega
      have h3 := refs_stored hB.cell (own_base hrow hsz) hBR
      have hneA : wA.heap.size ≠ R := by omega
      have hneQ : w.heap.size ≠ R := by omega
      have hboxC : ∀ v', (wB.setCell ⟨R, 1, none⟩ v').heap[wA.heap.size]? = some (.cells #[.int .i64 (Wh.kd x), .int .i64 (Wh.nm x), .int .u64 x.2] 39 (0, 0)) := fun v' => (Below.heap_setCell _ _ _ _ hneA).trans hboxB
      have hqC : ∀ v', (wB.setCell ⟨R, 1, none⟩ v').heap[w.heap.size]? = some zeroT := fun v' => (Below.heap_setCell _ _ _ _ hneQ).trans hqB
      refine ⟨a2, _, c2, rfl, hB.c1, hB.fr 1, ⟨?_, ?_, ?_⟩, fun w5 hw5 => ?_⟩
      · exact h3.c0
      · exact h3.fr 0
      · exact (cellsT (hboxC _)).2.2.1
      · have h5 : RefS w5 B R (later now x.2) (.slice a2 (Wh.without l x.1).length c2) (Wh.without l x.1) := by
          rw [hw5]
          exact RefS.ticked (w := (wB.setCell ⟨R, 1, none⟩ (.slice a2 (Wh.without l x.1).length c2)).drew) (h3.below (Below.refl _ _).drew)
        have hbox5 : w5.heap[wA.heap.size]? = some (.cells #[.int .i64 (Wh.kd x), .int .i64 (Wh.nm x), .int .u64 x.2] 39 (0, 0)) := by
          rw [hw5]
          exact (Below.heap_setCell _ _ _ _ hneA).trans (hboxC _)
        have hq5 : w5.heap[w.heap.size]? = some zeroT := by
          rw [hw5]
          exact (Below.heap_setCell _ _ _ _ hneQ).trans (hqC _)
        have hchg : Chg (RefG R (.slice a l.length cap)) w w5 := by
          have hbw : Below w.heap.size w wB := hb1.trans ((hr.b.trans ((hb2.mono hr.b.size).trans (hr2.b.mono (Nat.le_trans hr.b.size hb2.size)))).mono hb1.size)
          rw [hw5]
          exact (((Chg.of_below (F := RefG R (.slice a l.length cap)) hbw).setCell (Or.inl (Or.inl rfl)) _).drew).setCell (Or.inl (Or.inl rfl)) _
        obtain ⟨z0, z1, z2, _⟩ := cellsT hbox5
        refine ⟨⟨z0, z1, z2⟩, cellsT hq5, Lib.hid (fun r y0 y1 y2 => ⟨rfl, ⟨.slice a2 (Wh.without l x.1).length c2, ?_, fun k hk => Or.inr ?_⟩, ?_⟩)⟩
        · have hk5 : ∀ k, RefG R (.slice a2 (Wh.without l x.1).length c2) k → k ≠ w.heap.size := fun k hk e => by
            rcases hk with hk | hk
            · omega
            · have := (World.ownsRow.lt hrow k hk).1
              have := hb2.size
              omega
          exact h5.keep (fun k hk => (Below.heap_setCell _ _ _ _ (hk5 k hk)).trans ((Below.heap_setCell _ _ _ _ (hk5 k hk)).trans (Below.heap_setCell _ _ _ _ (hk5 k hk))))
        · have := (World.ownsRow.lt hrow k hk).1
          have := hb2.size
          omega
        · exact ((hchg.setCell (Or.inr (Nat.le_refl _)) _).setCell (Or.inr (Nat.le_refl _)) _).setCell (Or.inr (Nat.le_refl _)) _)
  have KL := Lib.hid kl'
  have t1 : decide (to_ < x.2) = false := decide_eq_false (by omega)
  rw [show firstV (some x) = .tuple #[.agg #[.int .i64 (Wh.kd x), .int .i64 (Wh.nm x), .int .u64 x.2], .bool true] from rfl]
  clear kl kl' hv h hn hnl h1 hb1 hf hx
  generalize Wh.kd x = x0 at *
  generalize Wh.nm x = x1 at *
  generalize Wh.without l x.1 = L at *
  generalize x.2 = x2 at *
  generalize later now x2 = m at *
  go_enter Try.func24, Try.ntmps24
  go_wp2_with (first | (go_at_call 29; (with_reducible refine KL.out.mono ?_); rintro e wA ⟨j, g, rfl, hjl, rfl, e1, ⟨d0, d1, d2⟩, ⟨e3, e4⟩, kw⟩; have KW := Lib.hid kw; clear kw) | (go_at_call 40; (with_reducible refine KW.out.mono ?_); rintro e wB ⟨a2, n2, c2, rfl, e5, f5, ⟨e6, f6, e7⟩, hfin⟩; have HFIN := Lib.hid (hfin ((wB.setCell ⟨R, 1, none⟩ (.slice a2 n2 c2)).setCell ⟨R, 0, none⟩ (.int .u64 m)).drew rfl); clear hfin))
  obtain ⟨⟨z0, z1, z2⟩, ⟨q0, q1, q2, g0, g1, g2⟩, hR⟩ := HFIN.out
  clear KL KW c0 c1 e1 d0 d1 d2 e3 e4 e5 f5 HFIN
  go_region
  clear e6 f6 e7
  generalize ((wB.setCell ⟨R, 1, none⟩ (.slice a2 n2 c2)).setCell ⟨R, 0, none⟩ (.int .u64 m)).drew = w5 at *
  go_wp2
  (try simp only [Exit.inBlock, Exit.then])
  refine bodyPost_ret (v := .tuple #[.agg #[.int .i64 x0, .int .i64 x1, .int .u64 x2], .bool true]) ?_ rfl ?_
  · rw [results_cell_tmp rfl]; go_simp; (try rfl)
  · exact hR.out _ _ _ _

theorem refFirstC (to_ now : Int) (B R : Nat) (v : Value) (l : List Wh.E) (w : World) (hl : l.length ≤ 1000000) (hn : (l.map (·.1)).Nodup) (h : RefS w B R now v l) :
    (∀ x, Wh.firstOf l = some x → to_ < x.2) ∧ Calls Try.prog 24 #[.pointer (some ⟨R, 0, none⟩), .int .u64 to_] w (RetRS (firstV none) B R now v l w) ∨
    ∃ x, Wh.firstOf l = some x ∧ x.2 ≤ to_ ∧ Calls Try.prog 24 #[.pointer (some ⟨R, 0, none⟩), .int .u64 to_] w (RetRS (firstV (some x)) B R (later now x.2) v (Wh.without l x.1) w) := by
  cases hf : Wh.firstOf l with
  | none => exact Or.inl ⟨fun x hx => (by cases hx), refFirstNone to_ now B R v l w hl (Wh.nodup_of hn) h (fun x hx => by rw [hf] at hx; cases hx)⟩
  | some x =>
    by_cases hx : x.2 ≤ to_
    · exact Or.inr ⟨x, rfl, hx, refFirstSome to_ now B R v l x w hl hn h hf hx⟩
    · refine Or.inl ⟨fun y hy => ?_, refFirstNone to_ now B R v l w hl (Wh.nodup_of hn) h (fun y hy => ?_)⟩
      · cases hy; omega
      · rw [hf] at hy; cases hy; omega
end Go.Proofs.Ytmmfmpnkjienfaa
