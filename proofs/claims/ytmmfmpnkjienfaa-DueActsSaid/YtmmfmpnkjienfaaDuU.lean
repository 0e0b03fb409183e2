/-
  The document's set of timers: Set, Go.
-/
import Derived.Test.YtmmfmpnkjienfaaDuT
namespace Go.Proofs.Ytmmfmpnkjienfaa
open Go.RowKit
set_option linter.unusedVariables false

set_option maxRecDepth 100000 in
set_option maxHeartbeats 2000000 in
theorem refSetNo (k i t now : Int) (B R : Nat) (v : Value) (l : List Wh.E) (w : World) (hm : ¬ Wh.May k i) (h : RefS w B R now v l) :
    Calls Try.prog 22 #[.pointer (some ⟨R, 0, none⟩), .int .i64 k, .int .i64 i, .int .u64 t] w (RetRS (.int .i64 1) B R now v l w) := by
  have km := fun W => refMayC k i W
  rw [decide_eq_false hm] at km
  have KM := Lib.hid km
  have H := Lib.hid h
  clear km hm h
  go_enter Try.func22, Try.ntmps22
  go_wp2_with (go_at_call 39; (with_reducible refine (KM.out _).mono ?_); rintro e wA ⟨rfl, rfl⟩)
  go_ret
  exact H.out.asks rfl (Below.refl _ _)
set_option maxRecDepth 100000 in
set_option maxHeartbeats 2000000 in
theorem refSetYes (k i t now : Int) (B R : Nat) (v : Value) (l : List Wh.E) (w : World) (hl : l.length ≤ 1000000) (hn : (l.map (·.1)).Nodup) (hg : Wh.Good l) (hm : Wh.May k i) (h : RefS w B R now v l) :
    Calls Try.prog 22 #[.pointer (some ⟨R, 0, none⟩), .int .i64 k, .int .i64 i, .int .u64 t] w (RetRS (.int .i64 0) B R now v (Wh.setL l (Wh.key k i) t) w) := by
  have km := fun W => refMayC k i W
  rw [decide_eq_true hm] at km
  have kc := refClearC k i now B R v l w hl hn hg h
  have hcl : clearL l k i = Wh.without l (Wh.key k i) := by unfold clearL; rw [if_pos hm]
  rw [hcl] at kc
  obtain ⟨L, hL⟩ : ∃ L, L = Wh.without l (Wh.key k i) := ⟨_, rfl⟩
  have hset : Wh.setL l (Wh.key k i) t = L ++ [(Wh.key k i, t)] := by rw [hL]; rfl
  have hLl : L.length ≤ 1000000 := by rw [hL]; exact Nat.le_trans (List.length_filter_le _ _) hl
  rw [← hL] at kc
  rw [hset]
  have hkd : ∀ {wn : World} {v' : Value}, wn.ownsRow B 39 3 v' (L.length + 1) (cellsD L ++ [.int .i64 k, .int .i64 i, .int .u64 t]) → RowD wn B v' (L ++ [(Wh.key k i, t)]) := fun {wn v'} ho => by
    refine RowD.snoc ?_
    rw [Wh.kd_key hm, Wh.nm_key hm]
    exact ho
  have hafter : ∀ e w1, RetRS (.bool (atR2 l k i).isSome) B R now v L w e w1 → ∃ a1 c1, w1.cell? ⟨R, 1, none⟩ = some (.slice a1 L.length c1) ∧ w1.ownsRow B 39 3 (.slice a1 L.length c1) L.length (cellsD L) ∧ B ≤ w1.heap.size ∧
      ∀ v' w2, w2.ownsRow B 39 3 v' (L.length + 1) (cellsD L ++ [.int .i64 k, .int .i64 i, .int .u64 t]) → Below B w1 w2 → (∀ q, q < w1.heap.size → some q ≠ (Value.slice a1 L.length c1).ownBlock → w2.heap[q]? = w1.heap[q]?) → (∀ q, v'.ownBlock = some q → (Value.slice a1 L.length c1).ownBlock = some q ∨ w1.heap.size ≤ q) →
        w2.cell? ⟨R, 1, none⟩ = some (.slice a1 L.length c1) ∧ w2.frozen? ⟨R, 1, none⟩ = false ∧ Hid (RetRS (.int .i64 0) B R now v (L ++ [(Wh.key k i, t)]) w (.returned (.int .i64 0)) (w2.setCell ⟨R, 1, none⟩ v')) := by
    intro e w1 hr
    obtain ⟨v1, h1, hs1⟩ := hr.s
    obtain ⟨a1, c1, rfl⟩ := own_some h1.row
    have hRw := (h1.lt R (Or.inl rfl)).2
    have hBR := h1.base
    refine ⟨a1, c1, h1.c1, h1.row, by omega, fun v' w2 ho hb hk hlies => ?_⟩
    have hcell := (hk R hRw h1.ne).trans h1.cell
    refine ⟨by rw [cell_of_row w2 R _ _ _ _ hcell]; rfl, frozen_of w2 R _ _ _ hcell, Lib.hid (RetRS.then (v1 := .slice a1 L.length c1) (n := now) (l := l) hs1 hr.c ⟨rfl, ⟨v', refs_stored hcell (hkd ho) hBR, hlies⟩, ?_⟩)⟩
    exact (show Chg (RefG R (.slice a1 L.length c1)) w1 w2 from ⟨hb.os, hb.tape, hb.output, hb.size, fun q hq hf => hk q hq (fun e => hf (Or.inr e.symm))⟩).setCell (Or.inl (Or.inl rfl)) _
  have KM := Lib.hid km
  have KC := Lib.hid kc
  have HA := Lib.hid hafter
  have hLn : L.length ≤ 9223372036 := Nat.le_trans hLl (by decide)
  clear km kc hafter hkd hset hL hcl hm h hn hg hLl
  generalize (atR2 l k i).isSome = bb at *
  go_enter Try.func22, Try.ntmps22
  go_wp2_with (first | (go_at_call 39; (with_reducible refine (KM.out _).mono ?_); rintro e wA ⟨rfl, rfl⟩) | (go_at_call 23; (with_reducible refine KC.out.mono ?_); intro e w1 hr; obtain rfl := hr.r; obtain ⟨a1, n1, e1, ho1, hB1, hA1⟩ := HA.out _ _ hr; have HO1 := Lib.hid ho1; have HA1 := Lib.hid hA1; clear hr ho1 hA1) | (at_builtin; (refine wpApp2 w1 rfl _ _ 28 rfl B 39 _ 3 24 Try.underlying28 infoTimer rfl (by decide) (by decide) (.slice a1 L.length n1) L.length (cellsD L) rfl HO1.out #[.int .i64 k, .int .i64 i, .int .u64 t] _ rfl rfl (fun u hu => by simp at hu; rcases hu with rfl | rfl | rfl <;> rfl) hLn hB1 ?_); intro v' w2 hown hb2 hkeep hlies; obtain ⟨g2, cap2, rfl⟩ := own_slice hown; obtain ⟨e2, f2, hR⟩ := HA1.out _ _ hown hb2 hkeep hlies; clear hown hb2 hkeep hlies))
  go_ret
  exact hR.out

set_option maxRecDepth 100000 in
set_option maxHeartbeats 2000000 in
theorem refGoC (to_ now : Int) (B R : Nat) (v : Value) (l : List Wh.E) (w : World) (hl : l.length ≤ 1000000) (hn : l.Nodup) (h : RefS w B R now v l) :
    (∀ x, Wh.firstOf l = some x → to_ < x.2) ∧ Calls Try.prog 25 #[.pointer (some ⟨R, 0, none⟩), .int .u64 to_] w (RetRS (.bool true) B R (later now to_) v l w) ∨
    (∃ x, Wh.firstOf l = some x ∧ x.2 ≤ to_) ∧ Calls Try.prog 25 #[.pointer (some ⟨R, 0, none⟩), .int .u64 to_] w (RetRS (.bool false) B R now v l w) := by
  obtain ⟨a, cap, rfl, hv⟩ := h.row.view
  have c0 := h.c0
  have c1 := h.c1
  have kn := refNextDC now a cap l w hl hv
  rw [Wh.nextR_first hn] at kn
  have hmax := fun ts t P w => run_max64 ts t P w now to_
  have hset : ∀ wA, Below w.heap.size w wA → wA.cell? ⟨R, 0, none⟩ = some (.int .u64 now) ∧ wA.frozen? ⟨R, 0, none⟩ = false ∧ Hid (RetRS (.bool true) B R (later now to_) (.slice a l.length cap) l w (.returned (.bool true)) (wA.setCell ⟨R, 0, none⟩ (.int .u64 (later now to_)))) := fun wA hb => by
    have hA := h.below hb
    exact ⟨hA.c0, hA.fr 0, Lib.hid ⟨rfl, ⟨_, hA.ticked, fun k hk => Or.inl hk⟩, (Chg.of_below hb).setCell (Or.inl (Or.inl rfl)) _⟩⟩
  have HS := Lib.hid hset
  have H := Lib.hid h
  cases hf : Wh.firstOf l with
  | none =>
    refine Or.inl ⟨fun x hx => (by cases hx), ?_⟩
    rw [hf, show atV (Option.map (fun x => x.2) (none : Option Wh.E)) = .tuple #[.int .u64 0, .bool false] from rfl] at kn
    have KN := Lib.hid kn
    clear kn hset hv h hf hn
    generalize later now to_ = m at *
    go_enter Try.func25, Try.ntmps25
    go_wp2_with (go_at_call 12; (with_reducible refine KN.out.mono ?_); rintro e wA ⟨rfl, hbA⟩; obtain ⟨e0, f0, hR⟩ := HS.out _ hbA; clear hbA)
    go_ret
    exact hR.out
  | some x =>
    rw [hf, show atV (Option.map (fun x => x.2) (some x)) = .tuple #[.int .u64 x.2, .bool true] from rfl] at kn
    have KN := Lib.hid kn
    by_cases hx : x.2 ≤ to_
    · refine Or.inr ⟨⟨x, rfl, hx⟩, ?_⟩
      have t1 : decide (x.2 ≤ to_) = true := decide_eq_true hx
      clear kn hset hv h hf hn hx
      generalize x.2 = y at *
      go_enter Try.func25, Try.ntmps25
      go_wp2_with (go_at_call 12; (with_reducible refine KN.out.mono ?_); rintro e wA ⟨rfl, hbA⟩)
      go_ret
      exact H.out.asks rfl hbA
    · refine Or.inl ⟨fun y hy => (by cases hy; omega), ?_⟩
      have t1 : decide (x.2 ≤ to_) = false := decide_eq_false hx
      clear kn hset hv h hf hn hx
      generalize x.2 = y at *
      generalize later now to_ = m at *
      go_enter Try.func25, Try.ntmps25
      go_wp2_with (go_at_call 12; (with_reducible refine KN.out.mono ?_); rintro e wA ⟨rfl, hbA⟩; obtain ⟨e0, f0, hR⟩ := HS.out _ hbA; clear hbA)
      go_ret
      exact hR.out
end Go.Proofs.Ytmmfmpnkjienfaa
