/-
  A ring of flows: Pick, Take.
-/
import Derived.Test.YtgeoebodlcbebaaFlA
namespace Go.Proofs.Ytgeoebodlcbebaa
open Go.RowKit
open Rb (Nd)
set_option linter.unusedVariables false

/-- what Pick and Take return -/
def tkV : Option (Int × Ff.E) → Value
  | none => .tuple #[.int .i64 0, .agg #[.int .i64 0, .int .i64 0], .bool false]
  | some (f, (id, co)) => .tuple #[.int .i64 f, .agg #[.int .i64 id, .int .i64 co], .bool true]
/-- a call of the ring below, behind an alloc; then boxes -/
theorem FIn.step {w W0 w' W : World} {B P R m : Nat} {q : Int} {g : Bool} {ns ns' : List Nd} {x y x' y' : Nat → Nat} {F : Nat → Prop} {s' : Fl.St} (v : Value) (h : FIn w B P R m q g ns x y) (hF : ∀ k, F k ↔ footF P R m ns k) (hb : Below w.heap.size w W0) (hz : w.heap.size < W0.heap.size)
    (hr : RIn w' B R m s'.q s'.g ns' x' y') (hl : ns'.map (·.r) = s'.l) (hf : ∀ k, footG R m ns' k → footG R m ns k ∨ W0.heap.size ≤ k) (hc : Chg (footG R m ns) W0 w') (hW : Chg (fun k => k = w.heap.size) w' W) : RetF v B P s' F w (.returned v) W := by
  have hCf : ∀ k, footG R m ns' k → k ≠ w.heap.size := fun k hk e => by
    rcases hf k hk with h1 | h1
    · have := (h.r.lt k h1).2; omega
    · omega
  have hP : W.heap[P]? = some (ringO R) := by
    have h0 := lt_block h.p
    exact hW.keep (hc.keep ((hb.block P h0).trans h.p) h.np) (by omega)
  refine ⟨rfl, ⟨footF P R m ns', ⟨R, m, ns', x', y', ⟨hP, hr.keep (fun k hk => hW.block k (hr.lt k hk).2 (hCf k hk)), fun hk => ?_, h.lo⟩, hl, fun k => Iff.rfl⟩, fun k hk => ?_⟩, ?_⟩
  · rcases hf P hk with h1 | h1
    · exact h.np h1
    · have := lt_block h.p; omega
  · rcases hk with e | hk
    · exact Or.inl ((hF k).2 (Or.inl e))
    · rcases hf k hk with h1 | h1
      · exact Or.inl ((hF k).2 (Or.inr h1))
      · right; omega
  · exact (((Chg.of_below (F := F) hb).trans hc (fun k hk => Or.inl ((hF k).2 (Or.inr hk)))).trans hW (fun k hk => Or.inr (by omega)))
theorem takeV_pick {s : Fl.St} {n : Nd} {t : List Nd} (h : (n :: t).map (·.r) = s.pick.l) {id co : Int} {rest : List Ff.E} (hi : n.r.its = (id, co) :: rest) : s.takeV = some (n.r.f, (id, co)) := by
  unfold Fl.St.takeV
  rw [← h]
  show (n.r.its.head?).map (fun x => (n.r.f, x)) = _
  rw [hi]; rfl
theorem takeV_nil {s : Fl.St} (h : s.pick.l = []) : s.takeV = none := by unfold Fl.St.takeV; rw [h]
set_option maxRecDepth 100000 in
set_option maxHeartbeats 4000000 in
theorem pickNone (B P R : Nat) (s s' : Fl.St) (F : Nat → Prop) (w : World) (c0 : w.cell? ⟨P, 0, none⟩ = some (.pointer (some ⟨R, 0, none⟩)))
    (k : Calls Try.prog 40 #[.pointer (some ⟨R, 0, none⟩)] (w.alloc zeroI) fun e w' => e = .returned (.tuple #[.agg #[.nilIface, .int .i64 0, .int .i64 0, .int .i64 0], .agg #[.int .i64 0, .int .i64 0], .bool false]) ∧ w'.heap[w.heap.size]? = some zeroI ∧ Hid (∀ W, Chg (fun k => k = w.heap.size) w' W → RetF (tkV none) B P s' F w (.returned (tkV none)) W)) :
    Calls Try.prog 17 #[.pointer (some ⟨P, 0, none⟩)] w (RetF (tkV none) B P s' F w) := by
  have c0' : (w.alloc zeroI).cell? ⟨P, 0, none⟩ = some (.pointer (some ⟨R, 0, none⟩)) := by
    have hb : Below w.heap.size w (w.alloc zeroI) := (Below.refl _ _).alloc (Nat.le_refl _) _
    exact (hb.cell (p := ⟨P, 0, none⟩) (block_lt_of_cell c0)).trans c0
  have K := Lib.hid k
  clear k
  go_enter Try.func17, Try.ntmps17
  go_wp2_with (go_at_call 40; (with_reducible refine K.out.mono ?_); rintro e wA ⟨rfl, hX, hE⟩; have hX2 := (Lib.alloc_old (wA.alloc flO0) zeroI w.heap.size (by have := lt_block hX; simp; omega)).trans ((Lib.alloc_old wA flO0 w.heap.size (lt_block hX)).trans hX); obtain ⟨a0, a1⟩ := it_cells hX2; have f0 := frozen_of _ w.heap.size 0 _ _ hX2; have f1 := frozen_of _ w.heap.size 1 _ _ hX2)
  have hlt := lt_block hX
  have q1 : wA.heap.size ≠ w.heap.size := by omega
  have q2 : wA.heap.size + 1 ≠ w.heap.size := by omega
  have HF := Lib.hid (hE.out ((((wA.alloc flO0).alloc zeroI).setCell ⟨w.heap.size, 0, none⟩ (.int .i64 0)).setCell ⟨w.heap.size, 1, none⟩ (.int .i64 0)).drew ((((Chg.of_below (F := fun k => k = w.heap.size) (((Below.refl wA.heap.size wA).alloc (Nat.le_refl _) flO0).alloc (by simp) zeroI)).setCell (p := ⟨w.heap.size, 0, none⟩) (Or.inl rfl) _).setCell (p := ⟨w.heap.size, 1, none⟩) (Or.inl rfl) _).drew))
  clear hX hX2 hE hlt c0 c0'
  go_region
  go_wp2
  refine bodyPost_ret (v := tkV none) ?_ rfl ?_
  · rw [results_tct rfl]; unfold tkV; go_simp; (try rfl)
  · exact HF.out
set_option maxRecDepth 100000 in
set_option maxHeartbeats 4000000 in
theorem pickSome (B P R : Nat) (s s' : Fl.St) (F : Nat → Prop) (f id co : Int) (w : World) (c0 : w.cell? ⟨P, 0, none⟩ = some (.pointer (some ⟨R, 0, none⟩)))
    (k : Calls Try.prog 40 #[.pointer (some ⟨R, 0, none⟩)] (w.alloc zeroI) fun e w' => ∃ T q wt d, e = .returned (.tuple #[.agg #[.iface T (.pointer (some ⟨q, 0, none⟩)), .int .i64 f, .int .i64 wt, .int .i64 d], .agg #[.int .i64 id, .int .i64 co], .bool true]) ∧ w'.heap[w.heap.size]? = some zeroI ∧ Hid (∀ W, Chg (fun k => k = w.heap.size) w' W → RetF (tkV (some (f, (id, co)))) B P s' F w (.returned (tkV (some (f, (id, co))))) W)) :
    Calls Try.prog 17 #[.pointer (some ⟨P, 0, none⟩)] w (RetF (tkV (some (f, (id, co)))) B P s' F w) := by
  have c0' : (w.alloc zeroI).cell? ⟨P, 0, none⟩ = some (.pointer (some ⟨R, 0, none⟩)) := by
    have hb : Below w.heap.size w (w.alloc zeroI) := (Below.refl _ _).alloc (Nat.le_refl _) _
    exact (hb.cell (p := ⟨P, 0, none⟩) (block_lt_of_cell c0)).trans c0
  have K := Lib.hid k
  clear k
  go_enter Try.func17, Try.ntmps17
  go_wp2_with (go_at_call 40; (with_reducible refine K.out.mono ?_); rintro e wA ⟨T, q, wt, d, rfl, hX, hE⟩; have hX2 := (Lib.alloc_old (wA.alloc (.cells #[.iface T (.pointer (some ⟨q, 0, none⟩)), .int .i64 f, .int .i64 wt, .int .i64 d] 75)) (itO id co) w.heap.size (by have := lt_block hX; simp; omega)).trans ((Lib.alloc_old wA (.cells #[.iface T (.pointer (some ⟨q, 0, none⟩)), .int .i64 f, .int .i64 wt, .int .i64 d] 75) w.heap.size (lt_block hX)).trans hX); obtain ⟨a0, a1⟩ := it_cells hX2; have f0 := frozen_of _ w.heap.size 0 _ _ hX2; have f1 := frozen_of _ w.heap.size 1 _ _ hX2)
  have hlt := lt_block hX
  have q1 : wA.heap.size ≠ w.heap.size := by omega
  have q2 : wA.heap.size + 1 ≠ w.heap.size := by omega
  have HF := Lib.hid (hE.out ((((wA.alloc (.cells #[.iface T (.pointer (some ⟨q, 0, none⟩)), .int .i64 f, .int .i64 wt, .int .i64 d] 75)).alloc (itO id co)).setCell ⟨w.heap.size, 0, none⟩ (.int .i64 id)).setCell ⟨w.heap.size, 1, none⟩ (.int .i64 co)).drew ((((Chg.of_below (F := fun k => k = w.heap.size) (((Below.refl wA.heap.size wA).alloc (Nat.le_refl _) (.cells #[.iface T (.pointer (some ⟨q, 0, none⟩)), .int .i64 f, .int .i64 wt, .int .i64 d] 75)).alloc (by simp) (itO id co))).setCell (p := ⟨w.heap.size, 0, none⟩) (Or.inl rfl) _).setCell (p := ⟨w.heap.size, 1, none⟩) (Or.inl rfl) _).drew))
  clear hX hX2 hE hlt c0 c0'
  go_region
  go_wp2
  refine bodyPost_ret (v := tkV (some (f, (id, co)))) ?_ rfl ?_
  · rw [results_tct rfl]; unfold tkV; go_simp; (try rfl)
  · exact HF.out
set_option maxRecDepth 100000 in
set_option maxHeartbeats 4000000 in
theorem takNone (B P R : Nat) (s s' : Fl.St) (F : Nat → Prop) (w : World) (c0 : w.cell? ⟨P, 0, none⟩ = some (.pointer (some ⟨R, 0, none⟩)))
    (k : Calls Try.prog 39 #[.pointer (some ⟨R, 0, none⟩)] (w.alloc zeroI) fun e w' => e = .returned (.tuple #[.agg #[.nilIface, .int .i64 0, .int .i64 0, .int .i64 0], .agg #[.int .i64 0, .int .i64 0], .bool false]) ∧ w'.heap[w.heap.size]? = some zeroI ∧ Hid (∀ W, Chg (fun k => k = w.heap.size) w' W → RetF (tkV none) B P s' F w (.returned (tkV none)) W)) :
    Calls Try.prog 16 #[.pointer (some ⟨P, 0, none⟩)] w (RetF (tkV none) B P s' F w) := by
  have c0' : (w.alloc zeroI).cell? ⟨P, 0, none⟩ = some (.pointer (some ⟨R, 0, none⟩)) := by
    have hb : Below w.heap.size w (w.alloc zeroI) := (Below.refl _ _).alloc (Nat.le_refl _) _
    exact (hb.cell (p := ⟨P, 0, none⟩) (block_lt_of_cell c0)).trans c0
  have K := Lib.hid k
  clear k
  go_enter Try.func16, Try.ntmps16
  go_wp2_with (go_at_call 39; (with_reducible refine K.out.mono ?_); rintro e wA ⟨rfl, hX, hE⟩; have hX2 := (Lib.alloc_old (wA.alloc flO0) zeroI w.heap.size (by have := lt_block hX; simp; omega)).trans ((Lib.alloc_old wA flO0 w.heap.size (lt_block hX)).trans hX); obtain ⟨a0, a1⟩ := it_cells hX2; have f0 := frozen_of _ w.heap.size 0 _ _ hX2; have f1 := frozen_of _ w.heap.size 1 _ _ hX2)
  have hlt := lt_block hX
  have q1 : wA.heap.size ≠ w.heap.size := by omega
  have q2 : wA.heap.size + 1 ≠ w.heap.size := by omega
  have HF := Lib.hid (hE.out ((((wA.alloc flO0).alloc zeroI).setCell ⟨w.heap.size, 0, none⟩ (.int .i64 0)).setCell ⟨w.heap.size, 1, none⟩ (.int .i64 0)).drew ((((Chg.of_below (F := fun k => k = w.heap.size) (((Below.refl wA.heap.size wA).alloc (Nat.le_refl _) flO0).alloc (by simp) zeroI)).setCell (p := ⟨w.heap.size, 0, none⟩) (Or.inl rfl) _).setCell (p := ⟨w.heap.size, 1, none⟩) (Or.inl rfl) _).drew))
  clear hX hX2 hE hlt c0 c0'
  go_region
  go_wp2
  refine bodyPost_ret (v := tkV none) ?_ rfl ?_
  · rw [results_tct rfl]; unfold tkV; go_simp; (try rfl)
  · exact HF.out
set_option maxRecDepth 100000 in
set_option maxHeartbeats 4000000 in
theorem takSome (B P R : Nat) (s s' : Fl.St) (F : Nat → Prop) (f id co : Int) (w : World) (c0 : w.cell? ⟨P, 0, none⟩ = some (.pointer (some ⟨R, 0, none⟩)))
    (k : Calls Try.prog 39 #[.pointer (some ⟨R, 0, none⟩)] (w.alloc zeroI) fun e w' => ∃ T q wt d, e = .returned (.tuple #[.agg #[.iface T (.pointer (some ⟨q, 0, none⟩)), .int .i64 f, .int .i64 wt, .int .i64 d], .agg #[.int .i64 id, .int .i64 co], .bool true]) ∧ w'.heap[w.heap.size]? = some zeroI ∧ Hid (∀ W, Chg (fun k => k = w.heap.size) w' W → RetF (tkV (some (f, (id, co)))) B P s' F w (.returned (tkV (some (f, (id, co))))) W)) :
    Calls Try.prog 16 #[.pointer (some ⟨P, 0, none⟩)] w (RetF (tkV (some (f, (id, co)))) B P s' F w) := by
  have c0' : (w.alloc zeroI).cell? ⟨P, 0, none⟩ = some (.pointer (some ⟨R, 0, none⟩)) := by
    have hb : Below w.heap.size w (w.alloc zeroI) := (Below.refl _ _).alloc (Nat.le_refl _) _
    exact (hb.cell (p := ⟨P, 0, none⟩) (block_lt_of_cell c0)).trans c0
  have K := Lib.hid k
  clear k
  go_enter Try.func16, Try.ntmps16
  go_wp2_with (go_at_call 39; (with_reducible refine K.out.mono ?_); rintro e wA ⟨T, q, wt, d, rfl, hX, hE⟩; have hX2 := (Lib.alloc_old (wA.alloc (.cells #[.iface T (.pointer (some ⟨q, 0, none⟩)), .int .i64 f, .int .i64 wt, .int .i64 d] 75)) (itO id co) w.heap.size (by have := lt_block hX; simp; omega)).trans ((Lib.alloc_old wA (.cells #[.iface T (.pointer (some ⟨q, 0, none⟩)), .int .i64 f, .int .i64 wt, .int .i64 d] 75) w.heap.size (lt_block hX)).trans hX); obtain ⟨a0, a1⟩ := it_cells hX2; have f0 := frozen_of _ w.heap.size 0 _ _ hX2; have f1 := frozen_of _ w.heap.size 1 _ _ hX2)
  have hlt := lt_block hX
  have q1 : wA.heap.size ≠ w.heap.size := by omega
  have q2 : wA.heap.size + 1 ≠ w.heap.size := by omega
  have HF := Lib.hid (hE.out ((((wA.alloc (.cells #[.iface T (.pointer (some ⟨q, 0, none⟩)), .int .i64 f, .int .i64 wt, .int .i64 d] 75)).alloc (itO id co)).setCell ⟨w.heap.size, 0, none⟩ (.int .i64 id)).setCell ⟨w.heap.size, 1, none⟩ (.int .i64 co)).drew ((((Chg.of_below (F := fun k => k = w.heap.size) (((Below.refl wA.heap.size wA).alloc (Nat.le_refl _) (.cells #[.iface T (.pointer (some ⟨q, 0, none⟩)), .int .i64 f, .int .i64 wt, .int .i64 d] 75)).alloc (by simp) (itO id co))).setCell (p := ⟨w.heap.size, 0, none⟩) (Or.inl rfl) _).setCell (p := ⟨w.heap.size, 1, none⟩) (Or.inl rfl) _).drew))
  clear hX hX2 hE hlt c0 c0'
  go_region
  go_wp2
  refine bodyPost_ret (v := tkV (some (f, (id, co)))) ?_ rfl ?_
  · rw [results_tct rfl]; unfold tkV; go_simp; (try rfl)
  · exact HF.out
theorem flPickC (B P : Nat) (s : Fl.St) (F : Nat → Prop) (w : World) (h : FIs w B P s F) (hG : Fl.Good s) (hL : Fl.Lim 64 s) (hS : Fl.Small 90000 s) :
    Calls Try.prog 17 #[.pointer (some ⟨P, 0, none⟩)] w (RetF (tkV s.takeV) B P s.pick F w) := by
  obtain ⟨R, m, ns, x, y, h1, h2, h3⟩ := h
  have hb : Below w.heap.size w (w.alloc zeroI) := (Below.refl _ _).alloc (Nat.le_refl _) _
  have hz : w.heap.size < (w.alloc zeroI).heap.size := by simp
  obtain ⟨hGp, _, _⟩ := hG.pick hL
  have hk0 := pickC B R m s ns x y (footG R m ns) (w.alloc zeroI) (h1.r.below hb) h2 (fun k => Iff.rfl) hG hL hS
  by_cases hn : s.pick.l = []
  · rw [takeV_nil hn]
    refine pickNone B P R s s.pick F w h1.c0 (hk0.mono fun e w' hr => ?_)
    obtain ⟨ns', x', y', e1, e2, e3, e4⟩ := hr.s
    rw [hn] at e3
    obtain rfl : ns' = [] := by simpa using e3
    exact ⟨e1, hr.c.keep (heap_alloc_new _ _) (fun hf => by have := (h1.r.lt _ hf).2; omega), Lib.hid fun W hW => h1.step _ h3 hb hz e2 (by rw [hn]; rfl) (fun k hk => Or.inl ((e4 k).1 hk)) hr.c hW⟩
  · cases hl : s.pick.l with
    | nil => exact absurd hl hn
    | cons r t =>
      have hok := hGp.ok r (by rw [hl]; simp)
      cases hi : r.its with
      | nil => exact absurd hi hok.ne
      | cons e0 rest =>
        obtain ⟨id, co⟩ := e0
        have htv : s.takeV = some (r.f, (id, co)) := by
          unfold Fl.St.takeV
          rw [hl]
          show (r.its.head?).map (fun x => (r.f, x)) = _
          rw [hi]; rfl
        rw [htv]
        refine pickSome B P R s s.pick F r.f id co w h1.c0 (hk0.mono fun e w' hr => ?_)
        obtain ⟨ns', x', y', e1, e2, e3, e4⟩ := hr.s
        cases ns' with
        | nil => rw [hl] at e3; cases e3
        | cons n t' =>
          have e5 := e3
          rw [hl] at e5
          have e6 : n.r = r := (List.cons.inj e5).1
          refine ⟨n.t, n.q, n.r.w, n.r.d, ?_, hr.c.keep (heap_alloc_new _ _) (fun hf => by have := (h1.r.lt _ hf).2; omega), Lib.hid fun W hW => h1.step _ h3 hb hz e2 e3 (fun k hk => Or.inl ((e4 k).1 hk)) hr.c hW⟩
          rw [e1]
          show Ending.returned (.tuple #[.agg #[.iface n.t (.pointer (some ⟨n.q, 0, none⟩)), .int .i64 n.r.f, .int .i64 n.r.w, .int .i64 n.r.d], .agg #[.int .i64 (n.r.its.head?.getD (0, 0)).1, .int .i64 (n.r.its.head?.getD (0, 0)).2], .bool true]) = _
          rw [e6, hi]; rfl
theorem flTakeC (B P : Nat) (s : Fl.St) (F : Nat → Prop) (w : World) (h : FIs w B P s F) (hG : Fl.Good s) (hL : Fl.Lim 64 s) (hS : Fl.Small 90000 s) (hB : B ≤ w.heap.size) :
    Calls Try.prog 16 #[.pointer (some ⟨P, 0, none⟩)] w (RetF (tkV s.takeV) B P s.take F w) := by
  obtain ⟨R, m, ns, x, y, h1, h2, h3⟩ := h
  have hb : Below w.heap.size w (w.alloc zeroI) := (Below.refl _ _).alloc (Nat.le_refl _) _
  have hz : w.heap.size < (w.alloc zeroI).heap.size := by simp
  have hk0 := robTakeC B R m s ns x y (footG R m ns) (w.alloc zeroI) (h1.r.below hb) h2 (fun k => Iff.rfl) hG hL hS (by omega)
  cases htv : s.takeV with
  | none =>
    refine takNone B P R s s.take F w h1.c0 (hk0.mono fun e w' hr => ?_)
    obtain ⟨ns', x', y', e2, e3, e4⟩ := hr.s
    rcases hr.v with ⟨_, e1⟩ | ⟨f, id, co, T, q, wt, d, e0, e1⟩
    · exact ⟨e1, hr.c.keep (heap_alloc_new _ _) (fun hf => by have := (h1.r.lt _ hf).2; omega), Lib.hid fun W hW => h1.step _ h3 hb hz e2 e3 e4 hr.c hW⟩
    · rw [htv] at e0; cases e0
  | some v =>
    obtain ⟨f, id, co⟩ := v
    refine takSome B P R s s.take F f id co w h1.c0 (hk0.mono fun e w' hr => ?_)
    obtain ⟨ns', x', y', e2, e3, e4⟩ := hr.s
    rcases hr.v with ⟨e0, e1⟩ | ⟨f', id', co', T, q, wt, d, e0, e1⟩
    · rw [htv] at e0; cases e0
    · rw [htv] at e0
      cases e0
      exact ⟨T, q, wt, d, e1, hr.c.keep (heap_alloc_new _ _) (fun hf => by have := (h1.r.lt _ hf).2; omega), Lib.hid fun W hW => h1.step _ h3 hb hz e2 e3 e4 hr.c hW⟩
end Go.Proofs.Ytgeoebodlcbebaa
