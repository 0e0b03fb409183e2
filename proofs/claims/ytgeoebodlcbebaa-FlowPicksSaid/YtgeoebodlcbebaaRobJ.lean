/-
  A ring of flows: Take.
-/
import Derived.Test.YtgeoebodlcbebaaRobI
namespace Fl
theorem take_shape {s : St} {r : Rw} {t : List Rw} {e : Ff.E} {rest : List Ff.E} (hnd : (s.pick.l.map (·.f)).Nodup) (hl : s.pick.l = r :: t) (hi : r.its = e :: rest) :
    s.take.q = s.pick.q ∧ s.take.l = (if rest = [] then t else { r with d := r.d - e.2, its := rest } :: t) ∧ s.take.g = (if rest = [] then false else s.pick.g) ∧ s.takeV = some (r.f, e) := by
  have e1 : s.take = s.pick.with { r with d := r.d - e.2, its := rest } := by
    unfold St.take
    rw [hl]
    dsimp only
    rw [hi]
  have e2 : s.takeV = some (r.f, e) := by
    unfold St.takeV
    rw [hl]
    dsimp only
    rw [hi]; rfl
  rw [e1]
  refine ⟨rfl, ?_, ?_, e2⟩
  · rw [with_l, hl]
    rw [hl] at hnd
    have := put_split (a := []) (b := t) (r := r) (x := { r with d := r.d - e.2, its := rest }) hnd rfl
    rw [List.nil_append, List.nil_append] at this
    rw [this]
    by_cases h : rest = []
    · simp [h]
    · simp [h]
  · by_cases h : rest = []
    · rw [if_pos h, with_first (x := { r with d := r.d - e.2, its := rest }) hl rfl h]
    · rw [if_neg h, with_stay (x := { r with d := r.d - e.2, its := rest }) h]
end Fl
namespace Go.Proofs.Ytgeoebodlcbebaa
open Go.RowKit
open Rb (Nd)
set_option linter.unusedVariables false

structure RetSF (B R m : Nat) (q : Int) (g : Bool) (n : Nd) (t : List Nd) (w : World) (e : Ending) (w' : World) : Prop where
  e : e = .returned (.tuple #[])
  s : ∃ x y, RIn w' B R m q (if n.r.its = [] then false else g) (if n.r.its = [] then t else n :: t) x y
  c : Chg (footG R m (n :: t)) w w'
theorem settleFirst (B R m : Nat) (q : Int) (g : Bool) (n : Nd) (t : List Nd) (x y : Nat → Nat) (w : World) (h : RIn w B R m q g (n :: t) x y) (hl : n.r.its.length ≤ 1000000) :
    Calls Try.prog 42 #[.pointer (some ⟨R, 0, none⟩), .int .i64 n.r.f] w (RetSF B R m q g n t w) := by
  by_cases hi : n.r.its = []
  · cases t with
    | nil => exact (settleOne B R m q g n x y w h hi).mono fun e w' hr => ⟨hr.e, by rw [if_pos hi, if_pos hi]; exact hr.s, hr.c⟩
    | cons v t => exact (settleMore B R m q g n v t x y w h hi).mono fun e w' hr => ⟨hr.e, by rw [if_pos hi, if_pos hi]; exact hr.s, hr.c⟩
  · exact (settleWaits B R m q g (n :: t) x y n w h (by simp) hi hl).mono fun e w' hr => by
      obtain ⟨h1, h2⟩ := hr
      subst h2
      exact ⟨h1, by rw [if_neg hi, if_neg hi]; exact ⟨x, y, h⟩, Chg.refl _ _⟩
/-- Take's post -/
structure RetTk (B R m : Nat) (F : Nat → Prop) (s : Fl.St) (w : World) (e : Ending) (w' : World) : Prop where
  v : (s.takeV = none ∧ e = .returned (pickV [])) ∨ ∃ f id co T q wt d, s.takeV = some (f, (id, co)) ∧ e = .returned (.tuple #[.agg #[.iface T (.pointer (some ⟨q, 0, none⟩)), .int .i64 f, .int .i64 wt, .int .i64 d], .agg #[.int .i64 id, .int .i64 co], .bool true])
  s : ∃ ns x y, RIn w' B R m s.take.q s.take.g ns x y ∧ ns.map (·.r) = s.take.l ∧ ∀ k, footG R m ns k → F k ∨ w.heap.size ≤ k
  c : Chg F w w'
/-- the four boxes of Take's walk -/
structure Box4 (C X : Nat) (n : Nd) (id co : Int) (W : World) : Prop where
  c : W.heap[C]? = some flO0
  d : W.heap[C + 1]? = some zeroI
  x : W.heap[X]? = some (.cells #[.iface n.t (.pointer (some ⟨n.q, 0, none⟩)), .int .i64 n.r.f, .int .i64 n.r.w, .int .i64 n.r.d] 75)
  y : W.heap[X + 1]? = some (itO id co)
theorem Box4.keep {C X : Nat} {n : Nd} {id co : Int} {W W' : World} {G : Nat → Prop} (h : Box4 C X n id co W) (hc : Chg G W W') (h1 : ¬ G C) (h2 : ¬ G (C + 1)) (h3 : ¬ G X) (h4 : ¬ G (X + 1)) : Box4 C X n id co W' :=
  ⟨hc.keep h.c h1, hc.keep h.d h2, hc.keep h.x h3, hc.keep h.y h4⟩
theorem fl_cells {W : World} {X : Nat} {s f wt d : Value} (h : W.heap[X]? = some (.cells #[s, f, wt, d] 75)) : W.cell? ⟨X, 0, none⟩ = some s ∧ W.cell? ⟨X, 1, none⟩ = some f ∧ W.cell? ⟨X, 2, none⟩ = some wt ∧ W.cell? ⟨X, 3, none⟩ = some d :=
  ⟨by rw [cell_of_row W _ _ _ _ _ h]; rfl, by rw [cell_of_row W _ _ _ _ _ h]; rfl, by rw [cell_of_row W _ _ _ _ _ h]; rfl, by rw [cell_of_row W _ _ _ _ _ h]; rfl⟩
set_option maxRecDepth 100000 in
set_option maxHeartbeats 8000000 in
theorem takeNone (B R m : Nat) (s : Fl.St) (ns : List Nd) (x y : Nat → Nat) (F : Nat → Prop) (w : World) (h : RIn w B R m s.q s.g ns x y) (hl : ns.map (·.r) = s.l) (hF : ∀ k, footG R m ns k ↔ F k) (hG : Fl.Good s) (hL : Fl.Lim 64 s) (hS : Fl.Small 90000 s) (hn : s.l = []) :
    Calls Try.prog 39 #[.pointer (some ⟨R, 0, none⟩)] w (RetTk B R m F s w) := by
  have hb0 : Below w.heap.size w (preP w) := ((Below.refl _ _).alloc (Nat.le_refl _) _).alloc (by simp) _
  have hp : s.pick = s := Fl.pick_nil hn
  have hFl : ∀ k, F k → k < w.heap.size := fun k hk => (h.lt k ((hF k).2 hk)).2
  have ht1 : s.take = s := by unfold Fl.St.take; rw [hp, hn]
  have ht2 : s.takeV = none := by unfold Fl.St.takeV; rw [hp, hn]
  have K := Lib.hid ((pickC B R m s ns x y F _ (h.below hb0) hl hF hG hL hS).mono (R' := fun e w' => e = .returned (.tuple #[.agg #[.nilIface, .int .i64 0, .int .i64 0, .int .i64 0], .agg #[.int .i64 0, .int .i64 0], .bool false]) ∧ w'.heap[w.heap.size]? = some flO0 ∧ w'.heap[w.heap.size + 1]? = some zeroI ∧ Hid (∀ W, Chg (fun k => w.heap.size ≤ k) w' W → RetTk B R m F s w (.returned (pickV [])) W)) fun e w' hr => by
    obtain ⟨ns', x', y', h1, h2, h3, h4⟩ := hr.s
    rw [hp, hn] at h3
    obtain rfl : ns' = [] := by simpa using h3
    refine ⟨h1, hr.c.keep (heap_alloc2_old w flO0 zeroI) (fun hf => by have := hFl _ hf; omega), hr.c.keep (heap_alloc2_new w flO0 zeroI) (fun hf => by have := hFl _ hf; omega), Lib.hid fun W hW => ⟨Or.inl ⟨ht2, rfl⟩, ⟨[], x', y', ?_, by rw [ht1, hn]; rfl, fun k hk => Or.inl ((h4 k).1 hk)⟩, ?_⟩⟩
    · rw [ht1]
      rw [hp] at h2
      exact h2.keep (fun k hk => hW.block k (h2.lt k hk).2 (fun hle => by have := hFl k ((h4 k).1 hk); omega))
    · exact (((Chg.of_below (F := F) hb0).trans hr.c (fun k hk => Or.inl hk)).trans hW (fun k hk => Or.inr hk)))
  clear h hl hF hG hL hS hn hb0 hp hFl ht1 ht2
  go_enter Try.func39, Try.ntmps39
  go_wp2_with (go_at_call 40; (with_reducible refine K.out.mono ?_); rintro e wA ⟨rfl, hX0, hX1, hE⟩; have HX := Lib.hid (And.intro hX0 hX1); clear hX0 hX1; have hY0 := (Lib.alloc_old (wA.alloc flO0) zeroI w.heap.size (by have := lt_block HX.out.1; simp; omega)).trans ((Lib.alloc_old wA flO0 w.heap.size (lt_block HX.out.1)).trans HX.out.1); have hY1 := (Lib.alloc_old (wA.alloc flO0) zeroI (w.heap.size + 1) (by have := lt_block HX.out.2; simp; omega)).trans ((Lib.alloc_old wA flO0 (w.heap.size + 1) (lt_block HX.out.2)).trans HX.out.2); obtain ⟨a0, a1, a2, a3, a4, a5, f0, f1, f2, f3, f4, f5⟩ := res_cells hY0 hY1; clear hY0 hY1)
  have hfin := hE.out (((((((wA.alloc flO0).alloc zeroI).setCell ⟨w.heap.size, 0, none⟩ .nilIface).setCell ⟨w.heap.size, 1, none⟩ (.int .i64 0)).setCell ⟨w.heap.size, 2, none⟩ (.int .i64 0)).setCell ⟨w.heap.size, 3, none⟩ (.int .i64 0)).setCell ⟨w.heap.size + 1, 0, none⟩ (.int .i64 0) |>.setCell ⟨w.heap.size + 1, 1, none⟩ (.int .i64 0)) (by
    have hb : Below wA.heap.size wA ((wA.alloc flO0).alloc zeroI) := ((Below.refl _ _).alloc (Nat.le_refl _) _).alloc (by simp) _
    exact (((((((Chg.of_below (F := fun k => w.heap.size ≤ k) hb).setCell (p := ⟨w.heap.size, 0, none⟩) (Or.inl (Nat.le_refl _)) _).setCell (p := ⟨w.heap.size, 1, none⟩) (Or.inl (Nat.le_refl _)) _).setCell (p := ⟨w.heap.size, 2, none⟩) (Or.inl (Nat.le_refl _)) _).setCell (p := ⟨w.heap.size, 3, none⟩) (Or.inl (Nat.le_refl _)) _).setCell (p := ⟨w.heap.size + 1, 0, none⟩) (Or.inl (Nat.le_succ _)) _).setCell (p := ⟨w.heap.size + 1, 1, none⟩) (Or.inl (Nat.le_succ _)) _))
  have HE := Lib.hid hfin
  clear hfin hE
  refine bodyPost_ret (v := pickV []) ?_ rfl ?_
  · rw [results_cct rfl]; unfold pickV; go_simp; (try rfl)
  · exact HE.out
end Go.Proofs.Ytgeoebodlcbebaa
