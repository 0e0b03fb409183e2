/-
  A ring of flows: Push.
-/
import Derived.Test.YtgeoebodlcbebaaFlC
namespace Go.Proofs.Ytgeoebodlcbebaa
open Go.RowKit
open Rb (Nd)
set_option linter.unusedVariables false

theorem QIs.base {w : World} {B B' P : Nat} {l : List Ff.E} {F : Nat → Prop} (h : QIs w B P l F) (hb : B' ≤ B) : QIs w B' P l F := by
  obtain ⟨m, s, ns, aft, bef, h1, h2, h3, h4, h5, h6⟩ := h
  exact ⟨m, s, ns, aft, bef, h1, h2, h3, h4, h5, fun k hk => Nat.le_trans hb (h6 k hk)⟩
theorem fits_bad {l : List Fl.Rw} {f wt : Int} (h : (f < 0 ∨ wt < 1 ∨ wt > 16) ∨ ∃ r, Fl.row l f = some r ∧ r.w ≠ wt) : fits l f wt = false := by
  unfold fits
  rcases h with (h | h | h) | ⟨r, hr, hw⟩
  · rw [show decide (f ≥ 0) = false from decide_eq_false (by omega)]; rfl
  · rw [show decide (wt ≥ 1) = false from decide_eq_false (by omega)]; simp
  · rw [show decide (wt ≤ 16) = false from decide_eq_false (by omega)]; simp
  · rw [hr]; dsimp only; rw [show decide (r.w = wt) = false from decide_eq_false hw]; simp
theorem fits_ok {l : List Fl.Rw} {f wt : Int} (h : ¬ (f < 0 ∨ wt < 1 ∨ wt > 16)) (h2 : Fl.row l f = none ∨ ∃ r, Fl.row l f = some r ∧ r.w = wt) : fits l f wt = true := by
  unfold fits
  rw [show decide (f ≥ 0) = true from decide_eq_true (by omega), show decide (wt ≥ 1) = true from decide_eq_true (by omega), show decide (wt ≤ 16) = true from decide_eq_true (by omega)]
  rcases h2 with hr | ⟨r, hr, hw⟩
  · rw [hr]; rfl
  · rw [hr]; dsimp only; rw [show decide (r.w = wt) = true from decide_eq_true hw]; rfl
theorem fq_push {w : World} {B P R m : Nat} {q : Int} {ns : List Nd} {g : Bool} {a b : List Nd} {n : Nd} {x y : Nat → Nat} {W : World} (h : FlQ w B P R m q ns g (a ++ n :: b) x y W) (id co : Int) (hid : (Lit.int .i64 id).wf = true) (hl : n.r.its.length ≤ 90000) :
    Calls Try.prog 36 #[.pointer (some ⟨n.q, 0, none⟩), .agg #[.int .i64 id, .int .i64 co]] W fun e W' => e = .returned (.int .i64 (Ff.pushE n.r.its id co)) ∧ ∃ F', Hid (FlQ w B P R m q ns g (a ++ n.que F' (Ff.pushL n.r.its id co) :: b) x y W') := by
  have hBW : B ≤ W.heap.size := Nat.le_trans h.b h.c.size
  refine (pushC B n.q n.r.its n.F id co W (h.r.qs.q n (by simp)) hid (by omega) hBW).mono fun e W' hr => ⟨hr.r, ?_⟩
  obtain ⟨F', r1, r2, r3⟩ := RIn.queue h.r hBW hr
  exact ⟨F', Lib.hid (h.chg r1 r2 r3)⟩
theorem fq_append {w : World} {B P R m : Nat} {q : Int} {ns : List Nd} {g : Bool} {ns' : List Nd} {x y : Nat → Nat} {W : World} (h : FlQ w B P R m q ns g ns' x y W) (Q : Nat) (F0 : Nat → Prop) (f wt : Int) (its : List Ff.E) (hq : QIs W B Q its F0) (hf0 : ∀ k, F0 k → w.heap.size ≤ k) (hap : ∀ k, F0 k → ¬ footG R m ns' k) (hf : (Lit.int .i64 f).wf = true) (hno : ∀ n' ∈ ns', n'.r.f ≠ f) (hl : ns'.length ≤ 100000) (d : Int) :
    Calls Try.prog 38 #[.pointer (some ⟨R, 0, none⟩), .agg #[.iface 69 (.pointer (some ⟨Q, 0, none⟩)), .int .i64 f, .int .i64 wt, .int .i64 d]] W fun e W' => e = .returned (.tuple #[]) ∧ ∃ (b : Nat) (x2 y2 : Nat → Nat), Hid (FlQ w B P R m q ns g (ns' ++ [⟨b, Q, 69, F0, ⟨f, wt, d, its⟩⟩]) x2 y2 W') := by
  have hBW : B ≤ W.heap.size := Nat.le_trans h.b h.c.size
  have hA : Calls Try.prog 38 #[.pointer (some ⟨R, 0, none⟩), .agg #[.iface 69 (.pointer (some ⟨Q, 0, none⟩)), .int .i64 f, .int .i64 wt, .int .i64 d]] W (RetA B R m q g ns' ⟨0, Q, 69, F0, ⟨f, wt, d, its⟩⟩ W) := by
    cases ns' with
    | nil => exact appendNil B R m q g x y ⟨0, Q, 69, F0, ⟨f, wt, d, its⟩⟩ W h.r hBW rfl hq hap hf
    | cons r t => exact appendMore B R m q g r t x y ⟨0, Q, 69, F0, ⟨f, wt, d, its⟩⟩ W h.r hBW (by simp at hl; omega) rfl hq hap hf hno
  refine hA.mono fun e W' hr => ⟨hr.e, ?_⟩
  obtain ⟨b, x2, y2, h1, h2⟩ := hr.s
  refine ⟨b, x2, y2, Lib.hid ⟨h1, fun k hk => ?_, h.c.trans hr.c h.f, h.p, h.b⟩⟩
  rcases h2 k hk with e | e | e
  · exact h.f k e
  · exact Or.inr (hf0 k e)
  · exact Or.inr (Nat.le_trans h.c.size e)
/-- a queue made in the course of a call -/
structure NwQ (w : World) (B P R m : Nat) (q : Int) (ns : List Nd) (g : Bool) (x y : Nat → Nat) (Q : Nat) (its : List Ff.E) (F0 : Nat → Prop) (id co : Int) (W : World) : Prop where
  r : FlQ w B P R m q ns g ns x y W
  q : QIs W B Q its F0
  f : ∀ k, F0 k → w.heap.size < k
  ap : ∀ k, F0 k → ¬ footG R m ns k
  x : W.heap[w.heap.size]? = some (itO id co)
theorem fq_new {w : World} {B P R m : Nat} {q : Int} {ns : List Nd} {g : Bool} {x y : Nat → Nat} {W : World} {id co : Int} (h : FIn w B P R m q g ns x y) (hB : B ≤ w.heap.size) (hb : Below w.heap.size w W) (hx : W.heap[w.heap.size]? = some (itO id co)) :
    Calls Try.prog 37 #[] W fun e W' => ∃ Q, e = .returned (.pointer (some ⟨Q, 0, none⟩)) ∧ ∃ F0, Hid (NwQ w B P R m q ns g x y Q [] F0 id co W') := by
  refine (newQC W).mono fun e W' hr => ?_
  obtain ⟨Q, F0, rfl, hq⟩ := hr.s
  have hlt := lt_block hx
  refine ⟨Q, rfl, F0, Lib.hid ⟨FlQ.start h (hb.trans (hr.b.mono hb.size)) hB, hq.base (Nat.le_trans hB hb.size), fun k hk => ?_, fun k hk hf => ?_, (hr.b.block _ hlt).trans hx⟩⟩
  · have := (hq.lt k hk).1; omega
  · have h1 := (hq.lt k hk).1
    have h2 := (h.r.lt k hf).2
    omega
theorem nw_push {w : World} {B P R m : Nat} {q : Int} {ns : List Nd} {g : Bool} {x y : Nat → Nat} {Q : Nat} {its : List Ff.E} {F0 : Nat → Prop} {W : World} {id co : Int} (h : NwQ w B P R m q ns g x y Q its F0 id co W) (hid : (Lit.int .i64 id).wf = true) (hl : its.length ≤ 90000) :
    Calls Try.prog 36 #[.pointer (some ⟨Q, 0, none⟩), .agg #[.int .i64 id, .int .i64 co]] W fun e W' => e = .returned (.int .i64 (Ff.pushE its id co)) ∧ ∃ F1, Hid (NwQ w B P R m q ns g x y Q (Ff.pushL its id co) F1 id co W') := by
  have hBW : B ≤ W.heap.size := Nat.le_trans h.r.b h.r.c.size
  refine (pushC B Q its F0 id co W h.q hid (by omega) hBW).mono fun e W' hr => ⟨hr.r, ?_⟩
  obtain ⟨F1, g1, g2⟩ := hr.s
  have hlt := lt_block h.x
  refine ⟨F1, Lib.hid ⟨⟨h.r.r.keep (fun k hk => hr.c.block k (h.r.r.lt k hk).2 (fun hf => h.ap k hf hk)), h.r.f, h.r.c.trans hr.c (fun k hk => Or.inr (Nat.le_of_lt (h.f k hk))), h.r.p, h.r.b⟩, g1, fun k hk => ?_, fun k hk hf => ?_, hr.c.keep h.x (fun hf => by have := h.f _ hf; omega)⟩⟩
  · rcases g2 k hk with e | e
    · exact h.f k e
    · omega
  · rcases g2 k hk with e | e
    · exact h.ap k e hf
    · have := (h.r.r.lt k hf).2; omega
set_option maxRecDepth 100000 in
set_option maxHeartbeats 4000000 in
theorem flPushC (B P : Nat) (s : Fl.St) (F : Nat → Prop) (f wt id co : Int) (w : World) (h : FIs w B P s F) (hG : Fl.Good s) (hS : Fl.Small 90000 s) (hB : B ≤ w.heap.size) (hf : (Lit.int .i64 f).wf = true) (hid : (Lit.int .i64 id).wf = true) :
    Calls Try.prog 15 #[.pointer (some ⟨P, 0, none⟩), .int .i64 f, .int .i64 wt, .agg #[.int .i64 id, .int .i64 co]] w (RetF (.int .i64 (s.pushE f wt id co)) B P (s.push f wt id co) F w) := by
  have hbx : Below w.heap.size w (w.alloc (itO id co)) := (Below.refl _ _).alloc (Nat.le_refl _) _
  obtain ⟨R, hc0, hrob⟩ := (h.below hbx).rob
  have KF := fitsC B R s _ f wt _ hrob hf
  obtain ⟨R', m, ns, x, y, h1, h2, h3⟩ := h
  obtain rfl : R' = R := by
    have := (h1.below hbx).c0
    rw [hc0] at this
    simpa using this.symm
  have hX : (w.alloc (itO id co)).heap[w.heap.size]? = some (itO id co) := heap_alloc_new _ _
  have hbox : ∀ W, Below (w.alloc (itO id co)).heap.size (w.alloc (itO id co)) W → Below w.heap.size w W ∧ W.heap[w.heap.size]? = some (itO id co) ∧ W.cell? ⟨P, 0, none⟩ = some (.pointer (some ⟨R', 0, none⟩)) := fun W hW => by
    have hbw := hbx.trans (hW.mono (by simp))
    exact ⟨hbw, (hW.block _ (by simp)).trans hX, (h1.below hbw).c0⟩
  rcases Fl.push_cases s f wt id co with hbad | ⟨hok, hrow⟩
  · rw [fits_bad hbad] at KF
    obtain ⟨p1, p2⟩ := Fl.push_bad (id := id) (c := co) hbad
    rw [p1, p2]
    have K := Lib.hid KF
    have HF := Lib.hid (fun W (hW : Below (w.alloc (itO id co)).heap.size (w.alloc (itO id co)) W) => h1.fin (s' := s) (.int .i64 1) h3 (h1.r.below (hbox W hW).1) h2 (fun k hk => Or.inl hk) (Chg.of_below (hbox W hW).1))
    clear h1 h2 h3 hf hid hG hS hB hbox hX hbx hrob KF p1 p2 hbad
    go_enter Try.func15, Try.ntmps15
    go_wp2_with (go_at_call 35; (with_reducible refine K.out.mono ?_); rintro e wA ⟨rfl, hA⟩)
    go_ret
    exact HF.out _ hA
  · rw [fits_ok hok hrow] at KF
    have K := Lib.hid KF
    cases hr : Fl.row s.l f with
    | none =>
      obtain ⟨p1, p2⟩ := Fl.push_new (id := id) (c := co) hok hr
      rw [p1, p2]
      have hno := node_no h2 hr
      have K2 := Lib.hid (fun W (hW : Below (w.alloc (itO id co)).heap.size (w.alloc (itO id co)) W) => queueNo B P R' m _ _ ns x y f W (h1.below (hbox W hW).1) hf hno)
      have K3 := Lib.hid (fun W (hW : Below (w.alloc (itO id co)).heap.size (w.alloc (itO id co)) W) => fq_new (id := id) (co := co) h1 hB (hbox W hW).1 (hbox W hW).2.1)
      have K4 := Lib.hid (fun Q F0 W (hW : NwQ w B P R' m s.q ns s.g x y Q [] F0 id co W) => nw_push hW hid (by decide))
      have HBX := Lib.hid hbox
      have HIT := Lib.hid (fun Q its F0 W (hW : NwQ w B P R' m s.q ns s.g x y Q its F0 id co W) => it_cells hW.x)
      have hln : ns.length ≤ 90000 := by have := hS.l; rw [← h2] at this; simpa using this
      by_cases he : Ff.pushE [] id co = 0
      · obtain ⟨e1, e2, e3⟩ := Fl.pushE_zero he
        rw [if_pos he, he]
        rw [he, e3] at K4
        have K5 := Lib.hid (fun Q F0 W (hW : NwQ w B P R' m s.q ns s.g x y Q ([] ++ [(id, co)]) F0 id co W) => fq_append hW.r Q F0 f wt ([] ++ [(id, co)]) hW.q (fun k hk => Nat.le_of_lt (hW.f k hk)) hW.ap hf hno (by omega) 0)
        have HF := Lib.hid (fun b Q F0 x2 y2 W (hW : FlQ w B P R' m s.q ns s.g (ns ++ [⟨b, Q, 69, F0, ⟨f, wt, 0, [] ++ [(id, co)]⟩⟩]) x2 y2 W) => h1.fin (s' := { s with l := s.l ++ [⟨f, wt, 0, [(id, co)]⟩] }) (.int .i64 0) h3 hW.r (by rw [List.map_append, h2]; rfl) hW.f hW.c)
        have HC0 := Lib.hid (fun Q its F0 W (hW : NwQ w B P R' m s.q ns s.g x y Q its F0 id co W) => hW.r.c0)
        clear h1 h2 h3 hf hid hG hS hB hbox hX hbx hrob KF p1 p2 hok hrow hr hno hln he e1 e2 e3
        go_enter Try.func15, Try.ntmps15
        go_wp2_with (first | (go_at_call 35; (with_reducible refine K.out.mono ?_); rintro e wA ⟨rfl, hA⟩) | (go_at_call 32; (with_reducible refine (K2.out _ hA).mono ?_); rintro e wB ⟨rfl, hB⟩; have hB2 := Lib.hid (hA.trans (hB.mono hA.size))) | (go_at_call 37; (with_reducible refine (K3.out _ hB2.out).mono ?_); rintro e wC ⟨Q, rfl, F0, hC⟩; obtain ⟨i0, i1⟩ := HIT.out _ _ _ _ hC.out) | (go_at_call 36; (with_reducible refine (K4.out _ _ _ hC.out).mono ?_); rintro e wD ⟨rfl, F1, hD⟩; have c5 := HC0.out _ _ _ _ hD.out) | (go_at_call 38; (with_reducible refine (K5.out _ _ _ hD.out).mono ?_); rintro e wE ⟨rfl, b2, x2, y2, hE⟩))
        go_ret
        exact HF.out _ _ _ _ _ _ hE.out
      · rw [if_neg he]
        have HF := Lib.hid (fun Q its F0 W (hW : NwQ w B P R' m s.q ns s.g x y Q its F0 id co W) => h1.fin (s' := s) (.int .i64 (Ff.pushE [] id co)) h3 hW.r.r h2 hW.r.f hW.r.c)
        have t9 : (Ff.pushE [] id co == 0) = false := by simpa using he
        generalize Ff.pushE [] id co = E at *
        clear h1 h2 h3 hf hid hG hS hB hbox hX hbx hrob KF p1 p2 hok hrow hr hno hln he
        go_enter Try.func15, Try.ntmps15
        go_wp2_with (first | (go_at_call 35; (with_reducible refine K.out.mono ?_); rintro e wA ⟨rfl, hA⟩) | (go_at_call 32; (with_reducible refine (K2.out _ hA).mono ?_); rintro e wB ⟨rfl, hB⟩; have hB2 := Lib.hid (hA.trans (hB.mono hA.size))) | (go_at_call 37; (with_reducible refine (K3.out _ hB2.out).mono ?_); rintro e wC ⟨Q, rfl, F0, hC⟩; obtain ⟨i0, i1⟩ := HIT.out _ _ _ _ hC.out) | (go_at_call 36; (with_reducible refine (K4.out _ _ _ hC.out).mono ?_); rintro e wD ⟨rfl, F1, hD⟩))
        go_ret
        exact HF.out _ _ _ _ hD.out
    | some r =>
      obtain ⟨n, hn, rfl, rfl⟩ := node_of h2 hr
      have hw : n.r.w = wt := by
        rcases hrow with hrow | ⟨r2, hr2, hw⟩
        · rw [hr] at hrow; cases hrow
        · rw [hr] at hr2; cases hr2; exact hw
      obtain ⟨p1, p2⟩ := Fl.push_there (id := id) (c := co) hok hr hw
      rw [p1, p2]
      have hmem : n.r ∈ s.l := (Fl.row_mem hr).1
      have hli := hS.its n.r hmem
      have hne := (hG.ok n.r hmem).ne
      have hpn : Ff.pushL n.r.its id co ≠ [] := by
        unfold Ff.pushL
        split
        · exact hne
        · split
          · exact hne
          · simp
      have K2 := Lib.hid (fun W (hW : Below (w.alloc (itO id co)).heap.size (w.alloc (itO id co)) W) => queueYes B P R' m _ _ ns x y n W (h1.below (hbox W hW).1) hn)
      obtain ⟨a, b, rfl⟩ := List.append_of_mem hn
      have K3 := Lib.hid (fun W (hW : Below (w.alloc (itO id co)).heap.size (w.alloc (itO id co)) W) => fq_push (FlQ.start h1 (hbox W hW).1 hB) id co hid hli)
      have hsl : s.l = a.map (·.r) ++ n.r :: b.map (·.r) := by rw [← h2]; simp
      have hput := Fl.put_set (a := a.map (·.r)) (b := b.map (·.r)) (r := n.r) (x := { n.r with its := Ff.pushL n.r.its id co }) (by rw [← hsl]; exact hG.nd) rfl hpn
      rw [← hsl] at hput
      have HF := Lib.hid (fun F' W (hW : FlQ w B P R' m s.q (a ++ n :: b) s.g (a ++ n.que F' (Ff.pushL n.r.its id co) :: b) x y W) => h1.fin (s' := { s with l := Fl.put s.l { n.r with its := Ff.pushL n.r.its id co } }) (.int .i64 (Ff.pushE n.r.its id co)) h3 hW.r (by rw [hput]; simp [Rb.Nd.que]) hW.f hW.c)
      have HIT := Lib.hid (fun W (hW : Below (w.alloc (itO id co)).heap.size (w.alloc (itO id co)) W) => it_cells (hbox W hW).2.1)
      generalize n.q = Q at *
      clear h1 h2 h3 hf hid hG hS hB hbox hX hbx hrob KF p1 p2 hok hrow hr hn hw hmem hli hne hpn hsl hput
      go_enter Try.func15, Try.ntmps15
      go_wp2_with (first | (go_at_call 35; (with_reducible refine K.out.mono ?_); rintro e wA ⟨rfl, hA⟩) | (go_at_call 32; (with_reducible refine (K2.out _ hA).mono ?_); rintro e wB ⟨rfl, hB⟩; have hB2 := Lib.hid (hA.trans (hB.mono hA.size)); obtain ⟨i0, i1⟩ := HIT.out _ hB2.out) | (go_at_call 36; (with_reducible refine (K3.out _ hB2.out).mono ?_); rintro e wD ⟨rfl, F', hD⟩))
      go_ret
      exact HF.out _ _ hD.out
end Go.Proofs.Ytgeoebodlcbebaa
