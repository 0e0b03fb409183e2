/-
  A ring of flows: Drop.
-/
import Derived.Test.YtgeoebodlcbebaaFlB
namespace Fl
theorem with_split {s : St} {x r : Rw} {a b : List Rw} (hnd : (s.l.map (·.f)).Nodup) (hl : s.l = a ++ r :: b) (hf : r.f = x.f) : (s.with x).l = (if x.its = [] then a ++ b else a ++ x :: b) ∧ (s.with x).g = (if x.its = [] ∧ a = [] then false else s.g) := by
  rw [with_l, hl]
  rw [hl] at hnd
  refine ⟨?_, ?_⟩
  · rw [put_split hnd hf]
    by_cases h : x.its = [] <;> simp [h]
  · by_cases h : x.its = []
    · cases a with
      | nil => rw [if_pos ⟨h, rfl⟩]; exact with_first (x := x) hl hf h
      | cons r0 a =>
        rw [if_neg (fun e => by cases e.2)]
        exact with_later (x := x) hl (fun e => (nd_split hnd).1 r0 (by simp) (by rw [e, hf]))
    · rw [if_neg (fun e => h e.1), with_stay h]
end Fl
namespace Ff
theorem find_has (l : List E) (id : Int) : (l.find? (fun e => e.1 == id)).isSome = has l id := by
  unfold has
  induction l with
  | nil => rfl
  | cons x t ih =>
    rw [List.find?_cons, List.any_cons]
    cases h : (x.1 == id) with
    | true => rfl
    | false => simpa using ih
end Ff
namespace Go.Proofs.Ytgeoebodlcbebaa
open Go.RowKit
open Rb (Nd)
set_option linter.unusedVariables false

structure RetSA (B R m : Nat) (q : Int) (g : Bool) (a : List Nd) (n : Nd) (b : List Nd) (w : World) (e : Ending) (w' : World) : Prop where
  e : e = .returned (.tuple #[])
  s : ∃ x y, RIn w' B R m q (if n.r.its = [] ∧ a = [] then false else g) (if n.r.its = [] then a ++ b else a ++ n :: b) x y
  c : Chg (footG R m (a ++ n :: b)) w w'
theorem settleAny (B R m : Nat) (q : Int) (g : Bool) (a : List Nd) (n : Nd) (b : List Nd) (x y : Nat → Nat) (w : World) (h : RIn w B R m q g (a ++ n :: b) x y) (hl : n.r.its.length ≤ 1000000) :
    Calls Try.prog 42 #[.pointer (some ⟨R, 0, none⟩), .int .i64 n.r.f] w (RetSA B R m q g a n b w) := by
  by_cases hi : n.r.its = []
  · cases a with
    | nil => exact (settleFirst B R m q g n b x y w h hl).mono fun e w' hr => ⟨hr.e, by have := hr.s; rw [if_pos hi, if_pos hi] at this; rw [if_pos ⟨hi, rfl⟩, if_pos hi]; exact this, hr.c⟩
    | cons v a => exact (settleLater B R m q g v a b n x y w h hi).mono fun e w' hr => ⟨hr.e, by rw [if_neg (fun e => by cases e.2), if_pos hi]; exact hr.s, hr.c⟩
  · exact (settleWaits B R m q g (a ++ n :: b) x y n w h (by simp) hi hl).mono fun e w' hr => by
      obtain ⟨h1, h2⟩ := hr
      subst h2
      exact ⟨h1, by rw [if_neg (fun e => hi e.1), if_neg hi]; exact ⟨x, y, h⟩, Chg.refl _ _⟩
/-- what calls of the ring below leave -/
theorem FIn.fin {w W : World} {B P R m : Nat} {q : Int} {g : Bool} {ns ns' : List Nd} {x y x' y' : Nat → Nat} {F : Nat → Prop} {s' : Fl.St} (v : Value) (h : FIn w B P R m q g ns x y) (hF : ∀ k, F k ↔ footF P R m ns k)
    (hr : RIn W B R m s'.q s'.g ns' x' y') (hl : ns'.map (·.r) = s'.l) (hf : ∀ k, footG R m ns' k → footG R m ns k ∨ w.heap.size ≤ k) (hc : Chg (footG R m ns) w W) : RetF v B P s' F w (.returned v) W := by
  refine ⟨rfl, ⟨footF P R m ns', ⟨R, m, ns', x', y', ⟨hc.keep h.p h.np, hr, fun hk => ?_, h.lo⟩, hl, fun k => Iff.rfl⟩, fun k hk => ?_⟩, hc.mono (fun k hk => Or.inl ((hF k).2 (Or.inr hk)))⟩
  · rcases hf P hk with h1 | h1
    · exact h.np h1
    · have := lt_block h.p; omega
  · rcases hk with e | hk
    · exact Or.inl ((hF k).2 (Or.inl e))
    · rcases hf k hk with h1 | h1
      · exact Or.inl ((hF k).2 (Or.inr h1))
      · right; exact h1
/-- a ring in the course of a call that began at w with the links ns -/
structure FlQ (w : World) (B P R m : Nat) (q : Int) (ns : List Nd) (g : Bool) (ns' : List Nd) (x y : Nat → Nat) (W : World) : Prop where
  r : RIn W B R m q g ns' x y
  f : ∀ k, footG R m ns' k → footG R m ns k ∨ w.heap.size ≤ k
  c : Chg (footG R m ns) w W
  p : w.heap[P]? = some (ringO R) ∧ ¬ footG R m ns P
  b : B ≤ w.heap.size
section
variable {w W W' : World} {B P R m : Nat} {q : Int} {ns : List Nd} {g : Bool} {ns' : List Nd} {x y : Nat → Nat}
theorem FlQ.start (h : FIn w B P R m q g ns x y) (hb : Below w.heap.size w W) (hB : B ≤ w.heap.size) : FlQ w B P R m q ns g ns x y W := ⟨h.r.below hb, fun k hk => Or.inl hk, Chg.of_below hb, ⟨h.p, h.np⟩, hB⟩
theorem FlQ.below (h : FlQ w B P R m q ns g ns' x y W) (hb : Below W.heap.size W W') : FlQ w B P R m q ns g ns' x y W' := ⟨h.r.below hb, h.f, h.c.then hb, h.p, h.b⟩
theorem FlQ.c0 (h : FlQ w B P R m q ns g ns' x y W) : W.cell? ⟨P, 0, none⟩ = some (.pointer (some ⟨R, 0, none⟩)) := by rw [cell_of_row W _ _ _ _ _ (h.c.keep h.p.1 h.p.2)]; rfl
theorem FlQ.chg {ns2 : List Nd} {g2 : Bool} {x2 y2 : Nat → Nat} (h : FlQ w B P R m q ns g ns' x y W) (hr : RIn W' B R m q g2 ns2 x2 y2) (hf : ∀ k, footG R m ns2 k → footG R m ns' k ∨ W.heap.size ≤ k) (hc : Chg (footG R m ns') W W') : FlQ w B P R m q ns g2 ns2 x2 y2 W' :=
  ⟨hr, fun k hk => by
    rcases hf k hk with e | e
    · exact h.f k e
    · exact Or.inr (Nat.le_trans h.c.size e), h.c.trans hc h.f, h.p, h.b⟩
/-- a block outside -/
theorem FlQ.box {k : Nat} {o : Obj} (h : FlQ w B P R m q ns g ns' x y W) (hk : w.heap[k]? = some o) (hn : ¬ footG R m ns k) : W.heap[k]? = some o := h.c.keep hk hn
end
theorem fq_drop {w : World} {B P R m : Nat} {q : Int} {ns : List Nd} {g : Bool} {a b : List Nd} {n : Nd} {x y : Nat → Nat} {W : World} (h : FlQ w B P R m q ns g (a ++ n :: b) x y W) (id : Int) (hid : (Lit.int .i64 id).wf = true) (hl : n.r.its.length ≤ 90000) :
    Calls Try.prog 41 #[.pointer (some ⟨n.q, 0, none⟩), .int .i64 id] W fun e W' => ∃ i c, e = .returned (.tuple #[.agg #[.int .i64 i, .int .i64 c], .bool (Ff.has n.r.its id)]) ∧ ∃ F', Hid (FlQ w B P R m q ns g (a ++ n.que F' (Ff.drop n.r.its id) :: b) x y W') := by
  refine (dropC B n.q n.r.its n.F id W (h.r.qs.q n (by simp)) hid (by omega)).mono fun e W' hr => ?_
  obtain ⟨F', r1, r2, r3⟩ := RIn.queue h.r (Nat.le_trans h.b h.c.size) hr
  refine ⟨((n.r.its.find? (fun e => e.1 == id)).getD (0, 0)).1, ((n.r.its.find? (fun e => e.1 == id)).getD (0, 0)).2, hr.r.trans ?_, F', Lib.hid (h.chg r1 r2 r3)⟩
  unfold itemV
  rw [Ff.find_has]
theorem fq_settle {w : World} {B P R m : Nat} {q : Int} {ns : List Nd} {g : Bool} {a b : List Nd} {n : Nd} {x y : Nat → Nat} {W : World} (h : FlQ w B P R m q ns g (a ++ n :: b) x y W) (hl : n.r.its.length ≤ 90000) :
    Calls Try.prog 42 #[.pointer (some ⟨R, 0, none⟩), .int .i64 n.r.f] W fun e W' => e = .returned (.tuple #[]) ∧ ∃ x2 y2, Hid (FlQ w B P R m q ns (if n.r.its = [] ∧ a = [] then false else g) (if n.r.its = [] then a ++ b else a ++ n :: b) x2 y2 W') := by
  refine (settleAny B R m q g a n b x y W h.r (by omega)).mono fun e W' hr => ⟨hr.e, ?_⟩
  obtain ⟨x2, y2, h1⟩ := hr.s
  refine ⟨x2, y2, Lib.hid (h.chg h1 (fun k hk => Or.inl ?_) hr.c)⟩
  by_cases hi : n.r.its = []
  · rw [if_pos hi] at hk; exact footG_sub k hk
  · rw [if_neg hi] at hk; exact hk
set_option maxRecDepth 100000 in
set_option maxHeartbeats 4000000 in
theorem flDropC (B P : Nat) (s : Fl.St) (F : Nat → Prop) (f id : Int) (w : World) (h : FIs w B P s F) (hG : Fl.Good s) (hS : Fl.Small 90000 s) (hB : B ≤ w.heap.size) (hf : (Lit.int .i64 f).wf = true) (hid : (Lit.int .i64 id).wf = true) :
    Calls Try.prog 18 #[.pointer (some ⟨P, 0, none⟩), .int .i64 f, .int .i64 id] w (RetF (.bool (s.dropB f id)) B P (s.drop f id) F w) := by
  obtain ⟨R, m, ns, x, y, h1, h2, h3⟩ := h
  cases hr : Fl.row s.l f with
  | none =>
    have hd : s.dropB f id = false := by unfold Fl.St.dropB; rw [hr]
    rw [hd, Fl.drop_no hd]
    have K := Lib.hid (queueNo B P R m _ _ ns x y f w h1 hf (node_no h2 hr))
    have K2 := Lib.hid (fun W => nilDrop id W)
    have HF := Lib.hid (fun W (hW : Below w.heap.size w W) => h1.fin (.bool false) h3 (h1.r.below hW) h2 (fun k hk => Or.inl hk) (Chg.of_below hW))
    unfold itemV at K2
    clear h1 h2 h3 hr hf hid hG hS hd hB
    go_enter Try.func18, Try.ntmps18
    go_wp2_with (first | (go_at_call 32; (with_reducible refine K.out.mono ?_); rintro e wA ⟨rfl, hA⟩) | (go_at_call 41; (with_reducible refine (K2.out _).mono ?_); rintro e wB ⟨rfl, hB⟩))
    go_ret
    exact HF.out _ ((hA.trans (hB.mono hA.size)).alloc (Nat.le_trans hA.size hB.size) _)
  | some r =>
    obtain ⟨n, hn, rfl, rfl⟩ := node_of h2 hr
    have hmem : n.r ∈ s.l := (Fl.row_mem hr).1
    have hli := hS.its n.r hmem
    have K := Lib.hid (queueYes B P R m _ _ ns x y n w h1 hn)
    obtain ⟨a, b, rfl⟩ := List.append_of_mem hn
    have hld : (Ff.drop n.r.its id).length ≤ 90000 := Nat.le_trans (Ff.drop_length _ _) hli
    have K2 := Lib.hid (fun W (hW : Below w.heap.size w W) => fq_drop (FlQ.start h1 hW hB) id hid hli)
    cases hh : Ff.has n.r.its id with
    | false =>
      have hd : s.dropB n.r.f id = false := by unfold Fl.St.dropB; rw [hr]; exact hh
      rw [hd, Fl.drop_no hd]
      have hdr : Ff.drop n.r.its id = n.r.its := Ff.drop_no (Ff.has_no.1 hh)
      rw [hh] at K2
      have HF := Lib.hid (fun F' W (hW : FlQ w B P R m s.q (a ++ n :: b) s.g (a ++ n.que F' (Ff.drop n.r.its id) :: b) x y W) => h1.fin (s' := s) (.bool false) h3 hW.r (by rw [hdr, ← h2]; simp [Rb.Nd.que]) hW.f hW.c)
      generalize n.q = Q at *
      clear h1 h2 h3 hr hf hid hG hS hd hB hn hmem hli hld hh
      go_enter Try.func18, Try.ntmps18
      go_wp2_with (first | (go_at_call 32; (with_reducible refine K.out.mono ?_); rintro e wA ⟨rfl, hA⟩) | (go_at_call 41; (with_reducible refine (K2.out _ hA).mono ?_); rintro e wB ⟨i, c, rfl, F', hB⟩))
      go_ret
      exact HF.out _ _ (hB.out.below ((Below.refl _ _).alloc (Nat.le_refl _) _))
    | true =>
      have hd : s.dropB n.r.f id = true := by unfold Fl.St.dropB; rw [hr]; exact hh
      obtain ⟨r2, hr2, _, hdd⟩ := Fl.drop_yes hd
      rw [hr] at hr2
      cases hr2
      rw [hd]
      rw [hh] at K2
      have hsl : s.l = a.map (·.r) ++ n.r :: b.map (·.r) := by rw [← h2]; simp
      obtain ⟨e1, e2⟩ := Fl.with_split (x := { n.r with its := Ff.drop n.r.its id }) hG.nd hsl rfl
      have K3 := Lib.hid (fun F' W (hW : FlQ w B P R m s.q (a ++ n :: b) s.g (a ++ n.que F' (Ff.drop n.r.its id) :: b) x y W) => (show Calls Try.prog 42 #[.pointer (some ⟨R, 0, none⟩), .int .i64 n.r.f] W _ from fq_settle (n := n.que F' (Ff.drop n.r.its id)) hW hld))
      have HF := Lib.hid (fun F' x2 y2 W (hW : FlQ w B P R m s.q (a ++ n :: b) (if Ff.drop n.r.its id = [] ∧ a = [] then false else s.g) (if Ff.drop n.r.its id = [] then a ++ b else a ++ n.que F' (Ff.drop n.r.its id) :: b) x2 y2 W) => h1.fin (s' := s.drop n.r.f id) (.bool true) h3 (by
        rw [hdd]
        have hg : (s.with { n.r with its := Ff.drop n.r.its id }).g = (if Ff.drop n.r.its id = [] ∧ a = [] then false else s.g) := by
          rw [e2]
          simp
        rw [hg]
        exact hW.r) (by
        rw [hdd, e1]
        by_cases hi : Ff.drop n.r.its id = []
        · rw [if_pos hi, if_pos hi]; simp
        · rw [if_neg hi, if_neg hi]; simp [Rb.Nd.que]) hW.f hW.c)
      have HP := Lib.hid (fun F' W (hW : FlQ w B P R m s.q (a ++ n :: b) s.g (a ++ n.que F' (Ff.drop n.r.its id) :: b) x y W) => hW.c0)
      generalize n.q = Q at *
      clear h1 h2 h3 hr hf hid hG hS hd hB hn hmem hli hld hh e1 e2 hsl hdd
      go_enter Try.func18, Try.ntmps18
      go_wp2_with (first | (go_at_call 32; (with_reducible refine K.out.mono ?_); rintro e wA ⟨rfl, hA⟩) | (go_at_call 41; (with_reducible refine (K2.out _ hA).mono ?_); rintro e wB ⟨i, c, rfl, F', hB⟩; have hC := Lib.hid (hB.out.below ((Below.refl _ _).alloc (Nat.le_refl _) (itO i c))); have c0 := HP.out _ _ hC.out) | (go_at_call 42; (with_reducible refine (K3.out _ _ hC.out).mono ?_); rintro e wD ⟨rfl, x2, y2, hD⟩))
      go_ret
      exact HF.out _ _ _ _ hD.out
end Go.Proofs.Ytgeoebodlcbebaa
