/-
  The two wheels beside a block that stays (an act's box): each call.
-/
import Derived.Test.YtmglpjbikknjgaaWhM
namespace Go.Proofs.Ytmglpjbikknjgaa
open Go.RowKit
set_option linter.unusedVariables false

structure TwoQ (Is : WS) (w0 : World) (B P R : Nat) (v : Value) (nw : Int) (lw : List Wh.E) (nr : Int) (lr : List Wh.E) (Q : Nat) (o : Obj) (w : World) : Prop where
  s : ∃ F, Is w B P nw lw F ∧ (∀ k, F k → ¬ RefF R v k) ∧ ¬ F Q
  r : Ref w B R nr v lr
  q : ¬ RefF R v Q
  c : w.heap[Q]? = some o
  b : Below B w0 w
theorem TwoQ.two {Is : WS} {w0 : World} {B P R : Nat} {v : Value} {nw nr : Int} {lw lr : List Wh.E} {Q : Nat} {o : Obj} {w : World} (h : TwoQ Is w0 B P R v nw lw nr lr Q o w) : Two Is w0 B P R v nw lw nr lr w := by
  obtain ⟨F, h1, h2, _⟩ := h.s
  exact ⟨⟨F, h1, h2⟩, h.r, h.b⟩
theorem TwoQ.size {Is : WS} {w0 : World} {B P R : Nat} {v : Value} {nw nr : Int} {lw lr : List Wh.E} {Q : Nat} {o : Obj} {w : World} (h : TwoQ Is w0 B P R v nw lw nr lr Q o w) : B ≤ w.heap.size := h.two.size
theorem Two.withQ {Is : WS} (K : WheelC Is) {w0 : World} {B P R : Nat} {v : Value} {nw nr : Int} {lw lr : List Wh.E} {w : World} (h : Two Is w0 B P R v nw lw nr lr w) (o : Obj) : TwoQ Is w0 B P R v nw lw nr lr w.heap.size o (w.alloc o) := by
  have hb : Below w.heap.size w (w.alloc o) := (Below.refl _ _).alloc (Nat.le_refl _) _
  obtain ⟨F, h1, h2⟩ := h.s
  exact ⟨⟨F, K.keep h1 hb.size (fun k hk => hb.block k (K.lt h1 k hk).2), h2, fun hf => by have := (K.lt h1 _ hf).2; omega⟩, h.r.below hb, fun hf => by have := (h.r.lt _ hf).2; omega, heap_alloc_new _ _, h.b.trans (hb.mono h.size)⟩
theorem TwoQ.below {Is : WS} (K : WheelC Is) {w0 : World} {B P R : Nat} {v : Value} {nw nr : Int} {lw lr : List Wh.E} {Q : Nat} {o : Obj} {w w' : World} (h : TwoQ Is w0 B P R v nw lw nr lr Q o w) (hb : Below w.heap.size w w') : TwoQ Is w0 B P R v nw lw nr lr Q o w' := by
  obtain ⟨F, h1, h2, h3⟩ := h.s
  exact ⟨⟨F, K.keep h1 hb.size (fun k hk => hb.block k (K.lt h1 k hk).2), h2, h3⟩, h.r.below hb, h.q, (hb.block Q (lt_block h.c)).trans h.c, h.b.trans (hb.mono h.size)⟩
theorem TwoQ.wheel {Is : WS} (K : WheelC Is) {w0 : World} {B P R : Nat} {v : Value} {nw nr n' : Int} {lw lr l' : List Wh.E} {Q : Nat} {o : Obj} {w w' : World} {F F' : Nat → Prop} (h : TwoQ Is w0 B P R v nw lw nr lr Q o w)
    (hI : Is w B P nw lw F) (hd : ∀ k, F k → ¬ RefF R v k) (hq : ¬ F Q) (hI' : Is w' B P n' l' F') (hF : ∀ k, F' k → F k ∨ w.heap.size ≤ k) (hc : Chg F w w') : TwoQ Is w0 B P R v n' l' nr lr Q o w' := by
  have h2 := Two.wheel K h.r h.b h.size hI hd hI' hF hc
  refine ⟨⟨F', hI', fun k hk hr => ?_, fun hf => ?_⟩, h2.r, h.q, hc.keep h.c hq, h2.b⟩
  · rcases hF k hk with e | e
    · exact hd k e hr
    · have := (h.r.lt k hr).2; omega
  · rcases hF Q hf with e | e
    · exact hq e
    · have := lt_block h.c; omega
theorem TwoQ.ref {Is : WS} (K : WheelC Is) {w0 : World} {B P R : Nat} {v v' : Value} {nw nr n' : Int} {lw lr l' : List Wh.E} {Q : Nat} {o : Obj} {w w' : World} (h : TwoQ Is w0 B P R v nw lw nr lr Q o w)
    (hr : Ref w' B R n' v' l') (hl : ∀ k, v'.ownBlock = some k → v.ownBlock = some k ∨ w.heap.size ≤ k) (hc : Chg (RefF R v) w w') : TwoQ Is w0 B P R v' nw lw n' l' Q o w' := by
  obtain ⟨F, h1, h2, h3⟩ := h.s
  refine ⟨⟨F, K.keep h1 hc.size (fun k hk => hc.block k (K.lt h1 k hk).2 (h2 k hk)), fun k hk hf => ?_, h3⟩, hr, fun hf => ?_, hc.keep h.c h.q, h.b.trans (hc.below (fun k hk => (h.r.lt k hk).1) h.size)⟩
  · rcases hf with e | e
    · exact h2 k hk (Or.inl e)
    · rcases hl k e with e | e
      · exact h2 k hk (Or.inr e)
      · have := (K.lt h1 k hk).2; omega
  · rcases hf with e | e
    · exact h.q (Or.inl e)
    · rcases hl Q e with e | e
      · exact h.q (Or.inr e)
      · have := lt_block h.c; omega

/-- Put of the wheel, then of the document's -/
theorem putQ {Is : WS} (K : WheelC Is) {w0 : World} {B P R : Nat} {v : Value} {n : Int} {l : List Wh.E} {Q : Nat} {o : Obj} {id a : Int} (h1 : (Lit.int .i64 id).wf = true) (h2 : (Lit.int .u64 a).wf = true) (hn : (l.map (·.1)).Nodup) (hl : l.length ≤ 1000) (w : World) (h : TwoQ Is w0 B P R v n l n l Q o w) :
    Calls Try.prog 9 #[.pointer (some ⟨P, 0, none⟩), .int .i64 id, .int .u64 a] w fun e w' => e = .returned (.int .i64 (Wh.putErr l id)) ∧ TwoQ Is w0 B P R v n (Wh.putL l id a) n l Q o w' := by
  obtain ⟨F, g1, g2, g3⟩ := h.s
  refine (K.put id a w B P n l F h1 h2 hn hl g1).mono fun e w' hr => ?_
  obtain ⟨F', e1, e2⟩ := hr.s
  exact ⟨hr.r, h.wheel K g1 g2 g3 e1 e2 hr.c⟩
theorem refPutQ {Is : WS} (K : WheelC Is) {w0 : World} {B P R : Nat} {v : Value} {n nw : Int} {l lw : List Wh.E} {Q : Nat} {o : Obj} {id a : Int} (hl : l.length ≤ 1000) (w : World) (h : TwoQ Is w0 B P R v nw lw n l Q o w) :
    Calls Try.prog 10 #[.pointer (some ⟨R, 0, none⟩), .int .i64 id, .int .u64 a] w fun e w' => e = .returned (.int .i64 (Wh.putErr l id)) ∧ ∃ v', TwoQ Is w0 B P R v' nw lw n (Wh.putL l id a) Q o w' := by
  refine (refPutC id a n B R v l w h.r (by omega)).mono fun e w' hr => ?_
  obtain ⟨v', e1, e2⟩ := hr.s
  exact ⟨hr.r, v', h.ref K e1 e2 hr.c⟩
theorem has_without (l : List Wh.E) (id : Int) : decide ((Wh.without l id).length < l.length) = Wh.has l id := by
  cases h : Wh.has l id with
  | true =>
    apply decide_eq_true
    cases hf : Wh.find l id with
    | none => simp [Wh.has, hf] at h
    | some a =>
      have hm := Wh.find_mem hf
      refine Nat.lt_of_le_of_ne (without_le l id) (fun e => ?_)
      have := List.length_filter_eq_length_iff.1 e _ hm
      simp at this
  | false =>
    apply decide_eq_false
    have hf : Wh.find l id = none := by
      cases hf : Wh.find l id with
      | none => rfl
      | some a => simp [Wh.has, hf] at h
    have : Wh.without l id = l := List.filter_eq_self.2 (fun e he => by simpa using Wh.find_none.1 hf e he)
    rw [this]; omega
/-- Drop -/
theorem dropQ {Is : WS} (K : WheelC Is) {w0 : World} {B P R : Nat} {v : Value} {n : Int} {l : List Wh.E} {Q : Nat} {o : Obj} {id : Int} (h1 : (Lit.int .i64 id).wf = true) (hn : (l.map (·.1)).Nodup) (hl : l.length ≤ 1000) (w : World) (h : TwoQ Is w0 B P R v n l n l Q o w) :
    Calls Try.prog 11 #[.pointer (some ⟨P, 0, none⟩), .int .i64 id] w fun e w' => e = .returned (.bool (Wh.has l id)) ∧ TwoQ Is w0 B P R v n (Wh.without l id) n l Q o w' := by
  obtain ⟨F, g1, g2, g3⟩ := h.s
  refine (K.drop id w B P n l F h1 hn hl g1).mono fun e w' hr => ?_
  obtain ⟨F', e1, e2⟩ := hr.s
  exact ⟨hr.r, h.wheel K g1 g2 g3 e1 e2 hr.c⟩
theorem refDropQ {Is : WS} (K : WheelC Is) {w0 : World} {B P R : Nat} {v : Value} {n nw : Int} {l lw : List Wh.E} {Q : Nat} {o : Obj} {id : Int} (hl : l.length ≤ 1000) (w : World) (h : TwoQ Is w0 B P R v nw lw n l Q o w) :
    Calls Try.prog 12 #[.pointer (some ⟨R, 0, none⟩), .int .i64 id] w fun e w' => e = .returned (.bool (Wh.has l id)) ∧ ∃ v', TwoQ Is w0 B P R v' nw lw n (Wh.without l id) Q o w' := by
  refine (refDropC id n B R v l w h.r (by omega)).mono fun e w' hr => ?_
  obtain ⟨v', e1, e2⟩ := hr.s
  exact ⟨by rw [hr.r, has_without], v', h.ref K e1 e2 hr.c⟩
/-- Turn -/
theorem ViewO.keep {w w' : World} {a : Option Addr} {l : List Wh.E} (h : ViewO w a l) (hs : w.heap.size ≤ w'.heap.size) (hk : ∀ g off, a = some ⟨g, off, none⟩ → g < w.heap.size → w'.heap[g]? = w.heap[g]?) : ViewO w' a l := by
  refine ⟨fun h0 => ?_⟩
  obtain ⟨g, off, ha, hg, hc⟩ := h.is h0
  have e := hk g off ha hg
  have ec : ∀ k, w'.cell? ⟨g, k, none⟩ = w.cell? ⟨g, k, none⟩ := fun k => World.cell?_of_block e
  exact ⟨g, off, ha, Nat.lt_of_lt_of_le hg hs, fun j hj => by rw [ec, ec, ec]; exact hc j hj⟩
theorem turnQ {Is : WS} (K : WheelC Is) {w0 : World} {B P R : Nat} {v : Value} {n : Int} {l : List Wh.E} {Q : Nat} {o : Obj} {tm : Int} (h1 : (Lit.int .u64 tm).wf = true) (hn : (l.map (·.1)).Nodup) (hl : l.length ≤ 1000) (w : World) (h : TwoQ Is w0 B P R v n l n l Q o w) :
    Calls Try.prog 14 #[.pointer (some ⟨P, 0, none⟩), .int .u64 tm] w fun e w' => ∃ a cap, e = .returned (.slice a (Wh.turned l tm).length cap) ∧ (ViewO w' a (Wh.turned l tm) ∧ ∀ g off, a = some ⟨g, off, none⟩ → ¬ RefF R v g) ∧ TwoQ Is w0 B P R v (later n tm) (Wh.rest l tm) n l Q o w' := by
  obtain ⟨F, g1, g2, g3⟩ := h.s
  refine (K.turn tm w B P n l F h1 hn hl g1).mono fun e w' hr => ?_
  obtain ⟨F', e1, e2⟩ := hr.s
  obtain ⟨a, cap, r1, r2, r3, _⟩ := hr.r
  refine ⟨a, cap, r1, ⟨r2, fun g off ha hf => ?_⟩, h.wheel K g1 g2 g3 e1 e2 hr.c⟩
  rcases r3 g off ha with e | e
  · exact g2 g e hf
  · have := (h.r.lt g hf).2; omega
theorem refTurnQ {Is : WS} (K : WheelC Is) {w0 : World} {B P R : Nat} {v : Value} {n nw : Int} {l lw : List Wh.E} {Q : Nat} {o : Obj} {tm : Int} (hn : (l.map (·.1)).Nodup) (hl : l.length ≤ 1000) {a : Option Addr} {T : List Wh.E} (w : World) (h : TwoQ Is w0 B P R v nw lw n l Q o w) (ha : ViewO w a T ∧ ∀ g off, a = some ⟨g, off, none⟩ → ¬ RefF R v g) :
    Calls Try.prog 15 #[.pointer (some ⟨R, 0, none⟩), .int .u64 tm] w fun e w' => ∃ a2 cap2, e = .returned (.slice a2 (Wh.turned l tm).length cap2) ∧ (ViewO w' a T ∧ ViewO w' a2 (Wh.turned l tm)) ∧ ∃ v', TwoQ Is w0 B P R v' nw lw (later n tm) (Wh.rest l tm) Q o w' := by
  refine (refTurnC n tm B R v l w h.r (by omega) hn).mono fun e w' hr => ?_
  obtain ⟨u, r1, r2, v', r3, r4, _⟩ := hr.r
  obtain ⟨a2, cap2, rfl, hv⟩ := r2.view
  exact ⟨a2, cap2, r1, ⟨ha.1.keep hr.c.size (fun g off e hg => hr.c.block g hg (ha.2 g off e)), hv.o⟩, v', h.ref K r3 r4 hr.c⟩
end Go.Proofs.Ytmglpjbikknjgaa
