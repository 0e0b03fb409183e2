/-
  A ring of flows: the next link visited; a flow appended.
-/
import Derived.Test.YtgeoebodlcbebaaRobB
import Derived.BigRegion
namespace Rb
theorem visHead (ns : List Nd) (k : Nat) (h : (ns.map (·.b)).head? = some k) : Go.Proofs.Ytgeoebodlcbebaa.visOf ns = .pointer (some ⟨k, 0, none⟩) := by
  cases ns with
  | nil => cases h
  | cons n t => simp at h; subst h; rfl
end Rb
namespace Go.Proofs.Ytgeoebodlcbebaa
open Go.RowKit
open Rb (Nd)
set_option linter.unusedVariables false

theorem footR_perm {R m : Nat} {ns ms : List Nd} (hp : ns.Perm ms) (k : Nat) : footR R m ns k ↔ footR R m ms k := by
  unfold footR
  rw [(hp.map (·.b)).mem_iff]
theorem footG_perm {R m : Nat} {ns ms : List Nd} (hp : ns.Perm ms) (k : Nat) : footG R m ns k ↔ footG R m ms k := by
  unfold footG
  rw [footR_perm hp]
  constructor
  · rintro (h | ⟨n, hn, h⟩)
    · exact Or.inl h
    · exact Or.inr ⟨n, hp.mem_iff.1 hn, h⟩
  · rintro (h | ⟨n, hn, h⟩)
    · exact Or.inl h
    · exact Or.inr ⟨n, hp.mem_iff.2 hn, h⟩
theorem QsAt.perm {w : World} {B R m : Nat} {ns ms : List Nd} (h : QsAt w B (footR R m ns) ns) (hp : ns.Perm ms) : QsAt w B (footR R m ms) ms :=
  h.sub (fun n hn => hp.mem_iff.2 hn) (fun k hk => (footR_perm hp k).2 hk)
/-- the next is visited -/
structure RetV (B R m : Nat) (q : Int) (g : Bool) (ns : List Nd) (x y : Nat → Nat) (w : World) (e : Ending) (w' : World) : Prop where
  e : e = .returned (.tuple #[])
  s : RIn w' B R m q g ns x y
  c : Chg (fun k => k = R) w w'
set_option maxRecDepth 100000 in
set_option maxHeartbeats 1000000 in
theorem visitC (B R m : Nat) (q : Int) (g : Bool) (n : Nd) (t : List Nd) (x y : Nat → Nat) (w : World) (h : RIn w B R m q g (n :: t) x y) :
    Calls Try.prog 58 #[.pointer (some ⟨R, 0, none⟩)] w (RetV B R m q false (t ++ [n]) x y w) := by
  have hn : n ∈ n :: t := by simp
  have hp : (n :: t).Perm (t ++ [n]) := (List.perm_append_singleton n t).symm
  obtain ⟨_, _, c2, _⟩ := h.r.cs
  replace c2 : w.cell? ⟨R, 2, none⟩ = some (.pointer (some ⟨n.b, 0, none⟩)) := c2
  obtain ⟨_, _, _, _, _, d5⟩ := h.r.nd6 hn
  have f2 := h.r.fr 2
  have h1 := h.r.vis (.pointer (some ⟨x n.b, 0, none⟩))
  have f3 := h1.fr 3
  obtain ⟨_, _, _, c3⟩ := h1.cs
  have h2 := h1.giv false
  obtain ⟨r1, r2⟩ := Rb.IsRing.turn (r := n.b) (xs := t.map (·.b)) h.ring
  have em : (t ++ [n]).map (·.b) = t.map (·.b) ++ [n.b] := by simp
  have hv : visOf (t ++ [n]) = .pointer (some ⟨x n.b, 0, none⟩) := Rb.visHead _ _ (by rw [em]; exact r2)
  have hoth : ∀ k, k ≠ R → ((w.setCell ⟨R, 2, none⟩ (.pointer (some ⟨x n.b, 0, none⟩))).setCell ⟨R, 3, none⟩ (.bool false)).heap[k]? = w.heap[k]? := fun k hk => (Below.heap_setCell _ _ _ _ hk).trans (Below.heap_setCell _ _ _ _ hk)
  have hfin : RIn ((w.setCell ⟨R, 2, none⟩ (.pointer (some ⟨x n.b, 0, none⟩))).setCell ⟨R, 3, none⟩ (.bool false)) B R m q false (t ++ [n]) x y :=
    ⟨by rw [hv]; exact h2.perm hp, (h.qs.perm hp).keep (fun n' hn' k hk => hoth k (fun e => h.qs.own n' (hp.mem_iff.2 hn') k hk (Or.inl e))), by rw [em]; exact r1, fun k hk => h.lo k ((footG_perm hp k).2 hk)⟩
  have H := Lib.hid hfin
  have HC : Hid (Chg (fun k => k = R) w ((w.setCell ⟨R, 2, none⟩ (.pointer (some ⟨x n.b, 0, none⟩))).setCell ⟨R, 3, none⟩ (.bool false))) := Lib.hid (((Chg.refl (fun k => k = R) w).setCell (p := ⟨R, 2, none⟩) (Or.inl rfl) _).setCell (p := ⟨R, 3, none⟩) (Or.inl rfl) _)
  generalize x n.b = xn at *
  clear h h1 h2 r1 r2 em hv hoth hfin hn hp
  go_enter Try.func58, Try.ntmps58
  go_wp2
  go_end0
  exact ⟨rfl, H.out, HC.out⟩
/-- a ring in the course of a call that began at w0 with the blocks F -/
structure GQ (w0 : World) (F : Nat → Prop) (B R m : Nat) (q : Int) (v : Value) (g : Bool) (ns : List Nd) (aft bef : Nat → Value) (W : World) : Prop where
  r : RAt W R m q v g ns aft bef
  qs : QsAt W B (footR R m ns) ns
  c : Chg F w0 W
  f : ∀ k, footR R m ns k → F k ∨ w0.heap.size ≤ k
section
variable {w0 W W' : World} {F : Nat → Prop} {B R m : Nat} {q : Int} {v : Value} {g : Bool} {ns : List Nd} {aft bef : Nat → Value}
theorem GQ.below (h : GQ w0 F B R m q v g ns aft bef W) (hb : Below W.heap.size W W') : GQ w0 F B R m q v g ns aft bef W' :=
  ⟨h.r.below hb, h.qs.keep (fun n hn k hk => hb.block k ((h.qs.q n hn).lt k hk).2), h.c.then hb, h.f⟩
theorem GQ.drew (h : GQ w0 F B R m q v g ns aft bef W) : GQ w0 F B R m q v g ns aft bef W.drew := h.below (Below.refl _ _).drew
/-- what a store to the ring's own blocks leaves -/
theorem GQ.own {v' : Value} {g' : Bool} {aft' bef' : Nat → Value} (h : GQ w0 F B R m q v g ns aft bef W) (hr : RAt W' R m q v' g' ns aft' bef') (hc : Chg (footR R m ns) W W') : GQ w0 F B R m q v' g' ns aft' bef' W' :=
  ⟨hr, h.qs.keep (fun n hn k hk => hc.block k ((h.qs.q n hn).lt k hk).2 (h.qs.own n hn k hk)), h.c.trans hc h.f, h.f⟩
theorem GQ.join {aft' bef' : Nat → Value} {e : Ending} (h : GQ w0 F B R m q v g ns aft bef W) (hr : RetJn R m q v g ns aft' bef' W e W') : GQ w0 F B R m q v g ns aft' bef' W' :=
  h.own hr.s (hr.c.mono (fun k hk => Or.inl (Or.inr (Or.inr hk))))
theorem GQ.vis (h : GQ w0 F B R m q v g ns aft bef W) (v' : Value) : GQ w0 F B R m q v' g ns aft bef (W.setCell ⟨R, 2, none⟩ v') :=
  h.own (h.r.vis v') ((Chg.refl (footR R m ns) W).setCell (p := ⟨R, 2, none⟩) (Or.inl (Or.inl rfl)) _)
theorem GQ.setB (h : GQ w0 F B R m q v g ns aft bef W) {n : Nd} (hn : n ∈ ns) (y : Value) : GQ w0 F B R m q v g ns aft (updV bef n.b y) (W.setCell ⟨n.b, 4, none⟩ y) :=
  h.own (h.r.setB hn y) ((Chg.refl (footR R m ns) W).setCell (p := ⟨n.b, 4, none⟩) (Or.inl (Or.inr (Or.inr (List.mem_map.2 ⟨n, hn, rfl⟩)))) _)
theorem RIn.gq {x y : Nat → Nat} (h : RIn W B R m q g ns x y) : GQ W (footG R m ns) B R m q (visOf ns) g ns (fun k => pB (x k)) (fun k => pB (y k)) W := ⟨h.r, h.qs, Chg.refl _ _, fun k hk => Or.inl (Or.inl hk)⟩
end
theorem gq_join {w0 : World} {F : Nat → Prop} {B R m : Nat} {q : Int} {v : Value} {g : Bool} {ns : List Nd} {aft bef : Nat → Value} (a b : Nat) (W : World) (h : GQ w0 F B R m q v g ns aft bef W) (ha : a ∈ ns.map (·.b)) (hb : b ∈ ns.map (·.b)) :
    Calls Try.prog 57 #[.pointer (some ⟨a, 0, none⟩), .pointer (some ⟨b, 0, none⟩)] W fun e W' => e = .returned (.tuple #[]) ∧ Hid (GQ w0 F B R m q v g ns (updV aft a (.pointer (some ⟨b, 0, none⟩))) (updV bef b (.pointer (some ⟨a, 0, none⟩))) W') := by
  obtain ⟨x, hx, rfl⟩ := List.mem_map.1 ha
  obtain ⟨y, hy, rfl⟩ := List.mem_map.1 hb
  exact (joinRC R m q v g ns aft bef x y W h.r hx hy).mono fun e W' hr => ⟨hr.e, Lib.hid (h.join hr)⟩
/-- a link made: its row's blocks apart from all -/
theorem GQ.made {w : World} {B R m : Nat} {q : Int} {g : Bool} {ns : List Nd} {x y : Nat → Nat} {W1 W3 : World} {n : Nd} (h : RIn w B R m q g ns x y) (hb1 : Below w.heap.size w W1) (hnb : n.b = w.heap.size + 1) (hz : w.heap.size + 2 ≤ W1.heap.size) (hnew : W1.heap[n.b]? = some (linkO n (.pointer none) (.pointer none)))
    (ht : n.t = 69) (hq : QIs w B n.q n.r.its n.F) (hap : ∀ k, n.F k → ¬ footG R m ns k) (hf : (Lit.int .i64 n.r.f).wf = true) (hno : ∀ n' ∈ ns, n'.r.f ≠ n.r.f)
    (hM : MapL W3 m (n.key :: ns.map Nd.key)) (hc : Chg (fun k => k = m) W1 W3) :
    GQ w (footG R m ns) B R m q (visOf ns) g (n :: ns) (updV (fun k => pB (x k)) n.b (.pointer none)) (updV (fun k => pB (y k)) n.b (.pointer none)) W3 := by
  have hr1 := h.r.below hb1
  obtain ⟨k1, k2⟩ := hr1.kinds
  have hlt := h.r.lt
  have hml := hlt m (Or.inr (Or.inl rfl))
  have hbn : ∀ n' ∈ ns, n'.b ≠ n.b := fun n' hn' e => by have := hlt n'.b (Or.inr (Or.inr (List.mem_map.2 ⟨n', hn', rfl⟩))); omega
  have hold : ∀ k, k < w.heap.size → k ≠ m → W3.heap[k]? = w.heap[k]? := fun k hk hm => (hc.block k (by omega) hm).trans (hb1.block k hk)
  refine ⟨⟨hc.keep hr1.tab k1, hM, fun z hz' => ?_, ?_, ?_, fun z hz' => ?_⟩, ⟨fun z hz' => ?_, fun z hz' => ?_, fun z hz' k hk => ?_, fun z hz1 z' hz2 hne k hk => ?_⟩, ?_, fun k hk => ?_⟩
  · rcases List.mem_cons.1 hz' with e | hz'
    · subst e
      rw [updV_same, updV_same]
      exact hc.keep hnew (by omega)
    · rw [updV_other _ _ (hbn z hz'), updV_other _ _ (hbn z hz')]
      exact hc.keep (hr1.node z hz') (k2 _ (List.mem_map.2 ⟨z, hz', rfl⟩)).2
  · rw [List.map_cons, List.nodup_cons]
    refine ⟨fun hm => ?_, h.r.ndb⟩
    obtain ⟨n', hn', e⟩ := List.mem_map.1 hm
    exact hbn n' hn' e
  · rw [List.map_cons, List.nodup_cons]
    refine ⟨fun hm => ?_, h.r.ndi⟩
    obtain ⟨n', hn', e⟩ := List.mem_map.1 hm
    exact hno n' hn' e
  · rcases List.mem_cons.1 hz' with e | hz'
    · subst e; exact hf
    · exact h.r.small z hz'
  · rcases List.mem_cons.1 hz' with e | hz'
    · subst e; exact ht
    · exact h.qs.src z hz'
  · rcases List.mem_cons.1 hz' with e | hz'
    · subst e
      exact hq.keep (fun k hk => hold k (hq.lt k hk).2 (fun e => hap k hk (Or.inl (Or.inr (Or.inl e)))))
    · have := h.qs.q z hz'
      exact this.keep (fun k hk => hold k (this.lt k hk).2 (fun e => h.qs.own z hz' k hk (Or.inr (Or.inl e))))
  · have hkl : k < w.heap.size := by
      rcases List.mem_cons.1 hz' with e | hz'
      · subst e; exact (hq.lt k hk).2
      · exact ((h.qs.q z hz').lt k hk).2
    have hR : ¬ footR R m ns k := by
      rcases List.mem_cons.1 hz' with e | hz'
      · subst e; exact fun hh => hap k hk (Or.inl hh)
      · exact h.qs.own z hz' k hk
    rintro (e | e | e)
    · exact hR (Or.inl e)
    · exact hR (Or.inr (Or.inl e))
    · rw [List.map_cons] at e
      rcases List.mem_cons.1 e with e | e
      · omega
      · exact hR (Or.inr (Or.inr e))
  · rcases List.mem_cons.1 hz1 with e | i1 <;> rcases List.mem_cons.1 hz2 with e' | i2
    · subst e e'; exact absurd rfl hne
    · subst e; exact fun hk' => hap k hk (Or.inr ⟨z', i2, hk'⟩)
    · subst e'; exact fun hk' => hap k hk' (Or.inr ⟨z, i1, hk⟩)
    · exact h.qs.apart z i1 z' i2 hne k hk
  · exact (Chg.of_below hb1).trans hc (fun k hk => Or.inl (Or.inl (Or.inr (Or.inl hk))))
  · rcases hk with e | e | e
    · exact Or.inl (Or.inl (Or.inl e))
    · exact Or.inl (Or.inl (Or.inr (Or.inl e)))
    · rw [List.map_cons] at e
      rcases List.mem_cons.1 e with e | e
      · right; omega
      · exact Or.inl (Or.inl (Or.inr (Or.inr e)))
/-- the ring behind it -/
theorem GQ.appended {w W : World} {B R m : Nat} {q : Int} {g : Bool} {ns : List Nd} {x y : Nat → Nat} {n : Nd} {v : Value} {aft bef : Nat → Value} {x' y' : Nat → Nat} (hBw : B ≤ w.heap.size) (h : RIn w B R m q g ns x y) (hq : QIs w B n.q n.r.its n.F) (h2 : GQ w (footG R m ns) B R m q v g (n :: ns) aft bef W)
    (hv : v = visOf (ns ++ [n])) (hx : ∀ z ∈ n :: ns, pB (x' z.b) = aft z.b) (hy : ∀ z ∈ n :: ns, pB (y' z.b) = bef z.b) (hr : Rb.IsRing x' y' (ns.map (·.b) ++ [n.b])) :
    RIn W B R m q g (ns ++ [n]) x' y' ∧ Chg (footG R m ns) w W ∧ ∀ k, footG R m (ns ++ [n]) k → footG R m ns k ∨ n.F k ∨ w.heap.size ≤ k := by
  have hp : (n :: ns).Perm (ns ++ [n]) := (List.perm_append_singleton n ns).symm
  have hf : ∀ k, footG R m (ns ++ [n]) k → footG R m ns k ∨ n.F k ∨ w.heap.size ≤ k := fun k hk => by
    rcases (footG_perm hp k).2 hk with hk1 | ⟨z, hz, hk1⟩
    · rcases h2.f k hk1 with e | e
      · exact Or.inl e
      · exact Or.inr (Or.inr e)
    · rcases List.mem_cons.1 hz with e | hz
      · subst e; exact Or.inr (Or.inl hk1)
      · exact Or.inl (Or.inr ⟨z, hz, hk1⟩)
  refine ⟨⟨?_, h2.qs.perm hp, by rw [List.map_append]; exact hr, fun k hk => ?_⟩, h2.c, hf⟩
  · rw [← hv]
    exact (h2.r.perm hp).congr (fun z hz => hx z (hp.mem_iff.2 hz)) (fun z hz => hy z (hp.mem_iff.2 hz))
  · rcases hf k hk with e | e | e
    · exact h.lo k e
    · exact (hq.lt k e).1
    · omega
end Go.Proofs.Ytgeoebodlcbebaa
