/-
  A ring of flows with its queues: how it lies; Flow, Fits, Given.
-/
import Derived.Test.YtgeoebodlcbebaaRobA
namespace Go.Proofs.Ytgeoebodlcbebaa
open Go.RowKit
open Rb (Nd)
set_option linter.unusedVariables false

/-- the queues of a ring's links, apart -/
structure QsAt (w : World) (B : Nat) (X : Nat → Prop) (ns : List Nd) : Prop where
  src : ∀ n ∈ ns, n.t = 69
  q : ∀ n ∈ ns, QIs w B n.q n.r.its n.F
  own : ∀ n ∈ ns, ∀ k, n.F k → ¬ X k
  apart : ∀ n ∈ ns, ∀ n' ∈ ns, n.b ≠ n'.b → ∀ k, n.F k → ¬ n'.F k
theorem QsAt.keep {w w' : World} {B : Nat} {X : Nat → Prop} {ns : List Nd} (h : QsAt w B X ns) (hk : ∀ n ∈ ns, ∀ k, n.F k → w'.heap[k]? = w.heap[k]?) : QsAt w' B X ns :=
  ⟨h.src, fun n hn => (h.q n hn).keep (hk n hn), h.own, h.apart⟩
theorem QsAt.sub {w : World} {B : Nat} {X X' : Nat → Prop} {ns ms : List Nd} (h : QsAt w B X ns) (hs : ∀ n ∈ ms, n ∈ ns) (hX : ∀ k, X' k → X k) : QsAt w B X' ms :=
  ⟨fun n hn => h.src n (hs n hn), fun n hn => h.q n (hs n hn), fun n hn k hk hx => h.own n (hs n hn) k hk (hX k hx), fun n hn n' hn' => h.apart n (hs n hn) n' (hs n' hn')⟩
/-- all blocks -/
def footG (R m : Nat) (ns : List Nd) (k : Nat) : Prop := footR R m ns k ∨ ∃ n ∈ ns, n.F k
/-- the visited link -/
def visOf : List Nd → Value
  | [] => .pointer none
  | n :: _ => .pointer (some ⟨n.b, 0, none⟩)
/-- how a ring lies, by its links: world, base, block, map's block, quantum, given, links, after, before -/
structure RIn (w : World) (B R m : Nat) (q : Int) (g : Bool) (ns : List Nd) (x y : Nat → Nat) : Prop where
  r : RAt w R m q (visOf ns) g ns (fun k => pB (x k)) (fun k => pB (y k))
  qs : QsAt w B (footR R m ns) ns
  ring : Rb.IsRing x y (ns.map (·.b))
  lo : ∀ k, footG R m ns k → B ≤ k
/-- how a ring lies, by what it holds -/
def RIs (w : World) (B R : Nat) (s : Fl.St) (F : Nat → Prop) : Prop :=
  ∃ m ns x y, RIn w B R m s.q s.g ns x y ∧ ns.map (·.r) = s.l ∧ ∀ k, F k ↔ footG R m ns k
section
variable {w w' : World} {B R m : Nat} {q : Int} {g : Bool} {ns : List Nd} {x y : Nat → Nat}
theorem RIn.lt (h : RIn w B R m q g ns x y) : ∀ k, footG R m ns k → B ≤ k ∧ k < w.heap.size := fun k hk => ⟨h.lo k hk, by
  rcases hk with hk | ⟨n, hn, hk⟩
  · exact h.r.lt k hk
  · exact ((h.qs.q n hn).lt k hk).2⟩
theorem RIn.keep (h : RIn w B R m q g ns x y) (hk : ∀ k, footG R m ns k → w'.heap[k]? = w.heap[k]?) : RIn w' B R m q g ns x y :=
  ⟨h.r.keep (fun k hf => hk k (Or.inl hf)), h.qs.keep (fun n hn k hf => hk k (Or.inr ⟨n, hn, hf⟩)), h.ring, h.lo⟩
theorem RIn.below (h : RIn w B R m q g ns x y) (hb : Below w.heap.size w w') : RIn w' B R m q g ns x y := h.keep (fun k hk => hb.block k (h.lt k hk).2)
end
theorem RIs.keep {w w' : World} {B R : Nat} {s : Fl.St} {F : Nat → Prop} (h : RIs w B R s F) (hk : ∀ k, F k → w'.heap[k]? = w.heap[k]?) : RIs w' B R s F := by
  obtain ⟨m, ns, x, y, h1, h2, h3⟩ := h
  exact ⟨m, ns, x, y, h1.keep (fun k hf => hk k ((h3 k).2 hf)), h2, h3⟩
theorem RIs.lt {w : World} {B R : Nat} {s : Fl.St} {F : Nat → Prop} (h : RIs w B R s F) : ∀ k, F k → B ≤ k ∧ k < w.heap.size := by
  obtain ⟨m, ns, x, y, h1, h2, h3⟩ := h
  exact fun k hk => h1.lt k ((h3 k).1 hk)
theorem RIs.below {w w' : World} {B R : Nat} {s : Fl.St} {F : Nat → Prop} (h : RIs w B R s F) (hb : Below w.heap.size w w') : RIs w' B R s F := h.keep (fun k hk => hb.block k (h.lt k hk).2)
theorem RIs.root {w : World} {B R : Nat} {s : Fl.St} {F : Nat → Prop} (h : RIs w B R s F) : F R := by
  obtain ⟨m, ns, x, y, h1, h2, h3⟩ := h
  exact (h3 R).2 (Or.inl (Or.inl rfl))
/-- the link of a number -/
theorem node_of {ns : List Nd} {l : List Fl.Rw} {f : Int} {r : Fl.Rw} (hl : ns.map (·.r) = l) (h : Fl.row l f = some r) : ∃ n ∈ ns, n.r = r ∧ n.r.f = f := by
  obtain ⟨h1, h2⟩ := Fl.row_mem h
  rw [← hl] at h1
  obtain ⟨n, hn, e⟩ := List.mem_map.1 h1
  exact ⟨n, hn, e, by rw [e]; exact h2⟩
theorem node_no {ns : List Nd} {l : List Fl.Rw} {f : Int} (hl : ns.map (·.r) = l) (h : Fl.row l f = none) : ∀ n ∈ ns, n.r.f ≠ f := fun n hn => by
  have := Fl.row_none.1 h
  rw [← hl] at this
  exact this n.r (List.mem_map.2 ⟨n, hn, rfl⟩)
abbrev flO (n : Nd) : Obj := .cells #[n.src, .int .i64 n.r.f, .int .i64 n.r.w, .int .i64 n.r.d] 75
abbrev flO0 : Obj := .cells #[.nilIface, .int .i64 0, .int .i64 0, .int .i64 0] 75
set_option maxRecDepth 100000 in
set_option maxHeartbeats 1000000 in
theorem flowYes (R m : Nat) (q : Int) (v : Value) (g : Bool) (ns : List Nd) (aft bef : Nat → Value) (n : Nd) (w : World) (h : RAt w R m q v g ns aft bef) (hn : n ∈ ns) :
    Calls Try.prog 34 #[.pointer (some ⟨R, 0, none⟩), .int .i64 n.r.f] w (Ret (.tuple #[flV n, .bool true]) w) := by
  have g1 : RAt (w.alloc flO0) R m q v g ns aft bef := h.below ((Below.refl _ _).alloc (Nat.le_refl _) _)
  obtain ⟨_, c1, _, _⟩ := g1.cs
  have r1 := g1.look hn
  obtain ⟨d0, d1, d2, d3, _, _⟩ := g1.nd6 hn
  have hb : Below w.heap.size w (w.alloc flO0) := (Below.refl _ _).alloc (Nat.le_refl _) _
  have HB := Lib.hid hb
  unfold flV Nd.src
  unfold Nd.src at d0
  generalize n.t = T at *
  generalize n.q = Q at *
  generalize n.r.f = f at *
  generalize n.r.w = wt at *
  generalize n.r.d = df at *
  generalize n.b = b at *
  clear h g1 hn hb
  go_enter Try.func34, Try.ntmps34
  go_wp2
  try simp only [Exit.inBlock, Exit.then]
  refine bodyPost_ret (v := .tuple #[.agg #[.iface T (.pointer (some ⟨Q, 0, none⟩)), .int .i64 f, .int .i64 wt, .int .i64 df], .bool true]) ?_ rfl ?_
  · rw [results_cell_tmp rfl]; go_simp; (try rfl)
  · exact ⟨rfl, (Below.refl _ _).alloc (Nat.le_refl _) _⟩
set_option maxRecDepth 100000 in
set_option maxHeartbeats 1000000 in
theorem flowNo (R m : Nat) (q : Int) (v : Value) (g : Bool) (ns : List Nd) (aft bef : Nat → Value) (f : Int) (w : World) (h : RAt w R m q v g ns aft bef) (hf : (Lit.int .i64 f).wf = true) (hn : ∀ n ∈ ns, n.r.f ≠ f) :
    Calls Try.prog 34 #[.pointer (some ⟨R, 0, none⟩), .int .i64 f] w (Ret (.tuple #[flZ, .bool false]) w) := by
  have g1 : RAt (w.alloc flO0) R m q v g ns aft bef := h.below ((Below.refl _ _).alloc (Nat.le_refl _) _)
  obtain ⟨_, c1, _, _⟩ := g1.cs
  have r1 := g1.lookNo hf hn
  have hb : Below w.heap.size w (w.alloc flO0) := (Below.refl _ _).alloc (Nat.le_refl _) _
  have HB := Lib.hid hb
  clear h g1 hn hb hf
  go_enter Try.func34, Try.ntmps34
  go_wp2
  try simp only [Exit.inBlock, Exit.then]
  refine bodyPost_ret (v := .tuple #[.agg #[.nilIface, .int .i64 0, .int .i64 0, .int .i64 0], .bool false]) ?_ rfl ?_
  · rw [results_cell_tmp rfl]; go_simp; (try rfl)
  · exact ⟨rfl, HB.out⟩
/-- Fits -/
def fits (l : List Fl.Rw) (f wt : Int) : Bool := decide (f ≥ 0) && decide (wt ≥ 1) && decide (wt ≤ 16) && (match Fl.row l f with | none => true | some r => decide (r.w = wt))
set_option maxRecDepth 100000 in
set_option maxHeartbeats 1000000 in
theorem fitsC (B R : Nat) (s : Fl.St) (F : Nat → Prop) (f wt : Int) (w : World) (h : RIs w B R s F) (hf : (Lit.int .i64 f).wf = true) :
    Calls Try.prog 35 #[.pointer (some ⟨R, 0, none⟩), .int .i64 f, .int .i64 wt] w (Ret (.bool (fits s.l f wt)) w) := by
  obtain ⟨m, ns, x, y, h1, h2, h3⟩ := h
  unfold fits
  cases hr : Fl.row s.l f with
  | none =>
    have K := Lib.hid (flowNo R m _ _ _ ns _ _ f w h1.r hf (node_no h2 hr))
    clear h1 h2 h3 hr hf
    cases t1 : decide (f ≥ 0) <;> cases t2 : decide (wt ≥ 1) <;> cases t3 : decide (wt ≤ 16) <;> (
      go_enter Try.func35, Try.ntmps35
      go_wp2_with (go_at_call 34; (with_reducible refine K.out.mono ?_); rintro e wA ⟨rfl, hA⟩)
      go_ret
      exact ⟨rfl, hA.alloc hA.size _⟩)
  | some r =>
    obtain ⟨n, hn, rfl, rfl⟩ := node_of h2 hr
    have K := Lib.hid (flowYes R m _ _ _ ns _ _ n w h1.r hn)
    clear h1 h2 h3 hr hf hn
    unfold flV Nd.src at K
    dsimp only
    generalize n.t = T at *
    generalize n.q = Q at *
    generalize n.r.f = f at *
    generalize n.r.w = wn at *
    generalize n.r.d = df at *
    cases t1 : decide (f ≥ 0) <;> cases t2 : decide (wt ≥ 1) <;> cases t3 : decide (wt ≤ 16) <;> cases t4 : decide (wn = wt) <;> (
      have t5 := Lib.hid t4
      have t6 : (wn == wt) = _ := (show (wn == wt) = decide (wn = wt) by by_cases h : wn = wt <;> simp [h]).trans t4
      clear t4
      go_enter Try.func35, Try.ntmps35
      go_wp2_with (go_at_call 34; (with_reducible refine K.out.mono ?_); rintro e wA ⟨rfl, hA⟩)
      go_ret
      exact ⟨rfl, hA.alloc hA.size _⟩)
set_option maxRecDepth 100000 in
theorem robGivenC (B R : Nat) (s : Fl.St) (F : Nat → Prop) (w : World) (h : RIs w B R s F) :
    Calls Try.prog 46 #[.pointer (some ⟨R, 0, none⟩)] w (Same (.bool s.g) w) := by
  obtain ⟨m, ns, x, y, h1, h2, h3⟩ := h
  obtain ⟨_, _, _, c3⟩ := h1.r.cs
  generalize s.g = g at *
  clear h1 h2 h3
  go_enter Try.func46, Try.ntmps46
  go_wp2
  go_ret
  exact ⟨rfl, rfl⟩
end Go.Proofs.Ytgeoebodlcbebaa
