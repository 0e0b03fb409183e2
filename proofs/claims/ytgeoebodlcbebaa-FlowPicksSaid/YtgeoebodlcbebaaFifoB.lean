/-
  A queue: New, Has, Len, Cost, Head.
-/
import Derived.Test.YtgeoebodlcbebaaFifoA
import Derived.Laws.ResultCell
namespace Go.Proofs.Ytgeoebodlcbebaa
open Go.RowKit
open Ff (Nd)
set_option linter.unusedVariables false

/-- how a queue lies: world, base, its block, its items, its blocks -/
def QIs (w : World) (B P : Nat) (l : List Ff.E) (F : Nat → Prop) : Prop :=
  ∃ m s ns aft bef, JAt w P m (Ff.cost l) (⟨s, 0, 0⟩ :: ns) aft bef ∧ Ff.Ring aft bef 0 (ns.map (·.id)) ∧ ns.map Nd.kv = l ∧ Ff.Good l ∧ (∀ k, F k ↔ footJ P m (⟨s, 0, 0⟩ :: ns) k) ∧ ∀ k, F k → B ≤ k
theorem QIs.keep {w w' : World} {B P : Nat} {l : List Ff.E} {F : Nat → Prop} (h : QIs w B P l F) (hk : ∀ k, F k → w'.heap[k]? = w.heap[k]?) : QIs w' B P l F := by
  obtain ⟨m, s, ns, aft, bef, h1, h2, h3, h4, h5, h6⟩ := h
  exact ⟨m, s, ns, aft, bef, h1.keep (fun k hf => hk k ((h5 k).2 hf)), h2, h3, h4, h5, h6⟩
theorem QIs.lt {w : World} {B P : Nat} {l : List Ff.E} {F : Nat → Prop} (h : QIs w B P l F) : ∀ k, F k → B ≤ k ∧ k < w.heap.size := by
  obtain ⟨m, s, ns, aft, bef, h1, h2, h3, h4, h5, h6⟩ := h
  exact fun k hk => ⟨h6 k hk, h1.lt k ((h5 k).1 hk)⟩
theorem QIs.good {w : World} {B P : Nat} {l : List Ff.E} {F : Nat → Prop} (h : QIs w B P l F) : Ff.Good l := by
  obtain ⟨m, s, ns, aft, bef, h1, h2, h3, h4, h5, h6⟩ := h
  exact h4
theorem QIs.below {w w' : World} {B P : Nat} {l : List Ff.E} {F : Nat → Prop} (h : QIs w B P l F) (hb : Below w.heap.size w w') : QIs w' B P l F :=
  h.keep (fun k hk => hb.block k (h.lt k hk).2)
/-- it returns r; the queue holds l' -/
structure RetQ (r : Value) (B P : Nat) (l' : List Ff.E) (F : Nat → Prop) (w : World) (e : Ending) (w' : World) : Prop where
  r : e = .returned r
  s : ∃ F', QIs w' B P l' F' ∧ ∀ k, F' k → F k ∨ w.heap.size ≤ k
  c : Chg F w w'
/-- an item, or none -/
def itemV (o : Option Ff.E) : Value := .tuple #[.agg #[.int .i64 (o.getD (0, 0)).1, .int .i64 (o.getD (0, 0)).2], .bool o.isSome]
theorem wf_i64' {v : Int} (h0 : -9223372036854775808 ≤ v) (h1 : v ≤ 9223372036854775807) : (Lit.int .i64 v).wf = true := by
  have e1 : IntKind.i64.min = -9223372036854775808 := by decide
  have e2 : IntKind.i64.max = 9223372036854775807 := by decide
  simp [Lit.wf]
  omega
theorem at_has {s : Nat} {ns : List Nd} {id : Int} (h : id ≠ 0) : (Ff.at_ (⟨s, 0, 0⟩ :: ns) id).isSome = Ff.has (ns.map Nd.kv) id := by
  have e : Ff.at_ (⟨s, 0, 0⟩ :: ns) id = Ff.at_ ns id := by
    show (if (0 : Int) = id then _ else _) = _
    rw [if_neg (fun e => h e.symm)]
  rw [e]
  cases hf : Ff.at_ ns id with
  | none =>
    have : Ff.has (ns.map Nd.kv) id = false := Ff.has_no.2 (fun x hx => by
      obtain ⟨n, hn, rfl⟩ := List.mem_map.1 hx
      exact Ff.at_none.1 hf n hn)
    rw [this]; rfl
  | some p =>
    obtain ⟨n, hn, h1, h2⟩ := Ff.at_of hf
    have : Ff.has (ns.map Nd.kv) id = true := by
      unfold Ff.has
      rw [List.any_eq_true]
      exact ⟨n.kv, List.mem_map.2 ⟨n, hn, rfl⟩, by simpa [Nd.kv] using h1⟩
    rw [this]; rfl

set_option maxRecDepth 100000 in
theorem hasC (B P : Nat) (l : List Ff.E) (F : Nat → Prop) (id : Int) (w : World) (h : QIs w B P l F) (hid : (Lit.int .i64 id).wf = true) :
    Calls Try.prog 55 #[.pointer (some ⟨P, 0, none⟩), .int .i64 id] w (Same (.bool (Ff.has l id)) w) := by
  obtain ⟨m, s, ns, aft, bef, h1, h2, rfl, h4, h5, h6⟩ := h
  by_cases h0 : id = 0
  · have hn : Ff.has (ns.map Nd.kv) id = false := Ff.has_no.2 (fun e he => by have := (h4.id e he).1; omega)
    rw [hn]
    subst h0
    clear h1 h2 h4 h5 h6 hn
    go_enter Try.func55, Try.ntmps55
    go_wp2
    go_ret
    exact ⟨rfl, rfl⟩
  · obtain ⟨v, hrun⟩ := run_lookOk h1.map id hid
    rw [at_has h0] at hrun
    have c0 := h1.c0
    have t0 : (id == 0) = false := by simpa using h0
    generalize Ff.has (ns.map Nd.kv) id = b at *
    clear h1 h2 h4 h5 h6 h0
    go_enter Try.func55, Try.ntmps55
    go_wp2
    go_ret
    exact ⟨rfl, rfl⟩
set_option maxRecDepth 100000 in
theorem lenC (B P : Nat) (l : List Ff.E) (F : Nat → Prop) (w : World) (h : QIs w B P l F) (hl : l.length ≤ 1000000) :
    Calls Try.prog 33 #[.pointer (some ⟨P, 0, none⟩)] w (Same (.int .i64 (l.length : Int)) w) := by
  obtain ⟨m, s, ns, aft, bef, h1, h2, rfl, h4, h5, h6⟩ := h
  have c0 := h1.c0
  have HM := Lib.hid h1.map
  have hn : (((⟨s, 0, 0⟩ :: ns : List Nd).length : Nat) : Int) = (((ns.map Nd.kv).length : Nat) : Int) + 1 := by simp
  generalize (⟨s, 0, 0⟩ :: ns : List Nd) = ns1 at *
  have hn2 : ((ns.map Nd.kv).length : Int) ≤ 1000000 := by omega
  have hn3 : 0 ≤ ((ns.map Nd.kv).length : Int) := by omega
  generalize ((ns.map Nd.kv).length : Int) = N at *
  clear h1 h2 h4 h5 h6 hl
  have HN := Lib.hid hn
  clear hn
  go_enter Try.func33, Try.ntmps33
  go_wp2_with (at_len; refine wpLenL _ rfl _ rfl m ns1 rfl HM.out ?_; rw [HN.out])
  go_ret
  exact ⟨rfl, rfl⟩
/-- a queue in a grown world -/
theorem JAt.grown {w : World} {P m : Nat} {c : Int} {ns : List Nd} {aft bef : Int → Int} (h : JAt w P m c ns aft bef) (o : Obj) : JAt (w.alloc o) P m c ns aft bef :=
  h.keep (fun k hk => Lib.alloc_old _ _ _ (h.lt k hk))
abbrev zeroI : Obj := .cells #[.int .i64 0, .int .i64 0] 48
set_option maxRecDepth 100000 in
theorem headNone (B P : Nat) (F : Nat → Prop) (w : World) (h : QIs w B P [] F) :
    Calls Try.prog 77 #[.pointer (some ⟨P, 0, none⟩)] w (Ret (itemV none) w) := by
  have hb : Below w.heap.size w (w.alloc zeroI) := (Below.refl _ _).alloc (Nat.le_refl _) _
  have K := Lib.hid (lenC B P [] F _ (h.below hb) (by simp))
  have HB := Lib.hid hb
  clear h hb
  go_enter Try.func77, Try.ntmps77
  go_wp2_with (go_at_call 33; (with_reducible refine K.out.mono ?_); rintro e wA ⟨rfl, rfl⟩)
  (try simp only [Exit.inBlock, Exit.then])
  refine bodyPost_ret (v := itemV none) ?_ rfl ?_
  · rw [results_cell_tmp rfl]; go_simp; (try rfl)
  · exact ⟨rfl, (Below.refl _ _).alloc (Nat.le_refl _) _⟩
set_option maxRecDepth 100000 in
set_option maxHeartbeats 1000000 in
theorem headSome (B P : Nat) (x : Ff.E) (l : List Ff.E) (F : Nat → Prop) (w : World) (h : QIs w B P (x :: l) F) (hl : l.length ≤ 100000) :
    Calls Try.prog 77 #[.pointer (some ⟨P, 0, none⟩)] w (Ret (itemV (some x)) w) := by
  have hb : Below w.heap.size w (w.alloc zeroI) := (Below.refl _ _).alloc (Nat.le_refl _) _
  have K := Lib.hid (lenC B P (x :: l) F _ (h.below hb) (by simp; omega))
  have t0 : ((((x :: l).length : Nat) : Int) == 0) = false := by simp; omega
  have HB := Lib.hid hb
  obtain ⟨m, s, ns, aft, bef, h1, h2, h3, h4, h5, h6⟩ := h
  cases ns with
  | nil => simp at h3
  | cons n ns =>
    have hx : x = n.kv := by simpa using (List.cons.inj h3).1.symm
    have hf := h2.first
    have hf2 : aft 0 = n.id := by simpa using hf
    have g := h1.grown zeroI
    have c0 := g.c0
    have r0 := g.look (n := ⟨s, 0, 0⟩) (by simp)
    obtain ⟨_, _, _, d0⟩ := g.n0 (n := ⟨s, 0, 0⟩) (by simp)
    have hn : n ∈ (⟨s, 0, 0⟩ :: n :: ns : List Nd) := by simp
    have r1 := g.look hn
    obtain ⟨d1, d2, _, _⟩ := g.n0 hn
    rw [hf2] at d0
    subst hx
    have e1 : itemV (some n.kv) = .tuple #[.agg #[.int .i64 n.id, .int .i64 n.c], .bool true] := rfl
    rw [e1]
    generalize (((n.kv :: l).length : Nat) : Int) = N at *
    generalize n.id = id at *
    generalize n.c = c at *
    generalize n.b = b at *
    clear hb hl h1 h2 h3 h4 h5 h6 hf hf2 g e1
    go_enter Try.func77, Try.ntmps77
    go_wp2_with (go_at_call 33; (with_reducible refine K.out.mono ?_); rintro e wA ⟨rfl, rfl⟩)
    (try simp only [Exit.inBlock, Exit.then])
    refine bodyPost_ret (v := .tuple #[.agg #[.int .i64 id, .int .i64 c], .bool true]) ?_ rfl ?_
    · rw [results_cell_tmp rfl]; go_simp; (try rfl)
    · exact ⟨rfl, (Below.refl _ _).alloc (Nat.le_refl _) _⟩
theorem headC (B P : Nat) (l : List Ff.E) (F : Nat → Prop) (w : World) (h : QIs w B P l F) (hl : l.length ≤ 100000) :
    Calls Try.prog 77 #[.pointer (some ⟨P, 0, none⟩)] w (Ret (itemV l.head?) w) := by
  cases l with
  | nil => exact headNone B P F w h
  | cons x l => exact headSome B P x l F w h (by simp at hl; omega)
end Go.Proofs.Ytgeoebodlcbebaa
