/-
  A ring of flows as package flow has it: how it lies; the queue of a flow; Len, Deficit, Given; New.
-/
import Derived.Test.YtgeoebodlcbebaaRobL
namespace Go.Proofs.Ytgeoebodlcbebaa
open Go.RowKit
open Rb (Nd)
set_option linter.unusedVariables false

abbrev ringO (R : Nat) : Obj := .cells #[.pointer (some ⟨R, 0, none⟩)] 64
structure FIn (w : World) (B P R m : Nat) (q : Int) (g : Bool) (ns : List Nd) (x y : Nat → Nat) : Prop where
  p : w.heap[P]? = some (ringO R)
  r : RIn w B R m q g ns x y
  np : ¬ footG R m ns P
  lo : B ≤ P
def footF (P R m : Nat) (ns : List Nd) (k : Nat) : Prop := k = P ∨ footG R m ns k
/-- how a ring lies: world, base, block, what it holds, its blocks -/
def FIs (w : World) (B P : Nat) (s : Fl.St) (F : Nat → Prop) : Prop :=
  ∃ R m ns x y, FIn w B P R m s.q s.g ns x y ∧ ns.map (·.r) = s.l ∧ ∀ k, F k ↔ footF P R m ns k
section
variable {w w' : World} {B P R m : Nat} {q : Int} {g : Bool} {ns : List Nd} {x y : Nat → Nat}
theorem FIn.lt (h : FIn w B P R m q g ns x y) : ∀ k, footF P R m ns k → B ≤ k ∧ k < w.heap.size := fun k hk => by
  rcases hk with e | hk
  · subst e; exact ⟨h.lo, lt_block h.p⟩
  · exact h.r.lt k hk
theorem FIn.keep (h : FIn w B P R m q g ns x y) (hk : ∀ k, footF P R m ns k → w'.heap[k]? = w.heap[k]?) : FIn w' B P R m q g ns x y :=
  ⟨(hk P (Or.inl rfl)).trans h.p, h.r.keep (fun k hf => hk k (Or.inr hf)), h.np, h.lo⟩
theorem FIn.below (h : FIn w B P R m q g ns x y) (hb : Below w.heap.size w w') : FIn w' B P R m q g ns x y := h.keep (fun k hk => hb.block k (h.lt k hk).2)
theorem FIn.c0 (h : FIn w B P R m q g ns x y) : w.cell? ⟨P, 0, none⟩ = some (.pointer (some ⟨R, 0, none⟩)) := by rw [cell_of_row w _ _ _ _ _ h.p]; rfl
end
theorem FIs.keep {w w' : World} {B P : Nat} {s : Fl.St} {F : Nat → Prop} (h : FIs w B P s F) (hk : ∀ k, F k → w'.heap[k]? = w.heap[k]?) : FIs w' B P s F := by
  obtain ⟨R, m, ns, x, y, h1, h2, h3⟩ := h
  exact ⟨R, m, ns, x, y, h1.keep (fun k hf => hk k ((h3 k).2 hf)), h2, h3⟩
theorem FIs.lt {w : World} {B P : Nat} {s : Fl.St} {F : Nat → Prop} (h : FIs w B P s F) : ∀ k, F k → B ≤ k ∧ k < w.heap.size := by
  obtain ⟨R, m, ns, x, y, h1, h2, h3⟩ := h
  exact fun k hk => h1.lt k ((h3 k).1 hk)
theorem FIs.below {w w' : World} {B P : Nat} {s : Fl.St} {F : Nat → Prop} (h : FIs w B P s F) (hb : Below w.heap.size w w') : FIs w' B P s F := h.keep (fun k hk => hb.block k (h.lt k hk).2)
/-- it returns r; the ring holds s' -/
structure RetF (r : Value) (B P : Nat) (s' : Fl.St) (F : Nat → Prop) (w : World) (e : Ending) (w' : World) : Prop where
  r : e = .returned r
  s : ∃ F', FIs w' B P s' F' ∧ ∀ k, F' k → F k ∨ w.heap.size ≤ k
  c : Chg F w w'
theorem run_toQueue (q : Nat) (w : World) : (Instr.typeAssert (.iface 69 (.pointer (some ⟨q, 0, none⟩))) 73 69 true).run Try.prog w = .ok (.tuple #[.pointer (some ⟨q, 0, none⟩), .bool true]) w := by
  simp [Instr.typeAssert, run_underlying Try.underlying69, Result.andThen]
theorem run_toNone (w : World) : (Instr.typeAssert .nilIface 73 69 true).run Try.prog w = .ok (.tuple #[.pointer none, .bool false]) w := by
  have hz : (zeroValue 69).run Try.prog w = .ok (.pointer none) w := Try.zeroValue69 w
  simp [Instr.typeAssert, run_underlying Try.underlying69, Result.andThen, hz]
set_option maxRecDepth 100000 in
set_option maxHeartbeats 1000000 in
theorem queueYes (B P R m : Nat) (q : Int) (g : Bool) (ns : List Nd) (x y : Nat → Nat) (n : Nd) (w : World) (h : FIn w B P R m q g ns x y) (hn : n ∈ ns) :
    Calls Try.prog 32 #[.pointer (some ⟨P, 0, none⟩), .int .i64 n.r.f] w (Ret (.pointer (some ⟨n.q, 0, none⟩)) w) := by
  have c0 := h.c0
  have K := Lib.hid (flowYes R m q _ g ns _ _ n w h.r.r hn)
  have ht := h.r.qs.src n hn
  unfold flV Nd.src at K
  rw [ht] at K
  have hta := run_toQueue n.q
  generalize n.q = Q at *
  generalize n.r.f = f at *
  generalize n.r.w = wt at *
  generalize n.r.d = df at *
  clear h hn ht
  go_enter Try.func32, Try.ntmps32
  go_wp2_with (go_at_call 34; (with_reducible refine K.out.mono ?_); rintro e wA ⟨rfl, hA⟩)
  go_ret
  exact ⟨rfl, hA.alloc hA.size _⟩
set_option maxRecDepth 100000 in
set_option maxHeartbeats 1000000 in
theorem queueNo (B P R m : Nat) (q : Int) (g : Bool) (ns : List Nd) (x y : Nat → Nat) (f : Int) (w : World) (h : FIn w B P R m q g ns x y) (hf : (Lit.int .i64 f).wf = true) (hn : ∀ n ∈ ns, n.r.f ≠ f) :
    Calls Try.prog 32 #[.pointer (some ⟨P, 0, none⟩), .int .i64 f] w (Ret (.pointer none) w) := by
  have c0 := h.c0
  have K := Lib.hid (flowNo R m q _ g ns _ _ f w h.r.r hf hn)
  have hta := run_toNone
  clear h hn hf
  go_enter Try.func32, Try.ntmps32
  go_wp2_with (go_at_call 34; (with_reducible refine K.out.mono ?_); rintro e wA ⟨rfl, hA⟩)
  go_ret
  exact ⟨rfl, hA.alloc hA.size _⟩
def lenOf (l : List Fl.Rw) (f : Int) : Int := match Fl.row l f with | none => 0 | some r => (r.its.length : Int)
def defOf (l : List Fl.Rw) (f : Int) : Int := match Fl.row l f with | none => 0 | some r => r.d
set_option maxRecDepth 100000 in
theorem flLenC (B P : Nat) (s : Fl.St) (F : Nat → Prop) (f : Int) (w : World) (h : FIs w B P s F) (hf : (Lit.int .i64 f).wf = true) (hS : Fl.Small 90000 s) :
    Calls Try.prog 12 #[.pointer (some ⟨P, 0, none⟩), .int .i64 f] w (Ret (.int .i64 (lenOf s.l f)) w) := by
  obtain ⟨R, m, ns, x, y, h1, h2, h3⟩ := h
  unfold lenOf
  cases hr : Fl.row s.l f with
  | none =>
    have K := Lib.hid (queueNo B P R m _ _ ns x y f w h1 hf (node_no h2 hr))
    have K2 := Lib.hid (fun W => nilLen W)
    clear h1 h2 h3 hr hf
    go_enter Try.func12, Try.ntmps12
    go_wp2_with (first | (go_at_call 32; (with_reducible refine K.out.mono ?_); rintro e wA ⟨rfl, hA⟩) | (go_at_call 33; (with_reducible refine (K2.out _).mono ?_); rintro e wB ⟨rfl, rfl⟩))
    go_ret
    exact ⟨rfl, hA⟩
  | some r =>
    obtain ⟨n, hn, rfl, rfl⟩ := node_of h2 hr
    have K := Lib.hid (queueYes B P R m _ _ ns x y n w h1 hn)
    have hmem : n.r ∈ s.l := (Fl.row_mem hr).1
    have hli := hS.its n.r hmem
    have K2 := Lib.hid (fun W (hW : Below w.heap.size w W) => lenC B n.q n.r.its n.F W ((h1.r.qs.q n hn).below hW) (by omega))
    dsimp only
    generalize ((n.r.its.length : Nat) : Int) = N at *
    generalize n.q = Q at *
    generalize n.r.f = f at *
    clear h1 h2 h3 hr hf hn hmem hli
    go_enter Try.func12, Try.ntmps12
    go_wp2_with (first | (go_at_call 32; (with_reducible refine K.out.mono ?_); rintro e wA ⟨rfl, hA⟩) | (go_at_call 33; (with_reducible refine (K2.out _ hA).mono ?_); rintro e wB ⟨rfl, rfl⟩))
    go_ret
    exact ⟨rfl, hA⟩
set_option maxRecDepth 100000 in
theorem flDefC (B P : Nat) (s : Fl.St) (F : Nat → Prop) (f : Int) (w : World) (h : FIs w B P s F) (hf : (Lit.int .i64 f).wf = true) :
    Calls Try.prog 13 #[.pointer (some ⟨P, 0, none⟩), .int .i64 f] w (Ret (.int .i64 (defOf s.l f)) w) := by
  obtain ⟨R, m, ns, x, y, h1, h2, h3⟩ := h
  have c0 := h1.c0
  unfold defOf
  cases hr : Fl.row s.l f with
  | none =>
    have K := Lib.hid (flowNo R m _ _ _ ns _ _ f w h1.r.r hf (node_no h2 hr))
    clear h1 h2 h3 hr hf
    go_enter Try.func13, Try.ntmps13
    go_wp2_with (go_at_call 34; (with_reducible refine K.out.mono ?_); rintro e wA ⟨rfl, hA⟩)
    go_ret
    exact ⟨rfl, hA.alloc hA.size _⟩
  | some r =>
    obtain ⟨n, hn, rfl, rfl⟩ := node_of h2 hr
    have K := Lib.hid (flowYes R m _ _ _ ns _ _ n w h1.r.r hn)
    unfold flV Nd.src at K
    dsimp only
    generalize n.t = T at *
    generalize n.q = Q at *
    generalize n.r.f = f at *
    generalize n.r.w = wt at *
    generalize n.r.d = df at *
    clear h1 h2 h3 hr hf hn
    go_enter Try.func13, Try.ntmps13
    go_wp2_with (go_at_call 34; (with_reducible refine K.out.mono ?_); rintro e wA ⟨rfl, hA⟩)
    go_ret
    exact ⟨rfl, hA.alloc hA.size _⟩
theorem FIs.rob {w : World} {B P : Nat} {s : Fl.St} {F : Nat → Prop} (h : FIs w B P s F) : ∃ R, w.cell? ⟨P, 0, none⟩ = some (.pointer (some ⟨R, 0, none⟩)) ∧ RIs w B R s (fun k => F k ∧ k ≠ P) := by
  obtain ⟨R, m, ns, x, y, h1, h2, h3⟩ := h
  refine ⟨R, h1.c0, m, ns, x, y, h1.r, h2, fun k => ?_⟩
  show F k ∧ k ≠ P ↔ _
  rw [h3]
  constructor
  · rintro ⟨e | e, hne⟩
    · exact absurd e hne
    · exact e
  · exact fun e => ⟨Or.inr e, fun hk => h1.np (by rw [← hk]; exact e)⟩
set_option maxRecDepth 100000 in
theorem flGivenC (B P : Nat) (s : Fl.St) (F : Nat → Prop) (w : World) (h : FIs w B P s F) :
    Calls Try.prog 21 #[.pointer (some ⟨P, 0, none⟩)] w (Same (.bool s.g) w) := by
  obtain ⟨R, c0, hr⟩ := h.rob
  have K := Lib.hid (robGivenC B R s _ w hr)
  generalize s.g = g at *
  clear h hr
  go_enter Try.func21, Try.ntmps21
  go_wp2_with (go_at_call 46; (with_reducible refine K.out.mono ?_); rintro e wA ⟨rfl, rfl⟩)
  go_ret
  exact ⟨rfl, rfl⟩
/-- an empty ring of new blocks -/
structure RetNewF (q : Int) (w : World) (e : Ending) (w' : World) : Prop where
  s : ∃ P F, e = .returned (.pointer (some ⟨P, 0, none⟩)) ∧ FIs w' w.heap.size P ⟨q, [], false⟩ F
  b : Below w.heap.size w w'
set_option maxRecDepth 100000 in
theorem flNewC (q : Int) (w : World) (h1 : 1 ≤ q) (h2 : q ≤ 64) : Calls Try.prog 7 #[.int .i64 q] w (RetNewF q w) := by
  have K := Lib.hid ((robNewC q w h1 h2).mono (R' := fun e w' => ∃ R, e = .returned (.pointer (some ⟨R, 0, none⟩)) ∧ Hid (RetNewF q w (.returned (.pointer (some ⟨w'.heap.size, 0, none⟩))) (w'.alloc (ringO R)))) fun e w' hr => by
    obtain ⟨R, m, x, y, rfl, h⟩ := hr.s
    have hb : Below w'.heap.size w' (w'.alloc (ringO R)) := (Below.refl _ _).alloc (Nat.le_refl _) _
    exact ⟨R, rfl, Lib.hid ⟨⟨w'.heap.size, _, rfl, R, m, [], x, y, ⟨heap_alloc_new _ _, h.below hb, fun hf => by have := (h.lt _ hf).2; omega, hr.b.size⟩, rfl, fun k => Iff.rfl⟩, hr.b.trans (hb.mono hr.b.size)⟩⟩)
  clear h1 h2
  go_enter Try.func7, Try.ntmps7
  go_wp2_with (go_at_call 25; (with_reducible refine K.out.mono ?_); rintro e wA ⟨R, rfl, hA⟩)
  go_ret
  exact hA.out
set_option maxRecDepth 100000 in
theorem flNewNil (q : Int) (w : World) (h : ¬ (1 ≤ q ∧ q ≤ 64)) : Calls Try.prog 7 #[.int .i64 q] w (Same (.pointer none) w) := by
  have K := Lib.hid (robNewNil q w h)
  clear h
  go_enter Try.func7, Try.ntmps7
  go_wp2_with (go_at_call 25; (with_reducible refine K.out.mono ?_); rintro e wA ⟨rfl, rfl⟩)
  go_ret
  exact ⟨rfl, rfl⟩
end Go.Proofs.Ytgeoebodlcbebaa
