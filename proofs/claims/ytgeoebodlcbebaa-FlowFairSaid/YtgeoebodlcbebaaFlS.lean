/-
  A ring of flows as package flow has it: how it lies; the queue of a flow; Len, Deficit, Given; New.
  A ring of flows: Pick, Take.
  A ring of flows: Drop.
  A ring of flows: Push.
  A ring of flows: Rows.
-/
import Derived.Test.YtgeoebodlcbebaaRobT
namespace Go.Proofs.Ytgeoebodlcbebaa
open Go.RowKit
open Rb (Nd)
set_option linter.unusedVariables false

abbrev ringO (R : Nat) : Obj := .cells #[.pointer (some ⟨R, 0, none⟩)] 64
structure FIn (w : World) (B P R m : Nat) (q : Int) (g : Bool) (ns : List Nd) (x y : Nat → Nat) : Prop where
  p : w.heap[P]? = some (ringO R)
  r : RIn w B R m q g ns x y
  np : ¬ footG R m ns P
  lo : B ≤ P
def footF (P R m : Nat) (ns : List Nd) (k : Nat) : Prop := k = P ∨ footG R m ns k
/-- how a ring lies: world, base, block, what it holds, its blocks -/
def FIs (w : World) (B P : Nat) (s : Fl.St) (F : Nat → Prop) : Prop :=
  ∃ R m ns x y, FIn w B P R m s.q s.g ns x y ∧ ns.map (·.r) = s.l ∧ ∀ k, F k ↔ footF P R m ns k
section
variable {w w' : World} {B P R m : Nat} {q : Int} {g : Bool} {ns : List Nd} {x y : Nat → Nat}
theorem FIn.lt (h : FIn w B P R m q g ns x y) : ∀ k, footF P R m ns k → B ≤ k ∧ k < w.heap.size := fun k hk => by
  rcases hk with e | hk
  · subst e; exact ⟨h.lo, lt_block h.p⟩
  · exact h.r.lt k hk
theorem FIn.keep (h : FIn w B P R m q g ns x y) (hk : ∀ k, footF P R m ns k → w'.heap[k]? = w.heap[k]?) : FIn w' B P R m q g ns x y :=
  ⟨(hk P (Or.inl rfl)).trans h.p, h.r.keep (fun k hf => hk k (Or.inr hf)), h.np, h.lo⟩
theorem FIn.below (h : FIn w B P R m q g ns x y) (hb : Below w.heap.size w w') : FIn w' B P R m q g ns x y := h.keep (fun k hk => hb.block k (h.lt k hk).2)
theorem FIn.c0 (h : FIn w B P R m q g ns x y) : w.cell? ⟨P, 0, none⟩ = some (.pointer (some ⟨R, 0, none⟩)) := by rw [cell_of_row w _ _ _ _ _ h.p]; rfl
end
theorem FIs.keep {w w' : World} {B P : Nat} {s : Fl.St} {F : Nat → Prop} (h : FIs w B P s F) (hk : ∀ k, F k → w'.heap[k]? = w.heap[k]?) : FIs w' B P s F := by
  obtain ⟨R, m, ns, x, y, h1, h2, h3⟩ := h
  exact ⟨R, m, ns, x, y, h1.keep (fun k hf => hk k ((h3 k).2 hf)), h2, h3⟩
theorem FIs.lt {w : World} {B P : Nat} {s : Fl.St} {F : Nat → Prop} (h : FIs w B P s F) : ∀ k, F k → B ≤ k ∧ k < w.heap.size := by
  obtain ⟨R, m, ns, x, y, h1, h2, h3⟩ := h
  exact fun k hk => h1.lt k ((h3 k).1 hk)
theorem FIs.below {w w' : World} {B P : Nat} {s : Fl.St} {F : Nat → Prop} (h : FIs w B P s F) (hb : Below w.heap.size w w') : FIs w' B P s F := h.keep (fun k hk => hb.block k (h.lt k hk).2)
/-- it returns r; the ring holds s' -/
structure RetF (r : Value) (B P : Nat) (s' : Fl.St) (F : Nat → Prop) (w : World) (e : Ending) (w' : World) : Prop where
  r : e = .returned r
  s : ∃ F', FIs w' B P s' F' ∧ ∀ k, F' k → F k ∨ w.heap.size ≤ k
  c : Chg F w w'
theorem run_toQueue (q : Nat) (w : World) : (Instr.typeAssert (.iface 69 (.pointer (some ⟨q, 0, none⟩))) 73 69 true).run Try.prog w = .ok (.tuple #[.pointer (some ⟨q, 0, none⟩), .bool true]) w := by
  simp [Instr.typeAssert, run_underlying Try.underlying69, Result.andThen]
theorem run_toNone (w : World) : (Instr.typeAssert .nilIface 73 69 true).run Try.prog w = .ok (.tuple #[.pointer none, .bool false]) w := by
  have hz : (zeroValue 69).run Try.prog w = .ok (.pointer none) w := Try.zeroValue69 w
  simp [Instr.typeAssert, run_underlying Try.underlying69, Result.andThen, hz]
set_option maxRecDepth 100000 in
set_option maxHeartbeats 1000000 in
theorem queueYes (B P R m : Nat) (q : Int) (g : Bool) (ns : List Nd) (x y : Nat → Nat) (n : Nd) (w : World) (h : FIn w B P R m q g ns x y) (hn : n ∈ ns) :
    Calls Try.prog 32 #[.pointer (some ⟨P, 0, none⟩), .int .i64 n.r.f] w (Ret (.pointer (some ⟨n.q, 0, none⟩)) w) := by
  have c0 := h.c0
  have K := Lib.hid (flowYes R m q _ g ns _ _ n w h.r.r hn)
  have ht := h.r.qs.src n hn
  unfold flV Nd.src at K
  rw [ht] at K
  have hta := run_toQueue n.q
  generalize n.q = Q at *
  generalize n.r.f = f at *
  generalize n.r.w = wt at *
  generalize n.r.d = df at *
  clear h hn ht
  go_enter Try.func32, Try.ntmps32
  go_wp2_with (go_at_call 34; (with_reducible refine K.out.mono ?_); rintro e wA ⟨rfl, hA⟩)
  go_ret
  exact ⟨rfl, hA.alloc hA.size _⟩
set_option maxRecDepth 100000 in
set_option maxHeartbeats 1000000 in
theorem queueNo (B P R m : Nat) (q : Int) (g : Bool) (ns : List Nd) (x y : Nat → Nat) (f : Int) (w : World) (h : FIn w B P R m q g ns x y) (hf : (Lit.int .i64 f).wf = true) (hn : ∀ n ∈ ns, n.r.f ≠ f) :
    Calls Try.prog 32 #[.pointer (some ⟨P, 0, none⟩), .int .i64 f] w (Ret (.pointer none) w) := by
  have c0 := h.c0
  have K := Lib.hid (flowNo R m q _ g ns _ _ f w h.r.r hf hn)
  have hta := run_toNone
  clear h hn hf
  go_enter Try.func32, Try.ntmps32
  go_wp2_with (go_at_call 34; (with_reducible refine K.out.mono ?_); rintro e wA ⟨rfl, hA⟩)
  go_ret
  exact ⟨rfl, hA.alloc hA.size _⟩
def lenOf (l : List Fl.Rw) (f : Int) : Int := match Fl.row l f with | none => 0 | some r => (r.its.length : Int)
def defOf (l : List Fl.Rw) (f : Int) : Int := match Fl.row l f with | none => 0 | some r => r.d
set_option maxRecDepth 100000 in
theorem flLenC (B P : Nat) (s : Fl.St) (F : Nat → Prop) (f : Int) (w : World) (h : FIs w B P s F) (hf : (Lit.int .i64 f).wf = true) (hS : Fl.Small 90000 s) :
    Calls Try.prog 12 #[.pointer (some ⟨P, 0, none⟩), .int .i64 f] w (Ret (.int .i64 (lenOf s.l f)) w) := by
  obtain ⟨R, m, ns, x, y, h1, h2, h3⟩ := h
  unfold lenOf
  cases hr : Fl.row s.l f with
  | none =>
    have K := Lib.hid (queueNo B P R m _ _ ns x y f w h1 hf (node_no h2 hr))
    have K2 := Lib.hid (fun W => nilLen W)
    clear h1 h2 h3 hr hf
    go_enter Try.func12, Try.ntmps12
    go_wp2_with (first | (go_at_call 32; (with_reducible refine K.out.mono ?_); rintro e wA ⟨rfl, hA⟩) | (go_at_call 33; (with_reducible refine (K2.out _).mono ?_); rintro e wB ⟨rfl, rfl⟩))
    go_ret
    exact ⟨rfl, hA⟩
  | some r =>
    obtain ⟨n, hn, rfl, rfl⟩ := node_of h2 hr
    have K := Lib.hid (queueYes B P R m _ _ ns x y n w h1 hn)
    have hmem : n.r ∈ s.l := (Fl.row_mem hr).1
    have hli := hS.its n.r hmem
    have K2 := Lib.hid (fun W (hW : Below w.heap.size w W) => lenC B n.q n.r.its n.F W ((h1.r.qs.q n hn).below hW) (by omega))
    dsimp only
    generalize ((n.r.its.length : Nat) : Int) = N at *
    generalize n.q = Q at *
    generalize n.r.f = f at *
    clear h1 h2 h3 hr hf hn hmem hli
    go_enter Try.func12, Try.ntmps12
    go_wp2_with (first | (go_at_call 32; (with_reducible refine K.out.mono ?_); rintro e wA ⟨rfl, hA⟩) | (go_at_call 33; (with_reducible refine (K2.out _ hA).mono ?_); rintro e wB ⟨rfl, rfl⟩))
    go_ret
    exact ⟨rfl, hA⟩
set_option maxRecDepth 100000 in
theorem flDefC (B P : Nat) (s : Fl.St) (F : Nat → Prop) (f : Int) (w : World) (h : FIs w B P s F) (hf : (Lit.int .i64 f).wf = true) :
    Calls Try.prog 13 #[.pointer (some ⟨P, 0, none⟩), .int .i64 f] w (Ret (.int .i64 (defOf s.l f)) w) := by
  obtain ⟨R, m, ns, x, y, h1, h2, h3⟩ := h
  have c0 := h1.c0
  unfold defOf
  cases hr : Fl.row s.l f with
  | none =>
    have K := Lib.hid (flowNo R m _ _ _ ns _ _ f w h1.r.r hf (node_no h2 hr))
    clear h1 h2 h3 hr hf
    go_enter Try.func13, Try.ntmps13
    go_wp2_with (go_at_call 34; (with_reducible refine K.out.mono ?_); rintro e wA ⟨rfl, hA⟩)
    go_ret
    exact ⟨rfl, hA.alloc hA.size _⟩
  | some r =>
    obtain ⟨n, hn, rfl, rfl⟩ := node_of h2 hr
    have K := Lib.hid (flowYes R m _ _ _ ns _ _ n w h1.r.r hn)
    unfold flV Nd.src at K
    dsimp only
    generalize n.t = T at *
    generalize n.q = Q at *
    generalize n.r.f = f at *
    generalize n.r.w = wt at *
    generalize n.r.d = df at *
    clear h1 h2 h3 hr hf hn
    go_enter Try.func13, Try.ntmps13
    go_wp2_with (go_at_call 34; (with_reducible refine K.out.mono ?_); rintro e wA ⟨rfl, hA⟩)
    go_ret
    exact ⟨rfl, hA.alloc hA.size _⟩
theorem FIs.rob {w : World} {B P : Nat} {s : Fl.St} {F : Nat → Prop} (h : FIs w B P s F) : ∃ R, w.cell? ⟨P, 0, none⟩ = some (.pointer (some ⟨R, 0, none⟩)) ∧ RIs w B R s (fun k => F k ∧ k ≠ P) := by
  obtain ⟨R, m, ns, x, y, h1, h2, h3⟩ := h
  refine ⟨R, h1.c0, m, ns, x, y, h1.r, h2, fun k => ?_⟩
  show F k ∧ k ≠ P ↔ _
  rw [h3]
  constructor
  · rintro ⟨e | e, hne⟩
    · exact absurd e hne
    · exact e
  · exact fun e => ⟨Or.inr e, fun hk => h1.np (by rw [← hk]; exact e)⟩
set_option maxRecDepth 100000 in
theorem flGivenC (B P : Nat) (s : Fl.St) (F : Nat → Prop) (w : World) (h : FIs w B P s F) :
    Calls Try.prog 21 #[.pointer (some ⟨P, 0, none⟩)] w (Same (.bool s.g) w) := by
  obtain ⟨R, c0, hr⟩ := h.rob
  have K := Lib.hid (robGivenC B R s _ w hr)
  generalize s.g = g at *
  clear h hr
  go_enter Try.func21, Try.ntmps21
  go_wp2_with (go_at_call 46; (with_reducible refine K.out.mono ?_); rintro e wA ⟨rfl, rfl⟩)
  go_ret
  exact ⟨rfl, rfl⟩
/-- an empty ring of new blocks -/
structure RetNewF (q : Int) (w : World) (e : Ending) (w' : World) : Prop where
  s : ∃ P F, e = .returned (.pointer (some ⟨P, 0, none⟩)) ∧ FIs w' w.heap.size P ⟨q, [], false⟩ F
  b : Below w.heap.size w w'
set_option maxRecDepth 100000 in
theorem flNewC (q : Int) (w : World) (h1 : 1 ≤ q) (h2 : q ≤ 64) : Calls Try.prog 7 #[.int .i64 q] w (RetNewF q w) := by
  have K := Lib.hid ((robNewC q w h1 h2).mono (R' := fun e w' => ∃ R, e = .returned (.pointer (some ⟨R, 0, none⟩)) ∧ Hid (RetNewF q w (.returned (.pointer (some ⟨w'.heap.size, 0, none⟩))) (w'.alloc (ringO R)))) fun e w' hr => by
    obtain ⟨R, m, x, y, rfl, h⟩ := hr.s
    have hb : Below w'.heap.size w' (w'.alloc (ringO R)) := (Below.refl _ _).alloc (Nat.le_refl _) _
    exact ⟨R, rfl, Lib.hid ⟨⟨w'.heap.size, _, rfl, R, m, [], x, y, ⟨heap_alloc_new _ _, h.below hb, fun hf => by have := (h.lt _ hf).2; omega, hr.b.size⟩, rfl, fun k => Iff.rfl⟩, hr.b.trans (hb.mono hr.b.size)⟩⟩)
  clear h1 h2
  go_enter Try.func7, Try.ntmps7
  go_wp2_with (go_at_call 25; (with_reducible refine K.out.mono ?_); rintro e wA ⟨R, rfl, hA⟩)
  go_ret
  exact hA.out
set_option maxRecDepth 100000 in
theorem flNewNil (q : Int) (w : World) (h : ¬ (1 ≤ q ∧ q ≤ 64)) : Calls Try.prog 7 #[.int .i64 q] w (Same (.pointer none) w) := by
  have K := Lib.hid (robNewNil q w h)
  clear h
  go_enter Try.func7, Try.ntmps7
  go_wp2_with (go_at_call 25; (with_reducible refine K.out.mono ?_); rintro e wA ⟨rfl, rfl⟩)
  go_ret
  exact ⟨rfl, rfl⟩
end Go.Proofs.Ytgeoebodlcbebaa

namespace Go.Proofs.Ytgeoebodlcbebaa
open Go.RowKit
open Rb (Nd)
set_option linter.unusedVariables false

/-- what Pick and Take return -/
def tkV : Option (Int × Ff.E) → Value
  | none => .tuple #[.int .i64 0, .agg #[.int .i64 0, .int .i64 0], .bool false]
  | some (f, (id, co)) => .tuple #[.int .i64 f, .agg #[.int .i64 id, .int .i64 co], .bool true]
/-- a call of the ring below, behind an alloc; then boxes -/
theorem FIn.step {w W0 w' W : World} {B P R m : Nat} {q : Int} {g : Bool} {ns ns' : List Nd} {x y x' y' : Nat → Nat} {F : Nat → Prop} {s' : Fl.St} (v : Value) (h : FIn w B P R m q g ns x y) (hF : ∀ k, F k ↔ footF P R m ns k) (hb : Below w.heap.size w W0) (hz : w.heap.size < W0.heap.size)
    (hr : RIn w' B R m s'.q s'.g ns' x' y') (hl : ns'.map (·.r) = s'.l) (hf : ∀ k, footG R m ns' k → footG R m ns k ∨ W0.heap.size ≤ k) (hc : Chg (footG R m ns) W0 w') (hW : Chg (fun k => k = w.heap.size) w' W) : RetF v B P s' F w (.returned v) W := by
  have hCf : ∀ k, footG R m ns' k → k ≠ w.heap.size := fun k hk e => by
    rcases hf k hk with h1 | h1
    · have := (h.r.lt k h1).2; omega
    · omega
  have hP : W.heap[P]? = some (ringO R) := by
    have h0 := lt_block h.p
    exact hW.keep (hc.keep ((hb.block P h0).trans h.p) h.np) (by omega)
  refine ⟨rfl, ⟨footF P R m ns', ⟨R, m, ns', x', y', ⟨hP, hr.keep (fun k hk => hW.block k (hr.lt k hk).2 (hCf k hk)), fun hk => ?_, h.lo⟩, hl, fun k => Iff.rfl⟩, fun k hk => ?_⟩, ?_⟩
  · rcases hf P hk with h1 | h1
    · exact h.np h1
    · have := lt_block h.p; omega
  · rcases hk with e | hk
    · exact Or.inl ((hF k).2 (Or.inl e))
    · rcases hf k hk with h1 | h1
      · exact Or.inl ((hF k).2 (Or.inr h1))
      · right; omega
  · exact (((Chg.of_below (F := F) hb).trans hc (fun k hk => Or.inl ((hF k).2 (Or.inr hk)))).trans hW (fun k hk => Or.inr (by omega)))
theorem takeV_pick {s : Fl.St} {n : Nd} {t : List Nd} (h : (n :: t).map (·.r) = s.pick.l) {id co : Int} {rest : List Ff.E} (hi : n.r.its = (id, co) :: rest) : s.takeV = some (n.r.f, (id, co)) := by
  unfold Fl.St.takeV
  rw [← h]
  show (n.r.its.head?).map (fun x => (n.r.f, x)) = _
  rw [hi]; rfl
theorem takeV_nil {s : Fl.St} (h : s.pick.l = []) : s.takeV = none := by unfold Fl.St.takeV; rw [h]
set_option maxRecDepth 100000 in
set_option maxHeartbeats 4000000 in
theorem pickNone (B P R : Nat) (s s' : Fl.St) (F : Nat → Prop) (w : World) (c0 : w.cell? ⟨P, 0, none⟩ = some (.pointer (some ⟨R, 0, none⟩)))
    (k : Calls Try.prog 40 #[.pointer (some ⟨R, 0, none⟩)] (w.alloc zeroI) fun e w' => e = .returned (.tuple #[.agg #[.nilIface, .int .i64 0, .int .i64 0, .int .i64 0], .agg #[.int .i64 0, .int .i64 0], .bool false]) ∧ w'.heap[w.heap.size]? = some zeroI ∧ Hid (∀ W, Chg (fun k => k = w.heap.size) w' W → RetF (tkV none) B P s' F w (.returned (tkV none)) W)) :
    Calls Try.prog 17 #[.pointer (some ⟨P, 0, none⟩)] w (RetF (tkV none) B P s' F w) := by
  have c0' : (w.alloc zeroI).cell? ⟨P, 0, none⟩ = some (.pointer (some ⟨R, 0, none⟩)) := by
    have hb : Below w.heap.size w (w.alloc zeroI) := (Below.refl _ _).alloc (Nat.le_refl _) _
    exact (hb.cell (p := ⟨P, 0, none⟩) (block_lt_of_cell c0)).trans c0
  have K := Lib.hid k
  clear k
  go_enter Try.func17, Try.ntmps17
  go_wp2_with (go_at_call 40; (with_reducible refine K.out.mono ?_); rintro e wA ⟨rfl, hX, hE⟩; have hX2 := (Lib.alloc_old (wA.alloc flO0) zeroI w.heap.size (by have := lt_block hX; simp; omega)).trans ((Lib.alloc_old wA flO0 w.heap.size (lt_block hX)).trans hX); obtain ⟨a0, a1⟩ := it_cells hX2; have f0 := frozen_of _ w.heap.size 0 _ _ hX2; have f1 := frozen_of _ w.heap.size 1 _ _ hX2)
  have hlt := lt_block hX
  have q1 : wA.heap.size ≠ w.heap.size := by omega
  have q2 : wA.heap.size + 1 ≠ w.heap.size := by omega
  have HF := Lib.hid (hE.out ((((wA.alloc flO0).alloc zeroI).setCell ⟨w.heap.size, 0, none⟩ (.int .i64 0)).setCell ⟨w.heap.size, 1, none⟩ (.int .i64 0)).drew ((((Chg.of_below (F := fun k => k = w.heap.size) (((Below.refl wA.heap.size wA).alloc (Nat.le_refl _) flO0).alloc (by simp) zeroI)).setCell (p := ⟨w.heap.size, 0, none⟩) (Or.inl rfl) _).setCell (p := ⟨w.heap.size, 1, none⟩) (Or.inl rfl) _).drew))
  clear hX hX2 hE hlt c0 c0'
  go_region
  go_wp2
  refine bodyPost_ret (v := tkV none) ?_ rfl ?_
  · rw [results_tct rfl]; unfold tkV; go_simp; (try rfl)
  · exact HF.out
set_option maxRecDepth 100000 in
set_option maxHeartbeats 4000000 in
theorem pickSome (B P R : Nat) (s s' : Fl.St) (F : Nat → Prop) (f id co : Int) (w : World) (c0 : w.cell? ⟨P, 0, none⟩ = some (.pointer (some ⟨R, 0, none⟩)))
    (k : Calls Try.prog 40 #[.pointer (some ⟨R, 0, none⟩)] (w.alloc zeroI) fun e w' => ∃ T q wt d, e = .returned (.tuple #[.agg #[.iface T (.pointer (some ⟨q, 0, none⟩)), .int .i64 f, .int .i64 wt, .int .i64 d], .agg #[.int .i64 id, .int .i64 co], .bool true]) ∧ w'.heap[w.heap.size]? = some zeroI ∧ Hid (∀ W, Chg (fun k => k = w.heap.size) w' W → RetF (tkV (some (f, (id, co)))) B P s' F w (.returned (tkV (some (f, (id, co))))) W)) :
    Calls Try.prog 17 #[.pointer (some ⟨P, 0, none⟩)] w (RetF (tkV (some (f, (id, co)))) B P s' F w) := by
  have c0' : (w.alloc zeroI).cell? ⟨P, 0, none⟩ = some (.pointer (some ⟨R, 0, none⟩)) := by
    have hb : Below w.heap.size w (w.alloc zeroI) := (Below.refl _ _).alloc (Nat.le_refl _) _
    exact (hb.cell (p := ⟨P, 0, none⟩) (block_lt_of_cell c0)).trans c0
  have K := Lib.hid k
  clear k
  go_enter Try.func17, Try.ntmps17
  go_wp2_with (go_at_call 40; (with_reducible refine K.out.mono ?_); rintro e wA ⟨T, q, wt, d, rfl, hX, hE⟩; have hX2 := (Lib.alloc_old (wA.alloc (.cells #[.iface T (.pointer (some ⟨q, 0, none⟩)), .int .i64 f, .int .i64 wt, .int .i64 d] 75)) (itO id co) w.heap.size (by have := lt_block hX; simp; omega)).trans ((Lib.alloc_old wA (.cells #[.iface T (.pointer (some ⟨q, 0, none⟩)), .int .i64 f, .int .i64 wt, .int .i64 d] 75) w.heap.size (lt_block hX)).trans hX); obtain ⟨a0, a1⟩ := it_cells hX2; have f0 := frozen_of _ w.heap.size 0 _ _ hX2; have f1 := frozen_of _ w.heap.size 1 _ _ hX2)
  have hlt := lt_block hX
  have q1 : wA.heap.size ≠ w.heap.size := by omega
  have q2 : wA.heap.size + 1 ≠ w.heap.size := by omega
  have HF := Lib.hid (hE.out ((((wA.alloc (.cells #[.iface T (.pointer (some ⟨q, 0, none⟩)), .int .i64 f, .int .i64 wt, .int .i64 d] 75)).alloc (itO id co)).setCell ⟨w.heap.size, 0, none⟩ (.int .i64 id)).setCell ⟨w.heap.size, 1, none⟩ (.int .i64 co)).drew ((((Chg.of_below (F := fun k => k = w.heap.size) (((Below.refl wA.heap.size wA).alloc (Nat.le_refl _) (.cells #[.iface T (.pointer (some ⟨q, 0, none⟩)), .int .i64 f, .int .i64 wt, .int .i64 d] 75)).alloc (by simp) (itO id co))).setCell (p := ⟨w.heap.size, 0, none⟩) (Or.inl rfl) _).setCell (p := ⟨w.heap.size, 1, none⟩) (Or.inl rfl) _).drew))
  clear hX hX2 hE hlt c0 c0'
  go_region
  go_wp2
  refine bodyPost_ret (v := tkV (some (f, (id, co)))) ?_ rfl ?_
  · rw [results_tct rfl]; unfold tkV; go_simp; (try rfl)
  · exact HF.out
set_option maxRecDepth 100000 in
set_option maxHeartbeats 4000000 in
theorem takNone (B P R : Nat) (s s' : Fl.St) (F : Nat → Prop) (w : World) (c0 : w.cell? ⟨P, 0, none⟩ = some (.pointer (some ⟨R, 0, none⟩)))
    (k : Calls Try.prog 39 #[.pointer (some ⟨R, 0, none⟩)] (w.alloc zeroI) fun e w' => e = .returned (.tuple #[.agg #[.nilIface, .int .i64 0, .int .i64 0, .int .i64 0], .agg #[.int .i64 0, .int .i64 0], .bool false]) ∧ w'.heap[w.heap.size]? = some zeroI ∧ Hid (∀ W, Chg (fun k => k = w.heap.size) w' W → RetF (tkV none) B P s' F w (.returned (tkV none)) W)) :
    Calls Try.prog 16 #[.pointer (some ⟨P, 0, none⟩)] w (RetF (tkV none) B P s' F w) := by
  have c0' : (w.alloc zeroI).cell? ⟨P, 0, none⟩ = some (.pointer (some ⟨R, 0, none⟩)) := by
    have hb : Below w.heap.size w (w.alloc zeroI) := (Below.refl _ _).alloc (Nat.le_refl _) _
    exact (hb.cell (p := ⟨P, 0, none⟩) (block_lt_of_cell c0)).trans c0
  have K := Lib.hid k
  clear k
  go_enter Try.func16, Try.ntmps16
  go_wp2_with (go_at_call 39; (with_reducible refine K.out.mono ?_); rintro e wA ⟨rfl, hX, hE⟩; have hX2 := (Lib.alloc_old (wA.alloc flO0) zeroI w.heap.size (by have := lt_block hX; simp; omega)).trans ((Lib.alloc_old wA flO0 w.heap.size (lt_block hX)).trans hX); obtain ⟨a0, a1⟩ := it_cells hX2; have f0 := frozen_of _ w.heap.size 0 _ _ hX2; have f1 := frozen_of _ w.heap.size 1 _ _ hX2)
  have hlt := lt_block hX
  have q1 : wA.heap.size ≠ w.heap.size := by omega
  have q2 : wA.heap.size + 1 ≠ w.heap.size := by omega
  have HF := Lib.hid (hE.out ((((wA.alloc flO0).alloc zeroI).setCell ⟨w.heap.size, 0, none⟩ (.int .i64 0)).setCell ⟨w.heap.size, 1, none⟩ (.int .i64 0)).drew ((((Chg.of_below (F := fun k => k = w.heap.size) (((Below.refl wA.heap.size wA).alloc (Nat.le_refl _) flO0).alloc (by simp) zeroI)).setCell (p := ⟨w.heap.size, 0, none⟩) (Or.inl rfl) _).setCell (p := ⟨w.heap.size, 1, none⟩) (Or.inl rfl) _).drew))
  clear hX hX2 hE hlt c0 c0'
  go_region
  go_wp2
  refine bodyPost_ret (v := tkV none) ?_ rfl ?_
  · rw [results_tct rfl]; unfold tkV; go_simp; (try rfl)
  · exact HF.out
set_option maxRecDepth 100000 in
set_option maxHeartbeats 4000000 in
theorem takSome (B P R : Nat) (s s' : Fl.St) (F : Nat → Prop) (f id co : Int) (w : World) (c0 : w.cell? ⟨P, 0, none⟩ = some (.pointer (some ⟨R, 0, none⟩)))
    (k : Calls Try.prog 39 #[.pointer (some ⟨R, 0, none⟩)] (w.alloc zeroI) fun e w' => ∃ T q wt d, e = .returned (.tuple #[.agg #[.iface T (.pointer (some ⟨q, 0, none⟩)), .int .i64 f, .int .i64 wt, .int .i64 d], .agg #[.int .i64 id, .int .i64 co], .bool true]) ∧ w'.heap[w.heap.size]? = some zeroI ∧ Hid (∀ W, Chg (fun k => k = w.heap.size) w' W → RetF (tkV (some (f, (id, co)))) B P s' F w (.returned (tkV (some (f, (id, co))))) W)) :
    Calls Try.prog 16 #[.pointer (some ⟨P, 0, none⟩)] w (RetF (tkV (some (f, (id, co)))) B P s' F w) := by
  have c0' : (w.alloc zeroI).cell? ⟨P, 0, none⟩ = some (.pointer (some ⟨R, 0, none⟩)) := by
    have hb : Below w.heap.size w (w.alloc zeroI) := (Below.refl _ _).alloc (Nat.le_refl _) _
    exact (hb.cell (p := ⟨P, 0, none⟩) (block_lt_of_cell c0)).trans c0
  have K := Lib.hid k
  clear k
  go_enter Try.func16, Try.ntmps16
  go_wp2_with (go_at_call 39; (with_reducible refine K.out.mono ?_); rintro e wA ⟨T, q, wt, d, rfl, hX, hE⟩; have hX2 := (Lib.alloc_old (wA.alloc (.cells #[.iface T (.pointer (some ⟨q, 0, none⟩)), .int .i64 f, .int .i64 wt, .int .i64 d] 75)) (itO id co) w.heap.size (by have := lt_block hX; simp; omega)).trans ((Lib.alloc_old wA (.cells #[.iface T (.pointer (some ⟨q, 0, none⟩)), .int .i64 f, .int .i64 wt, .int .i64 d] 75) w.heap.size (lt_block hX)).trans hX); obtain ⟨a0, a1⟩ := it_cells hX2; have f0 := frozen_of _ w.heap.size 0 _ _ hX2; have f1 := frozen_of _ w.heap.size 1 _ _ hX2)
  have hlt := lt_block hX
  have q1 : wA.heap.size ≠ w.heap.size := by omega
  have q2 : wA.heap.size + 1 ≠ w.heap.size := by omega
  have HF := Lib.hid (hE.out ((((wA.alloc (.cells #[.iface T (.pointer (some ⟨q, 0, none⟩)), .int .i64 f, .int .i64 wt, .int .i64 d] 75)).alloc (itO id co)).setCell ⟨w.heap.size, 0, none⟩ (.int .i64 id)).setCell ⟨w.heap.size, 1, none⟩ (.int .i64 co)).drew ((((Chg.of_below (F := fun k => k = w.heap.size) (((Below.refl wA.heap.size wA).alloc (Nat.le_refl _) (.cells #[.iface T (.pointer (some ⟨q, 0, none⟩)), .int .i64 f, .int .i64 wt, .int .i64 d] 75)).alloc (by simp) (itO id co))).setCell (p := ⟨w.heap.size, 0, none⟩) (Or.inl rfl) _).setCell (p := ⟨w.heap.size, 1, none⟩) (Or.inl rfl) _).drew))
  clear hX hX2 hE hlt c0 c0'
  go_region
  go_wp2
  refine bodyPost_ret (v := tkV (some (f, (id, co)))) ?_ rfl ?_
  · rw [results_tct rfl]; unfold tkV; go_simp; (try rfl)
  · exact HF.out
theorem flPickC (B P : Nat) (s : Fl.St) (F : Nat → Prop) (w : World) (h : FIs w B P s F) (hG : Fl.Good s) (hL : Fl.Lim 64 s) (hS : Fl.Small 90000 s) :
    Calls Try.prog 17 #[.pointer (some ⟨P, 0, none⟩)] w (RetF (tkV s.takeV) B P s.pick F w) := by
  obtain ⟨R, m, ns, x, y, h1, h2, h3⟩ := h
  have hb : Below w.heap.size w (w.alloc zeroI) := (Below.refl _ _).alloc (Nat.le_refl _) _
  have hz : w.heap.size < (w.alloc zeroI).heap.size := by simp
  obtain ⟨hGp, _, _⟩ := hG.pick hL
  have hk0 := pickC B R m s ns x y (footG R m ns) (w.alloc zeroI) (h1.r.below hb) h2 (fun k => Iff.rfl) hG hL hS
  by_cases hn : s.pick.l = []
  · rw [takeV_nil hn]
    refine pickNone B P R s s.pick F w h1.c0 (hk0.mono fun e w' hr => ?_)
    obtain ⟨ns', x', y', e1, e2, e3, e4⟩ := hr.s
    rw [hn] at e3
    obtain rfl : ns' = [] := by simpa using e3
    exact ⟨e1, hr.c.keep (heap_alloc_new _ _) (fun hf => by have := (h1.r.lt _ hf).2; omega), Lib.hid fun W hW => h1.step _ h3 hb hz e2 (by rw [hn]; rfl) (fun k hk => Or.inl ((e4 k).1 hk)) hr.c hW⟩
  · cases hl : s.pick.l with
    | nil => exact absurd hl hn
    | cons r t =>
      have hok := hGp.ok r (by rw [hl]; simp)
      cases hi : r.its with
      | nil => exact absurd hi hok.ne
      | cons e0 rest =>
        obtain ⟨id, co⟩ := e0
        have htv : s.takeV = some (r.f, (id, co)) := by
          unfold Fl.St.takeV
          rw [hl]
          show (r.its.head?).map (fun x => (r.f, x)) = _
          rw [hi]; rfl
        rw [htv]
        refine pickSome B P R s s.pick F r.f id co w h1.c0 (hk0.mono fun e w' hr => ?_)
        obtain ⟨ns', x', y', e1, e2, e3, e4⟩ := hr.s
        cases ns' with
        | nil => rw [hl] at e3; cases e3
        | cons n t' =>
          have e5 := e3
          rw [hl] at e5
          have e6 : n.r = r := (List.cons.inj e5).1
          refine ⟨n.t, n.q, n.r.w, n.r.d, ?_, hr.c.keep (heap_alloc_new _ _) (fun hf => by have := (h1.r.lt _ hf).2; omega), Lib.hid fun W hW => h1.step _ h3 hb hz e2 e3 (fun k hk => Or.inl ((e4 k).1 hk)) hr.c hW⟩
          rw [e1]
          show Ending.returned (.tuple #[.agg #[.iface n.t (.pointer (some ⟨n.q, 0, none⟩)), .int .i64 n.r.f, .int .i64 n.r.w, .int .i64 n.r.d], .agg #[.int .i64 (n.r.its.head?.getD (0, 0)).1, .int .i64 (n.r.its.head?.getD (0, 0)).2], .bool true]) = _
          rw [e6, hi]; rfl
theorem flTakeC (B P : Nat) (s : Fl.St) (F : Nat → Prop) (w : World) (h : FIs w B P s F) (hG : Fl.Good s) (hL : Fl.Lim 64 s) (hS : Fl.Small 90000 s) (hB : B ≤ w.heap.size) :
    Calls Try.prog 16 #[.pointer (some ⟨P, 0, none⟩)] w (RetF (tkV s.takeV) B P s.take F w) := by
  obtain ⟨R, m, ns, x, y, h1, h2, h3⟩ := h
  have hb : Below w.heap.size w (w.alloc zeroI) := (Below.refl _ _).alloc (Nat.le_refl _) _
  have hz : w.heap.size < (w.alloc zeroI).heap.size := by simp
  have hk0 := robTakeC B R m s ns x y (footG R m ns) (w.alloc zeroI) (h1.r.below hb) h2 (fun k => Iff.rfl) hG hL hS (by omega)
  cases htv : s.takeV with
  | none =>
    refine takNone B P R s s.take F w h1.c0 (hk0.mono fun e w' hr => ?_)
    obtain ⟨ns', x', y', e2, e3, e4⟩ := hr.s
    rcases hr.v with ⟨_, e1⟩ | ⟨f, id, co, T, q, wt, d, e0, e1⟩
    · exact ⟨e1, hr.c.keep (heap_alloc_new _ _) (fun hf => by have := (h1.r.lt _ hf).2; omega), Lib.hid fun W hW => h1.step _ h3 hb hz e2 e3 e4 hr.c hW⟩
    · rw [htv] at e0; cases e0
  | some v =>
    obtain ⟨f, id, co⟩ := v
    refine takSome B P R s s.take F f id co w h1.c0 (hk0.mono fun e w' hr => ?_)
    obtain ⟨ns', x', y', e2, e3, e4⟩ := hr.s
    rcases hr.v with ⟨e0, e1⟩ | ⟨f', id', co', T, q, wt, d, e0, e1⟩
    · rw [htv] at e0; cases e0
    · rw [htv] at e0
      cases e0
      exact ⟨T, q, wt, d, e1, hr.c.keep (heap_alloc_new _ _) (fun hf => by have := (h1.r.lt _ hf).2; omega), Lib.hid fun W hW => h1.step _ h3 hb hz e2 e3 e4 hr.c hW⟩
end Go.Proofs.Ytgeoebodlcbebaa

namespace Fl
theorem with_split {s : St} {x r : Rw} {a b : List Rw} (hnd : (s.l.map (·.f)).Nodup) (hl : s.l = a ++ r :: b) (hf : r.f = x.f) : (s.with x).l = (if x.its = [] then a ++ b else a ++ x :: b) ∧ (s.with x).g = (if x.its = [] ∧ a = [] then false else s.g) := by
  rw [with_l, hl]
  rw [hl] at hnd
  refine ⟨?_, ?_⟩
  · rw [put_split hnd hf]
    by_cases h : x.its = [] <;> simp [h]
  · by_cases h : x.its = []
    · cases a with
      | nil => rw [if_pos ⟨h, rfl⟩]; exact with_first (x := x) hl hf h
      | cons r0 a =>
        rw [if_neg (fun e => by cases e.2)]
        exact with_later (x := x) hl (fun e => (nd_split hnd).1 r0 (by simp) (by rw [e, hf]))
    · rw [if_neg (fun e => h e.1), with_stay h]
end Fl
namespace Ff
theorem find_has (l : List E) (id : Int) : (l.find? (fun e => e.1 == id)).isSome = has l id := by
  unfold has
  induction l with
  | nil => rfl
  | cons x t ih =>
    rw [List.find?_cons, List.any_cons]
    cases h : (x.1 == id) with
    | true => rfl
    | false => simpa using ih
end Ff
namespace Go.Proofs.Ytgeoebodlcbebaa
open Go.RowKit
open Rb (Nd)
set_option linter.unusedVariables false

structure RetSA (B R m : Nat) (q : Int) (g : Bool) (a : List Nd) (n : Nd) (b : List Nd) (w : World) (e : Ending) (w' : World) : Prop where
  e : e = .returned (.tuple #[])
  s : ∃ x y, RIn w' B R m q (if n.r.its = [] ∧ a = [] then false else g) (if n.r.its = [] then a ++ b else a ++ n :: b) x y
  c : Chg (footG R m (a ++ n :: b)) w w'
theorem settleAny (B R m : Nat) (q : Int) (g : Bool) (a : List Nd) (n : Nd) (b : List Nd) (x y : Nat → Nat) (w : World) (h : RIn w B R m q g (a ++ n :: b) x y) (hl : n.r.its.length ≤ 1000000) :
    Calls Try.prog 42 #[.pointer (some ⟨R, 0, none⟩), .int .i64 n.r.f] w (RetSA B R m q g a n b w) := by
  by_cases hi : n.r.its = []
  · cases a with
    | nil => exact (settleFirst B R m q g n b x y w h hl).mono fun e w' hr => ⟨hr.e, by have := hr.s; rw [if_pos hi, if_pos hi] at this; rw [if_pos ⟨hi, rfl⟩, if_pos hi]; exact this, hr.c⟩
    | cons v a => exact (settleLater B R m q g v a b n x y w h hi).mono fun e w' hr => ⟨hr.e, by rw [if_neg (fun e => by cases e.2), if_pos hi]; exact hr.s, hr.c⟩
  · exact (settleWaits B R m q g (a ++ n :: b) x y n w h (by simp) hi hl).mono fun e w' hr => by
      obtain ⟨h1, h2⟩ := hr
      subst h2
      exact ⟨h1, by rw [if_neg (fun e => hi e.1), if_neg hi]; exact ⟨x, y, h⟩, Chg.refl _ _⟩
/-- what calls of the ring below leave -/
theorem FIn.fin {w W : World} {B P R m : Nat} {q : Int} {g : Bool} {ns ns' : List Nd} {x y x' y' : Nat → Nat} {F : Nat → Prop} {s' : Fl.St} (v : Value) (h : FIn w B P R m q g ns x y) (hF : ∀ k, F k ↔ footF P R m ns k)
    (hr : RIn W B R m s'.q s'.g ns' x' y') (hl : ns'.map (·.r) = s'.l) (hf : ∀ k, footG R m ns' k → footG R m ns k ∨ w.heap.size ≤ k) (hc : Chg (footG R m ns) w W) : RetF v B P s' F w (.returned v) W := by
  refine ⟨rfl, ⟨footF P R m ns', ⟨R, m, ns', x', y', ⟨hc.keep h.p h.np, hr, fun hk => ?_, h.lo⟩, hl, fun k => Iff.rfl⟩, fun k hk => ?_⟩, hc.mono (fun k hk => Or.inl ((hF k).2 (Or.inr hk)))⟩
  · rcases hf P hk with h1 | h1
    · exact h.np h1
    · have := lt_block h.p; omega
  · rcases hk with e | hk
    · exact Or.inl ((hF k).2 (Or.inl e))
    · rcases hf k hk with h1 | h1
      · exact Or.inl ((hF k).2 (Or.inr h1))
      · right; exact h1
/-- a ring in the course of a call that began at w with the links ns -/
structure FlQ (w : World) (B P R m : Nat) (q : Int) (ns : List Nd) (g : Bool) (ns' : List Nd) (x y : Nat → Nat) (W : World) : Prop where
  r : RIn W B R m q g ns' x y
  f : ∀ k, footG R m ns' k → footG R m ns k ∨ w.heap.size ≤ k
  c : Chg (footG R m ns) w W
  p : w.heap[P]? = some (ringO R) ∧ ¬ footG R m ns P
  b : B ≤ w.heap.size
section
variable {w W W' : World} {B P R m : Nat} {q : Int} {ns : List Nd} {g : Bool} {ns' : List Nd} {x y : Nat → Nat}
theorem FlQ.start (h : FIn w B P R m q g ns x y) (hb : Below w.heap.size w W) (hB : B ≤ w.heap.size) : FlQ w B P R m q ns g ns x y W := ⟨h.r.below hb, fun k hk => Or.inl hk, Chg.of_below hb, ⟨h.p, h.np⟩, hB⟩
theorem FlQ.below (h : FlQ w B P R m q ns g ns' x y W) (hb : Below W.heap.size W W') : FlQ w B P R m q ns g ns' x y W' := ⟨h.r.below hb, h.f, h.c.then hb, h.p, h.b⟩
theorem FlQ.c0 (h : FlQ w B P R m q ns g ns' x y W) : W.cell? ⟨P, 0, none⟩ = some (.pointer (some ⟨R, 0, none⟩)) := by rw [cell_of_row W _ _ _ _ _ (h.c.keep h.p.1 h.p.2)]; rfl
theorem FlQ.chg {ns2 : List Nd} {g2 : Bool} {x2 y2 : Nat → Nat} (h : FlQ w B P R m q ns g ns' x y W) (hr : RIn W' B R m q g2 ns2 x2 y2) (hf : ∀ k, footG R m ns2 k → footG R m ns' k ∨ W.heap.size ≤ k) (hc : Chg (footG R m ns') W W') : FlQ w B P R m q ns g2 ns2 x2 y2 W' :=
  ⟨hr, fun k hk => by
    rcases hf k hk with e | e
    · exact h.f k e
    · exact Or.inr (Nat.le_trans h.c.size e), h.c.trans hc h.f, h.p, h.b⟩
/-- a block outside -/
theorem FlQ.box {k : Nat} {o : Obj} (h : FlQ w B P R m q ns g ns' x y W) (hk : w.heap[k]? = some o) (hn : ¬ footG R m ns k) : W.heap[k]? = some o := h.c.keep hk hn
end
theorem fq_drop {w : World} {B P R m : Nat} {q : Int} {ns : List Nd} {g : Bool} {a b : List Nd} {n : Nd} {x y : Nat → Nat} {W : World} (h : FlQ w B P R m q ns g (a ++ n :: b) x y W) (id : Int) (hid : (Lit.int .i64 id).wf = true) (hl : n.r.its.length ≤ 90000) :
    Calls Try.prog 41 #[.pointer (some ⟨n.q, 0, none⟩), .int .i64 id] W fun e W' => ∃ i c, e = .returned (.tuple #[.agg #[.int .i64 i, .int .i64 c], .bool (Ff.has n.r.its id)]) ∧ ∃ F', Hid (FlQ w B P R m q ns g (a ++ n.que F' (Ff.drop n.r.its id) :: b) x y W') := by
  refine (dropC B n.q n.r.its n.F id W (h.r.qs.q n (by simp)) hid (by omega)).mono fun e W' hr => ?_
  obtain ⟨F', r1, r2, r3⟩ := RIn.queue h.r (Nat.le_trans h.b h.c.size) hr
  refine ⟨((n.r.its.find? (fun e => e.1 == id)).getD (0, 0)).1, ((n.r.its.find? (fun e => e.1 == id)).getD (0, 0)).2, hr.r.trans ?_, F', Lib.hid (h.chg r1 r2 r3)⟩
  unfold itemV
  rw [Ff.find_has]
theorem fq_settle {w : World} {B P R m : Nat} {q : Int} {ns : List Nd} {g : Bool} {a b : List Nd} {n : Nd} {x y : Nat → Nat} {W : World} (h : FlQ w B P R m q ns g (a ++ n :: b) x y W) (hl : n.r.its.length ≤ 90000) :
    Calls Try.prog 42 #[.pointer (some ⟨R, 0, none⟩), .int .i64 n.r.f] W fun e W' => e = .returned (.tuple #[]) ∧ ∃ x2 y2, Hid (FlQ w B P R m q ns (if n.r.its = [] ∧ a = [] then false else g) (if n.r.its = [] then a ++ b else a ++ n :: b) x2 y2 W') := by
  refine (settleAny B R m q g a n b x y W h.r (by omega)).mono fun e W' hr => ⟨hr.e, ?_⟩
  obtain ⟨x2, y2, h1⟩ := hr.s
  refine ⟨x2, y2, Lib.hid (h.chg h1 (fun k hk => Or.inl ?_) hr.c)⟩
  by_cases hi : n.r.its = []
  · rw [if_pos hi] at hk; exact footG_sub k hk
  · rw [if_neg hi] at hk; exact hk
set_option maxRecDepth 100000 in
set_option maxHeartbeats 4000000 in
theorem flDropC (B P : Nat) (s : Fl.St) (F : Nat → Prop) (f id : Int) (w : World) (h : FIs w B P s F) (hG : Fl.Good s) (hS : Fl.Small 90000 s) (hB : B ≤ w.heap.size) (hf : (Lit.int .i64 f).wf = true) (hid : (Lit.int .i64 id).wf = true) :
    Calls Try.prog 18 #[.pointer (some ⟨P, 0, none⟩), .int .i64 f, .int .i64 id] w (RetF (.bool (s.dropB f id)) B P (s.drop f id) F w) := by
  obtain ⟨R, m, ns, x, y, h1, h2, h3⟩ := h
  cases hr : Fl.row s.l f with
  | none =>
    have hd : s.dropB f id = false := by unfold Fl.St.dropB; rw [hr]
    rw [hd, Fl.drop_no hd]
    have K := Lib.hid (queueNo B P R m _ _ ns x y f w h1 hf (node_no h2 hr))
    have K2 := Lib.hid (fun W => nilDrop id W)
    have HF := Lib.hid (fun W (hW : Below w.heap.size w W) => h1.fin (.bool false) h3 (h1.r.below hW) h2 (fun k hk => Or.inl hk) (Chg.of_below hW))
    unfold itemV at K2
    clear h1 h2 h3 hr hf hid hG hS hd hB
    go_enter Try.func18, Try.ntmps18
    go_wp2_with (first | (go_at_call 32; (with_reducible refine K.out.mono ?_); rintro e wA ⟨rfl, hA⟩) | (go_at_call 41; (with_reducible refine (K2.out _).mono ?_); rintro e wB ⟨rfl, hB⟩))
    go_ret
    exact HF.out _ ((hA.trans (hB.mono hA.size)).alloc (Nat.le_trans hA.size hB.size) _)
  | some r =>
    obtain ⟨n, hn, rfl, rfl⟩ := node_of h2 hr
    have hmem : n.r ∈ s.l := (Fl.row_mem hr).1
    have hli := hS.its n.r hmem
    have K := Lib.hid (queueYes B P R m _ _ ns x y n w h1 hn)
    obtain ⟨a, b, rfl⟩ := List.append_of_mem hn
    have hld : (Ff.drop n.r.its id).length ≤ 90000 := Nat.le_trans (Ff.drop_length _ _) hli
    have K2 := Lib.hid (fun W (hW : Below w.heap.size w W) => fq_drop (FlQ.start h1 hW hB) id hid hli)
    cases hh : Ff.has n.r.its id with
    | false =>
      have hd : s.dropB n.r.f id = false := by unfold Fl.St.dropB; rw [hr]; exact hh
      rw [hd, Fl.drop_no hd]
      have hdr : Ff.drop n.r.its id = n.r.its := Ff.drop_no (Ff.has_no.1 hh)
      rw [hh] at K2
      have HF := Lib.hid (fun F' W (hW : FlQ w B P R m s.q (a ++ n :: b) s.g (a ++ n.que F' (Ff.drop n.r.its id) :: b) x y W) => h1.fin (s' := s) (.bool false) h3 hW.r (by rw [hdr, ← h2]; simp [Rb.Nd.que]) hW.f hW.c)
      generalize n.q = Q at *
      clear h1 h2 h3 hr hf hid hG hS hd hB hn hmem hli hld hh
      go_enter Try.func18, Try.ntmps18
      go_wp2_with (first | (go_at_call 32; (with_reducible refine K.out.mono ?_); rintro e wA ⟨rfl, hA⟩) | (go_at_call 41; (with_reducible refine (K2.out _ hA).mono ?_); rintro e wB ⟨i, c, rfl, F', hB⟩))
      go_ret
      exact HF.out _ _ (hB.out.below ((Below.refl _ _).alloc (Nat.le_refl _) _))
    | true =>
      have hd : s.dropB n.r.f id = true := by unfold Fl.St.dropB; rw [hr]; exact hh
      obtain ⟨r2, hr2, _, hdd⟩ := Fl.drop_yes hd
      rw [hr] at hr2
      cases hr2
      rw [hd]
      rw [hh] at K2
      have hsl : s.l = a.map (·.r) ++ n.r :: b.map (·.r) := by rw [← h2]; simp
      obtain ⟨e1, e2⟩ := Fl.with_split (x := { n.r with its := Ff.drop n.r.its id }) hG.nd hsl rfl
      have K3 := Lib.hid (fun F' W (hW : FlQ w B P R m s.q (a ++ n :: b) s.g (a ++ n.que F' (Ff.drop n.r.its id) :: b) x y W) => (show Calls Try.prog 42 #[.pointer (some ⟨R, 0, none⟩), .int .i64 n.r.f] W _ from fq_settle (n := n.que F' (Ff.drop n.r.its id)) hW hld))
      have HF := Lib.hid (fun F' x2 y2 W (hW : FlQ w B P R m s.q (a ++ n :: b) (if Ff.drop n.r.its id = [] ∧ a = [] then false else s.g) (if Ff.drop n.r.its id = [] then a ++ b else a ++ n.que F' (Ff.drop n.r.its id) :: b) x2 y2 W) => h1.fin (s' := s.drop n.r.f id) (.bool true) h3 (by
        rw [hdd]
        have hg : (s.with { n.r with its := Ff.drop n.r.its id }).g = (if Ff.drop n.r.its id = [] ∧ a = [] then false else s.g) := by
          rw [e2]
          simp
        rw [hg]
        exact hW.r) (by
        rw [hdd, e1]
        by_cases hi : Ff.drop n.r.its id = []
        · rw [if_pos hi, if_pos hi]; simp
        · rw [if_neg hi, if_neg hi]; simp [Rb.Nd.que]) hW.f hW.c)
      have HP := Lib.hid (fun F' W (hW : FlQ w B P R m s.q (a ++ n :: b) s.g (a ++ n.que F' (Ff.drop n.r.its id) :: b) x y W) => hW.c0)
      generalize n.q = Q at *
      clear h1 h2 h3 hr hf hid hG hS hd hB hn hmem hli hld hh e1 e2 hsl hdd
      go_enter Try.func18, Try.ntmps18
      go_wp2_with (first | (go_at_call 32; (with_reducible refine K.out.mono ?_); rintro e wA ⟨rfl, hA⟩) | (go_at_call 41; (with_reducible refine (K2.out _ hA).mono ?_); rintro e wB ⟨i, c, rfl, F', hB⟩; have hC := Lib.hid (hB.out.below ((Below.refl _ _).alloc (Nat.le_refl _) (itO i c))); have c0 := HP.out _ _ hC.out) | (go_at_call 42; (with_reducible refine (K3.out _ _ hC.out).mono ?_); rintro e wD ⟨rfl, x2, y2, hD⟩))
      go_ret
      exact HF.out _ _ _ _ hD.out
end Go.Proofs.Ytgeoebodlcbebaa

namespace Go.Proofs.Ytgeoebodlcbebaa
open Go.RowKit
open Rb (Nd)
set_option linter.unusedVariables false

theorem QIs.base {w : World} {B B' P : Nat} {l : List Ff.E} {F : Nat → Prop} (h : QIs w B P l F) (hb : B' ≤ B) : QIs w B' P l F := by
  obtain ⟨m, s, ns, aft, bef, h1, h2, h3, h4, h5, h6⟩ := h
  exact ⟨m, s, ns, aft, bef, h1, h2, h3, h4, h5, fun k hk => Nat.le_trans hb (h6 k hk)⟩
theorem fits_bad {l : List Fl.Rw} {f wt : Int} (h : (f < 0 ∨ wt < 1 ∨ wt > 16) ∨ ∃ r, Fl.row l f = some r ∧ r.w ≠ wt) : fits l f wt = false := by
  unfold fits
  rcases h with (h | h | h) | ⟨r, hr, hw⟩
  · rw [show decide (f ≥ 0) = false from decide_eq_false (by omega)]; rfl
  · rw [show decide (wt ≥ 1) = false from decide_eq_false (by omega)]; simp
  · rw [show decide (wt ≤ 16) = false from decide_eq_false (by omega)]; simp
  · rw [hr]; dsimp only; rw [show decide (r.w = wt) = false from decide_eq_false hw]; simp
theorem fits_ok {l : List Fl.Rw} {f wt : Int} (h : ¬ (f < 0 ∨ wt < 1 ∨ wt > 16)) (h2 : Fl.row l f = none ∨ ∃ r, Fl.row l f = some r ∧ r.w = wt) : fits l f wt = true := by
  unfold fits
  rw [show decide (f ≥ 0) = true from decide_eq_true (by omega), show decide (wt ≥ 1) = true from decide_eq_true (by omega), show decide (wt ≤ 16) = true from decide_eq_true (by omega)]
  rcases h2 with hr | ⟨r, hr, hw⟩
  · rw [hr]; rfl
  · rw [hr]; dsimp only; rw [show decide (r.w = wt) = true from decide_eq_true hw]; rfl
theorem fq_push {w : World} {B P R m : Nat} {q : Int} {ns : List Nd} {g : Bool} {a b : List Nd} {n : Nd} {x y : Nat → Nat} {W : World} (h : FlQ w B P R m q ns g (a ++ n :: b) x y W) (id co : Int) (hid : (Lit.int .i64 id).wf = true) (hl : n.r.its.length ≤ 90000) :
    Calls Try.prog 36 #[.pointer (some ⟨n.q, 0, none⟩), .agg #[.int .i64 id, .int .i64 co]] W fun e W' => e = .returned (.int .i64 (Ff.pushE n.r.its id co)) ∧ ∃ F', Hid (FlQ w B P R m q ns g (a ++ n.que F' (Ff.pushL n.r.its id co) :: b) x y W') := by
  have hBW : B ≤ W.heap.size := Nat.le_trans h.b h.c.size
  refine (pushC B n.q n.r.its n.F id co W (h.r.qs.q n (by simp)) hid (by omega) hBW).mono fun e W' hr => ⟨hr.r, ?_⟩
  obtain ⟨F', r1, r2, r3⟩ := RIn.queue h.r hBW hr
  exact ⟨F', Lib.hid (h.chg r1 r2 r3)⟩
theorem fq_append {w : World} {B P R m : Nat} {q : Int} {ns : List Nd} {g : Bool} {ns' : List Nd} {x y : Nat → Nat} {W : World} (h : FlQ w B P R m q ns g ns' x y W) (Q : Nat) (F0 : Nat → Prop) (f wt : Int) (its : List Ff.E) (hq : QIs W B Q its F0) (hf0 : ∀ k, F0 k → w.heap.size ≤ k) (hap : ∀ k, F0 k → ¬ footG R m ns' k) (hf : (Lit.int .i64 f).wf = true) (hno : ∀ n' ∈ ns', n'.r.f ≠ f) (hl : ns'.length ≤ 100000) (d : Int) :
    Calls Try.prog 38 #[.pointer (some ⟨R, 0, none⟩), .agg #[.iface 69 (.pointer (some ⟨Q, 0, none⟩)), .int .i64 f, .int .i64 wt, .int .i64 d]] W fun e W' => e = .returned (.tuple #[]) ∧ ∃ (b : Nat) (x2 y2 : Nat → Nat), Hid (FlQ w B P R m q ns g (ns' ++ [⟨b, Q, 69, F0, ⟨f, wt, d, its⟩⟩]) x2 y2 W') := by
  have hBW : B ≤ W.heap.size := Nat.le_trans h.b h.c.size
  have hA : Calls Try.prog 38 #[.pointer (some ⟨R, 0, none⟩), .agg #[.iface 69 (.pointer (some ⟨Q, 0, none⟩)), .int .i64 f, .int .i64 wt, .int .i64 d]] W (RetA B R m q g ns' ⟨0, Q, 69, F0, ⟨f, wt, d, its⟩⟩ W) := by
    cases ns' with
    | nil => exact appendNil B R m q g x y ⟨0, Q, 69, F0, ⟨f, wt, d, its⟩⟩ W h.r hBW rfl hq hap hf
    | cons r t => exact appendMore B R m q g r t x y ⟨0, Q, 69, F0, ⟨f, wt, d, its⟩⟩ W h.r hBW (by simp at hl; omega) rfl hq hap hf hno
  refine hA.mono fun e W' hr => ⟨hr.e, ?_⟩
  obtain ⟨b, x2, y2, h1, h2⟩ := hr.s
  refine ⟨b, x2, y2, Lib.hid ⟨h1, fun k hk => ?_, h.c.trans hr.c h.f, h.p, h.b⟩⟩
  rcases h2 k hk with e | e | e
  · exact h.f k e
  · exact Or.inr (hf0 k e)
  · exact Or.inr (Nat.le_trans h.c.size e)
/-- a queue made in the course of a call -/
structure NwQ (w : World) (B P R m : Nat) (q : Int) (ns : List Nd) (g : Bool) (x y : Nat → Nat) (Q : Nat) (its : List Ff.E) (F0 : Nat → Prop) (id co : Int) (W : World) : Prop where
  r : FlQ w B P R m q ns g ns x y W
  q : QIs W B Q its F0
  f : ∀ k, F0 k → w.heap.size < k
  ap : ∀ k, F0 k → ¬ footG R m ns k
  x : W.heap[w.heap.size]? = some (itO id co)
theorem fq_new {w : World} {B P R m : Nat} {q : Int} {ns : List Nd} {g : Bool} {x y : Nat → Nat} {W : World} {id co : Int} (h : FIn w B P R m q g ns x y) (hB : B ≤ w.heap.size) (hb : Below w.heap.size w W) (hx : W.heap[w.heap.size]? = some (itO id co)) :
    Calls Try.prog 37 #[] W fun e W' => ∃ Q, e = .returned (.pointer (some ⟨Q, 0, none⟩)) ∧ ∃ F0, Hid (NwQ w B P R m q ns g x y Q [] F0 id co W') := by
  refine (newQC W).mono fun e W' hr => ?_
  obtain ⟨Q, F0, rfl, hq⟩ := hr.s
  have hlt := lt_block hx
  refine ⟨Q, rfl, F0, Lib.hid ⟨FlQ.start h (hb.trans (hr.b.mono hb.size)) hB, hq.base (Nat.le_trans hB hb.size), fun k hk => ?_, fun k hk hf => ?_, (hr.b.block _ hlt).trans hx⟩⟩
  · have := (hq.lt k hk).1; omega
  · have h1 := (hq.lt k hk).1
    have h2 := (h.r.lt k hf).2
    omega
theorem nw_push {w : World} {B P R m : Nat} {q : Int} {ns : List Nd} {g : Bool} {x y : Nat → Nat} {Q : Nat} {its : List Ff.E} {F0 : Nat → Prop} {W : World} {id co : Int} (h : NwQ w B P R m q ns g x y Q its F0 id co W) (hid : (Lit.int .i64 id).wf = true) (hl : its.length ≤ 90000) :
    Calls Try.prog 36 #[.pointer (some ⟨Q, 0, none⟩), .agg #[.int .i64 id, .int .i64 co]] W fun e W' => e = .returned (.int .i64 (Ff.pushE its id co)) ∧ ∃ F1, Hid (NwQ w B P R m q ns g x y Q (Ff.pushL its id co) F1 id co W') := by
  have hBW : B ≤ W.heap.size := Nat.le_trans h.r.b h.r.c.size
  refine (pushC B Q its F0 id co W h.q hid (by omega) hBW).mono fun e W' hr => ⟨hr.r, ?_⟩
  obtain ⟨F1, g1, g2⟩ := hr.s
  have hlt := lt_block h.x
  refine ⟨F1, Lib.hid ⟨⟨h.r.r.keep (fun k hk => hr.c.block k (h.r.r.lt k hk).2 (fun hf => h.ap k hf hk)), h.r.f, h.r.c.trans hr.c (fun k hk => Or.inr (Nat.le_of_lt (h.f k hk))), h.r.p, h.r.b⟩, g1, fun k hk => ?_, fun k hk hf => ?_, hr.c.keep h.x (fun hf => by have := h.f _ hf; omega)⟩⟩
  · rcases g2 k hk with e | e
    · exact h.f k e
    · omega
  · rcases g2 k hk with e | e
    · exact h.ap k e hf
    · have := (h.r.r.lt k hf).2; omega
set_option maxRecDepth 100000 in
set_option maxHeartbeats 4000000 in
theorem flPushC (B P : Nat) (s : Fl.St) (F : Nat → Prop) (f wt id co : Int) (w : World) (h : FIs w B P s F) (hG : Fl.Good s) (hS : Fl.Small 90000 s) (hB : B ≤ w.heap.size) (hf : (Lit.int .i64 f).wf = true) (hid : (Lit.int .i64 id).wf = true) :
    Calls Try.prog 15 #[.pointer (some ⟨P, 0, none⟩), .int .i64 f, .int .i64 wt, .agg #[.int .i64 id, .int .i64 co]] w (RetF (.int .i64 (s.pushE f wt id co)) B P (s.push f wt id co) F w) := by
  have hbx : Below w.heap.size w (w.alloc (itO id co)) := (Below.refl _ _).alloc (Nat.le_refl _) _
  obtain ⟨R, hc0, hrob⟩ := (h.below hbx).rob
  have KF := fitsC B R s _ f wt _ hrob hf
  obtain ⟨R', m, ns, x, y, h1, h2, h3⟩ := h
  obtain rfl : R' = R := by
    have := (h1.below hbx).c0
    rw [hc0] at this
    simpa using this.symm
  have hX : (w.alloc (itO id co)).heap[w.heap.size]? = some (itO id co) := heap_alloc_new _ _
  have hbox : ∀ W, Below (w.alloc (itO id co)).heap.size (w.alloc (itO id co)) W → Below w.heap.size w W ∧ W.heap[w.heap.size]? = some (itO id co) ∧ W.cell? ⟨P, 0, none⟩ = some (.pointer (some ⟨R', 0, none⟩)) := fun W hW => by
    have hbw := hbx.trans (hW.mono (by simp))
    exact ⟨hbw, (hW.block _ (by simp)).trans hX, (h1.below hbw).c0⟩
  rcases Fl.push_cases s f wt id co with hbad | ⟨hok, hrow⟩
  · rw [fits_bad hbad] at KF
    obtain ⟨p1, p2⟩ := Fl.push_bad (id := id) (c := co) hbad
    rw [p1, p2]
    have K := Lib.hid KF
    have HF := Lib.hid (fun W (hW : Below (w.alloc (itO id co)).heap.size (w.alloc (itO id co)) W) => h1.fin (s' := s) (.int .i64 1) h3 (h1.r.below (hbox W hW).1) h2 (fun k hk => Or.inl hk) (Chg.of_below (hbox W hW).1))
    clear h1 h2 h3 hf hid hG hS hB hbox hX hbx hrob KF p1 p2 hbad
    go_enter Try.func15, Try.ntmps15
    go_wp2_with (go_at_call 35; (with_reducible refine K.out.mono ?_); rintro e wA ⟨rfl, hA⟩)
    go_ret
    exact HF.out _ hA
  · rw [fits_ok hok hrow] at KF
    have K := Lib.hid KF
    cases hr : Fl.row s.l f with
    | none =>
      obtain ⟨p1, p2⟩ := Fl.push_new (id := id) (c := co) hok hr
      rw [p1, p2]
      have hno := node_no h2 hr
      have K2 := Lib.hid (fun W (hW : Below (w.alloc (itO id co)).heap.size (w.alloc (itO id co)) W) => queueNo B P R' m _ _ ns x y f W (h1.below (hbox W hW).1) hf hno)
      have K3 := Lib.hid (fun W (hW : Below (w.alloc (itO id co)).heap.size (w.alloc (itO id co)) W) => fq_new (id := id) (co := co) h1 hB (hbox W hW).1 (hbox W hW).2.1)
      have K4 := Lib.hid (fun Q F0 W (hW : NwQ w B P R' m s.q ns s.g x y Q [] F0 id co W) => nw_push hW hid (by decide))
      have HBX := Lib.hid hbox
      have HIT := Lib.hid (fun Q its F0 W (hW : NwQ w B P R' m s.q ns s.g x y Q its F0 id co W) => it_cells hW.x)
      have hln : ns.length ≤ 90000 := by have := hS.l; rw [← h2] at this; simpa using this
      by_cases he : Ff.pushE [] id co = 0
      · obtain ⟨e1, e2, e3⟩ := Fl.pushE_zero he
        rw [if_pos he, he]
        rw [he, e3] at K4
        have K5 := Lib.hid (fun Q F0 W (hW : NwQ w B P R' m s.q ns s.g x y Q ([] ++ [(id, co)]) F0 id co W) => fq_append hW.r Q F0 f wt ([] ++ [(id, co)]) hW.q (fun k hk => Nat.le_of_lt (hW.f k hk)) hW.ap hf hno (by omega) 0)
        have HF := Lib.hid (fun b Q F0 x2 y2 W (hW : FlQ w B P R' m s.q ns s.g (ns ++ [⟨b, Q, 69, F0, ⟨f, wt, 0, [] ++ [(id, co)]⟩⟩]) x2 y2 W) => h1.fin (s' := { s with l := s.l ++ [⟨f, wt, 0, [(id, co)]⟩] }) (.int .i64 0) h3 hW.r (by rw [List.map_append, h2]; rfl) hW.f hW.c)
        have HC0 := Lib.hid (fun Q its F0 W (hW : NwQ w B P R' m s.q ns s.g x y Q its F0 id co W) => hW.r.c0)
        clear h1 h2 h3 hf hid hG hS hB hbox hX hbx hrob KF p1 p2 hok hrow hr hno hln he e1 e2 e3
        go_enter Try.func15, Try.ntmps15
        go_wp2_with (first | (go_at_call 35; (with_reducible refine K.out.mono ?_); rintro e wA ⟨rfl, hA⟩) | (go_at_call 32; (with_reducible refine (K2.out _ hA).mono ?_); rintro e wB ⟨rfl, hB⟩; have hB2 := Lib.hid (hA.trans (hB.mono hA.size))) | (go_at_call 37; (with_reducible refine (K3.out _ hB2.out).mono ?_); rintro e wC ⟨Q, rfl, F0, hC⟩; obtain ⟨i0, i1⟩ := HIT.out _ _ _ _ hC.out) | (go_at_call 36; (with_reducible refine (K4.out _ _ _ hC.out).mono ?_); rintro e wD ⟨rfl, F1, hD⟩; have c5 := HC0.out _ _ _ _ hD.out) | (go_at_call 38; (with_reducible refine (K5.out _ _ _ hD.out).mono ?_); rintro e wE ⟨rfl, b2, x2, y2, hE⟩))
        go_ret
        exact HF.out _ _ _ _ _ _ hE.out
      · rw [if_neg he]
        have HF := Lib.hid (fun Q its F0 W (hW : NwQ w B P R' m s.q ns s.g x y Q its F0 id co W) => h1.fin (s' := s) (.int .i64 (Ff.pushE [] id co)) h3 hW.r.r h2 hW.r.f hW.r.c)
        have t9 : (Ff.pushE [] id co == 0) = false := by simpa using he
        generalize Ff.pushE [] id co = E at *
        clear h1 h2 h3 hf hid hG hS hB hbox hX hbx hrob KF p1 p2 hok hrow hr hno hln he
        go_enter Try.func15, Try.ntmps15
        go_wp2_with (first | (go_at_call 35; (with_reducible refine K.out.mono ?_); rintro e wA ⟨rfl, hA⟩) | (go_at_call 32; (with_reducible refine (K2.out _ hA).mono ?_); rintro e wB ⟨rfl, hB⟩; have hB2 := Lib.hid (hA.trans (hB.mono hA.size))) | (go_at_call 37; (with_reducible refine (K3.out _ hB2.out).mono ?_); rintro e wC ⟨Q, rfl, F0, hC⟩; obtain ⟨i0, i1⟩ := HIT.out _ _ _ _ hC.out) | (go_at_call 36; (with_reducible refine (K4.out _ _ _ hC.out).mono ?_); rintro e wD ⟨rfl, F1, hD⟩))
        go_ret
        exact HF.out _ _ _ _ hD.out
    | some r =>
      obtain ⟨n, hn, rfl, rfl⟩ := node_of h2 hr
      have hw : n.r.w = wt := by
        rcases hrow with hrow | ⟨r2, hr2, hw⟩
        · rw [hr] at hrow; cases hrow
        · rw [hr] at hr2; cases hr2; exact hw
      obtain ⟨p1, p2⟩ := Fl.push_there (id := id) (c := co) hok hr hw
      rw [p1, p2]
      have hmem : n.r ∈ s.l := (Fl.row_mem hr).1
      have hli := hS.its n.r hmem
      have hne := (hG.ok n.r hmem).ne
      have hpn : Ff.pushL n.r.its id co ≠ [] := by
        unfold Ff.pushL
        split
        · exact hne
        · split
          · exact hne
          · simp
      have K2 := Lib.hid (fun W (hW : Below (w.alloc (itO id co)).heap.size (w.alloc (itO id co)) W) => queueYes B P R' m _ _ ns x y n W (h1.below (hbox W hW).1) hn)
      obtain ⟨a, b, rfl⟩ := List.append_of_mem hn
      have K3 := Lib.hid (fun W (hW : Below (w.alloc (itO id co)).heap.size (w.alloc (itO id co)) W) => fq_push (FlQ.start h1 (hbox W hW).1 hB) id co hid hli)
      have hsl : s.l = a.map (·.r) ++ n.r :: b.map (·.r) := by rw [← h2]; simp
      have hput := Fl.put_set (a := a.map (·.r)) (b := b.map (·.r)) (r := n.r) (x := { n.r with its := Ff.pushL n.r.its id co }) (by rw [← hsl]; exact hG.nd) rfl hpn
      rw [← hsl] at hput
      have HF := Lib.hid (fun F' W (hW : FlQ w B P R' m s.q (a ++ n :: b) s.g (a ++ n.que F' (Ff.pushL n.r.its id co) :: b) x y W) => h1.fin (s' := { s with l := Fl.put s.l { n.r with its := Ff.pushL n.r.its id co } }) (.int .i64 (Ff.pushE n.r.its id co)) h3 hW.r (by rw [hput]; simp [Rb.Nd.que]) hW.f hW.c)
      have HIT := Lib.hid (fun W (hW : Below (w.alloc (itO id co)).heap.size (w.alloc (itO id co)) W) => it_cells (hbox W hW).2.1)
      generalize n.q = Q at *
      clear h1 h2 h3 hf hid hG hS hB hbox hX hbx hrob KF p1 p2 hok hrow hr hn hw hmem hli hne hpn hsl hput
      go_enter Try.func15, Try.ntmps15
      go_wp2_with (first | (go_at_call 35; (with_reducible refine K.out.mono ?_); rintro e wA ⟨rfl, hA⟩) | (go_at_call 32; (with_reducible refine (K2.out _ hA).mono ?_); rintro e wB ⟨rfl, hB⟩; have hB2 := Lib.hid (hA.trans (hB.mono hA.size)); obtain ⟨i0, i1⟩ := HIT.out _ hB2.out) | (go_at_call 36; (with_reducible refine (K3.out _ hB2.out).mono ?_); rintro e wD ⟨rfl, F', hD⟩))
      go_ret
      exact HF.out _ _ hD.out
end Go.Proofs.Ytgeoebodlcbebaa

namespace Go.Proofs.Ytgeoebodlcbebaa
open Go.RowKit
open Rb (Nd)
set_option linter.unusedVariables false

theorem cell_eq' {w w' : World} {g : Nat} (h : w'.heap[g]? = w.heap[g]?) (o : Nat) : w'.cell? ⟨g, o, none⟩ = w.cell? ⟨g, o, none⟩ := by
  simp [World.cell?, h]
/-- a row as it lies in a slice: its items in a slice -/
structure DR where
  r : Fl.Rw
  a : Option Addr
  cap : Nat
def eltR : Elt Try.prog DR where
  st := 54
  e := 56
  z := .agg #[.int .i64 0, .int .i64 0, .int .i64 0, .slice none 0 0]
  size := 4
  bytes := 48
  pv := fun d => [.int .i64 d.r.f, .int .i64 d.r.w, .int .i64 d.r.d, .slice d.a d.r.its.length d.cap]
  ht := Try.underlying54
  info := by kernel_rfl
  hz := rfl
  pos := by decide
  le := by decide
  len := fun _ => rfl
  one := fun s u hu => by simp at hu; rcases hu with rfl | rfl | rfl | rfl <;> rfl
/-- its items are there -/
structure DOk (w : World) (d : DR) : Prop where
  v : eltI.View w d.a d.r.its
  z : d.a = none → d.cap = 0
/-- .. and their block is a block of items -/
structure DOkT (w : World) (d : DR) : Prop where
  o : DOk w d
  t : ∀ g off sp, d.a = some ⟨g, off, sp⟩ → ∃ cur, w.heap[g]? = some (.cells cur 48)
theorem DOk.below {w w' : World} {d : DR} (h : DOk w d) (hb : Below w.heap.size w w') : DOk w' d := ⟨h.v.below hb, h.z⟩
theorem dok_of_row {w : World} {B : Nat} {r : Fl.Rw} {v : Value} (h : eltI.Row w B v r.its) : ∃ a c, v = .slice a r.its.length c ∧ DOkT w ⟨r, a, c⟩ := by
  obtain ⟨a, c, e, hf, hz⟩ := h.flat0
  refine ⟨a, c, e, ⟨⟨hf.view, hz⟩, fun g off sp ha => ?_⟩⟩
  obtain ⟨_, ⟨hv, h0⟩ | ⟨g', c2, cur, hv, hg, hc, _⟩⟩ := h
  · rw [hv] at e
    have ha : a = some ⟨g, off, sp⟩ := ha
    rw [ha] at e
    cases e
  · rw [hv] at e
    have ha : a = some ⟨g, off, sp⟩ := ha
    rw [ha] at e
    injection e with e1
    injection e1 with e1
    injection e1 with e1 e2 e3
    exact ⟨cur, by rw [← e1]; exact hc⟩
theorem Elt.Row.type {α : Type} {E : Elt Try.prog α} {w : World} {B : Nat} {v : Value} {l : List α} (h : E.Row w B v l) : ∀ k, v.ownBlock = some k → ∃ cur, w.heap[k]? = some (.cells cur E.e) := fun k hk => by
  obtain ⟨_, ⟨hv, h0⟩ | ⟨g', c2, cur, hv, hg, hc, _⟩⟩ := h
  · rw [hv] at hk; cases hk
  · rw [hv] at hk
    simp [Value.ownBlock] at hk
    exact ⟨cur, by rw [← hk]; exact hc⟩
/-- what an append to the row of rows keeps -/
theorem DOkT.keep {w w' : World} {d : DR} (h : DOkT w d) (hz : w.heap.size ≤ w'.heap.size) (hk : ∀ g off sp, d.a = some ⟨g, off, sp⟩ → g < w.heap.size → w'.heap[g]? = w.heap[g]?) : DOkT w' d := by
  refine ⟨⟨⟨fun h0 => ?_⟩, h.o.z⟩, fun g off sp ha => ?_⟩
  · obtain ⟨g, off, ha, hg, hc⟩ := h.o.v.is h0
    have hb := hk g off none ha hg
    exact ⟨g, off, ha, by omega, fun j hj i u hu => (cell_eq' hb _).trans (hc j hj i u hu)⟩
  · obtain ⟨cur, hc⟩ := h.t g off sp ha
    exact ⟨cur, (hk g off sp ha (lt_block hc)).trans hc⟩
theorem DOkT.below {w w' : World} {d : DR} (h : DOkT w d) (hb : Below w.heap.size w w') : DOkT w' d := h.keep hb.size (fun g off sp _ hg => hb.block g hg)
/-- it returns a row of one's own of these rows -/
structure RetRows (l : List Fl.Rw) (w : World) (e : Ending) (w' : World) : Prop where
  r : ∃ v ds, e = .returned v ∧ eltR.Row w' w.heap.size v ds ∧ ds.map DR.r = l ∧ ∀ d ∈ ds, DOk w' d
  b : Below w.heap.size w w'
theorem flows_at {w : World} {a : Option Addr} {l : List Nd} (h : eltW.View w a l) (h0 : 0 < l.length) : ∃ g off, a = some ⟨g, off, none⟩ ∧ g < w.heap.size ∧ ∀ j (hj : j < l.length), w.cell? ⟨g, off + j * 4, none⟩ = some (.iface l[j].t (.pointer (some ⟨l[j].q, 0, none⟩))) ∧ w.cell? ⟨g, off + j * 4 + 1, none⟩ = some (.int .i64 l[j].r.f) ∧ w.cell? ⟨g, off + j * 4 + 2, none⟩ = some (.int .i64 l[j].r.w) ∧ w.cell? ⟨g, off + j * 4 + 3, none⟩ = some (.int .i64 l[j].r.d) := by
  obtain ⟨g, off, ha, hg, hc⟩ := h.is h0
  exact ⟨g, off, ha, hg, fun j hj => ⟨hc j hj 0 _ rfl, hc j hj 1 _ rfl, hc j hj 2 _ rfl, hc j hj 3 _ rfl⟩⟩
theorem take_snoc {α : Type} {l : List α} {k : Nat} (h : k < l.length) : l.take (k + 1) = l.take k ++ [l[k]] := by
  rw [List.take_add_one, List.getElem?_eq_getElem h]; rfl
set_option maxRecDepth 100000 in
set_option maxHeartbeats 16000000 in
theorem flRowsC (B P : Nat) (s : Fl.St) (F : Nat → Prop) (w : World) (h : FIs w B P s F) (hS : Fl.Small 90000 s) :
    Calls Try.prog 20 #[.pointer (some ⟨P, 0, none⟩)] w (RetRows s.l w) := by
  obtain ⟨R, m, ns, x, y, h1, h2, h3⟩ := h
  have hln : ns.length ≤ 90000 := by have := hS.l; rw [← h2] at this; simpa using this
  have c0 := h1.c0
  have K := Lib.hid ((flowsC B R m _ _ ns x y w h1.r (by omega)).mono (R' := fun e w' => ∃ a c, e = .returned (.slice a ns.length c) ∧ Hid (eltW.View w' a ns ∧ Below w.heap.size w w')) fun e w' hr => by
    obtain ⟨v, rfl, hv⟩ := hr.r
    obtain ⟨a, c, rfl, hf⟩ := hv.flat
    exact ⟨a, c, rfl, Lib.hid ⟨hf.view, hr.b⟩⟩)
  have HH := Lib.hid h1
  have HL := Lib.hid h2
  have HSM := Lib.hid hS
  clear h1 h2 h3 hS
  go_enter Try.func20, Try.ntmps20
  go_wp2_with (go_at_call 44; (with_reducible refine K.out.mono ?_); rintro e wF ⟨af, cf, rfl, hFl⟩)
  go_loopg [3, 14] ns.length (fun gk u i wr => ∃ (k : Nat) (ds : List DR), k ≤ ns.length ∧ gk = ns.length - k ∧ i = .int .i64 ((k : Nat) : Int) ∧ Hid (Below wF.heap.size wF wr ∧ eltR.Row wr wF.heap.size u ds ∧ ds.map DR.r = (ns.take k).map (·.r) ∧ ∀ d ∈ ds, DOkT wr d))
  case atStart => exact ⟨0, [], by omega, by omega, rfl, Lib.hid ⟨Below.refl _ _, Elt.Row.nil _ _, rfl, fun d hd => by simp at hd⟩⟩
  case round =>
    obtain ⟨k, ds, hk, rfl, rfl, hst⟩ := hrel
    clear c0 K
    obtain ⟨hb, hrow, hdr, hok⟩ := hst.out
    obtain ⟨ad, cp, rfl⟩ := hrow.slice
    by_cases hlt : k < ns.length
    · obtain ⟨g, off, rfl, hg, hc⟩ := flows_at hFl.out.1 (by omega)
      obtain ⟨d0, d1, d2, d3⟩ := hc k hlt
      replace d0 := (hb.cell (p := ⟨g, off + k * 4, none⟩) hg).trans d0
      replace d1 := (hb.cell (p := ⟨g, off + k * 4 + 1, none⟩) hg).trans d1
      replace d2 := (hb.cell (p := ⟨g, off + k * 4 + 2, none⟩) hg).trans d2
      replace d3 := (hb.cell (p := ⟨g, off + k * 4 + 3, none⟩) hg).trans d3
      have hn : ns[k] ∈ ns := List.getElem_mem hlt
      have htk := take_snoc hlt
      have HTK := Lib.hid htk
      have hmem : ns[k].r ∈ s.l := by rw [← HL.out]; exact List.mem_map.2 ⟨_, hn, rfl⟩
      have hli := HSM.out.its _ hmem
      have hbw : Below w.heap.size w wr := hFl.out.2.trans (hb.mono hFl.out.2.size)
      generalize ns[k] = n at *
      obtain ⟨X, hX⟩ : ∃ X, X = wr.heap.size := ⟨_, rfl⟩
      have hx0 : (wr.alloc (.cells #[.iface n.t (.pointer (some ⟨n.q, 0, none⟩)), .int .i64 n.r.f, .int .i64 n.r.w, .int .i64 n.r.d] 75)).drew.heap[X]? = some (.cells #[.iface n.t (.pointer (some ⟨n.q, 0, none⟩)), .int .i64 n.r.f, .int .i64 n.r.w, .int .i64 n.r.d] 75) := by rw [hX]; exact heap_alloc_new _ _
      have hb0 : Below wr.heap.size wr (wr.alloc (.cells #[.iface n.t (.pointer (some ⟨n.q, 0, none⟩)), .int .i64 n.r.f, .int .i64 n.r.w, .int .i64 n.r.d] 75)).drew := ((Below.refl _ _).alloc (Nat.le_refl _) _).drew
      obtain ⟨L, hL⟩ : ∃ L, L = n.r.its.length := ⟨_, rfl⟩
      have HLEN := Lib.hid hL
      have KQ := Lib.hid (fun W (hW : Below wr.heap.size wr W) => queueYes B P R m _ _ ns x y n W (HH.out.below (hbw.trans (hW.mono hbw.size))) hn)
      have KA := Lib.hid (fun W (hW : Below wr.heap.size wr W) => (allC B n.q n.r.its n.F W ((HH.out.r.qs.q n hn).below (hbw.trans (hW.mono hbw.size))) (by omega)).mono (R' := fun e w' => ∃ a c, e = .returned (.slice a L c) ∧ Hid (DOkT w' ⟨n.r, a, c⟩ ∧ Below W.heap.size W w')) fun e w' hr => by
        obtain ⟨v, rfl, hv⟩ := hr.r
        obtain ⟨a, c, rfl, hd⟩ := dok_of_row hv
        exact ⟨a, c, by rw [hL], Lib.hid ⟨hd, hr.b⟩⟩)
      have HS1 := Lib.hid (fun (W : World) (hW : W.heap[X]? = some (.cells #[.iface n.t (.pointer (some ⟨n.q, 0, none⟩)), .int .i64 n.r.f, .int .i64 n.r.w, .int .i64 n.r.d] 75)) => fl_cells hW)
      have HKS2 := Lib.hid (fun (W W' : World) (hW : W.heap[X]? = some (.cells #[.iface n.t (.pointer (some ⟨n.q, 0, none⟩)), .int .i64 n.r.f, .int .i64 n.r.w, .int .i64 n.r.d] 75)) (hb : Below W.heap.size W W') => (hb.block X (lt_block hW)).trans hW)
      have HKS := Lib.hid (fun (W' : World) (hb : Below (wr.alloc (.cells #[.iface n.t (.pointer (some ⟨n.q, 0, none⟩)), .int .i64 n.r.f, .int .i64 n.r.w, .int .i64 n.r.d] 75)).drew.heap.size (wr.alloc (.cells #[.iface n.t (.pointer (some ⟨n.q, 0, none⟩)), .int .i64 n.r.f, .int .i64 n.r.w, .int .i64 n.r.d] 75)).drew W') => (hb.block X (lt_block hx0)).trans hx0)
      have hlds : ds.length = k := by have := congrArg List.length hdr; simpa [Nat.min_eq_left hk] using this
      have hld : ds.length ≤ 9223372036 := by omega
      have HROWB := Lib.hid (fun (W : World) {WA : World} (hb2 : Below WA.heap.size WA W) (hW : Below wr.heap.size wr WA) => hrow.below (hW.trans (hb2.mono hW.size)))
      have HBB := Lib.hid (fun (W : World) {WA : World} (hb2 : Below WA.heap.size WA W) (hW : Below wr.heap.size wr WA) => hb.trans ((hW.trans (hb2.mono hW.size)).mono hb.size))
      have HBX := Lib.hid hb0
      have hS := hx0
      have HST := Lib.hid hst.out
      have hend : ∀ (WA WB w2 : World) (av : Option Addr) (cv : Nat) (v2 : Value), Below wr.heap.size wr WA → (DOkT WB ⟨n.r, av, cv⟩ ∧ Below WA.heap.size WA WB) → WB.heap[X]? = some (.cells #[.iface n.t (.pointer (some ⟨n.q, 0, none⟩)), .int .i64 n.r.f, .int .i64 n.r.w, .int .i64 n.r.d] 75) → eltR.Row w2 wF.heap.size v2 (ds ++ [⟨n.r, av, cv⟩]) → Below wF.heap.size WB w2 → (∀ k, k < WB.heap.size → some k ≠ (Value.slice ad ds.length cp).ownBlock → w2.heap[k]? = WB.heap[k]?) → w2.heap[X]? = some (.cells #[.iface n.t (.pointer (some ⟨n.q, 0, none⟩)), .int .i64 n.r.f, .int .i64 n.r.w, .int .i64 n.r.d] 75) ∧ (Below wF.heap.size wF w2 ∧ eltR.Row w2 wF.heap.size v2 (ds ++ [⟨n.r, av, cv⟩]) ∧ (ds ++ [(⟨n.r, av, cv⟩ : DR)]).map DR.r = (ns.take (k + 1)).map (·.r) ∧ ∀ d ∈ ds ++ [(⟨n.r, av, cv⟩ : DR)], DOkT w2 d) := fun WA WB w2 av cv v2 hA hB hXB hr2 hb2 hk2 => by
        have hAB : Below wr.heap.size wr WB := hA.trans (hB.2.mono hA.size)
        have hrB := hrow.below hAB
        have hty := hrB.type
        have hne : ∀ k cur t, WB.heap[k]? = some (.cells cur t) → t ≠ 56 → some k ≠ (Value.slice ad ds.length cp).ownBlock := fun k cur t hc ht he => by
          obtain ⟨cur2, hc2⟩ := hty k he.symm
          rw [hc] at hc2
          injection hc2 with hc2
          injection hc2 with _ hc2
          exact ht hc2
        refine ⟨(hk2 X (lt_block hXB) (hne X _ _ hXB (by decide))).trans hXB, ?_, hr2, ?_, fun d hd => ?_⟩
        · exact (hb.trans (hAB.mono hb.size)).trans hb2
        · rw [List.map_append, hdr, HTK.out, List.map_append]; rfl
        · have hkk : ∀ d, DOkT WB d → DOkT w2 d := fun d hd => hd.keep hb2.size (fun g off sp ha hg => by
            obtain ⟨cur, hc⟩ := hd.t g off sp ha
            exact hk2 g hg (hne g _ _ hc (by decide)))
          rcases List.mem_append.1 hd with h | h
          · exact hkk d ((hok d h).below hAB)
          · obtain rfl : d = ⟨n.r, av, cv⟩ := by simpa using h
            exact hkk _ hB.1
      have HEND := Lib.hid hend
      have HX := Lib.hid hX
      clear hst hb hrow hdr hok hc hn htk hmem hli hbw hx0 hb0 hL hlds hX hFl
      go_upto_region 7 with fail
      rw [← HX.out]
      refine wp_region_any (by kernel_rfl) ?_
      change wpAny _ _ _ _ _ _ _ (World.drew _)
      refine wpAny_of_held (S := fun W => W.heap[X]? = some (.cells #[.iface n.t (.pointer (some ⟨n.q, 0, none⟩)), .int .i64 n.r.f, .int .i64 n.r.w, .int .i64 n.r.d] 75)) _ _ _ _ ?_
      refine takeH 0 18 ?_ rfl rfl (by kernel_rfl) (by kernel_rfl) (by kernel_rfl) (fun _ _ _ h => h) (Or.inl ⟨by kernel_rfl, ?_⟩) hS ?_; rotate_left; (intro w' hw; skip; first | (go_simp; done) | (go_simp; with_reducible rfl)); rotate_left
      try simp only [List.setIfInBounds_toArray, List.set_cons_zero, List.set_cons_succ]
      refine takeH 1 19 ?_ rfl rfl (by kernel_rfl) (by kernel_rfl) (by kernel_rfl) (fun _ _ _ h => h) (Or.inl ⟨by kernel_rfl, ?_⟩) hS ?_; rotate_left; (intro w' hw; skip; first | (go_simp; done) | (go_simp; with_reducible rfl)); rotate_left
      try simp only [List.setIfInBounds_toArray, List.set_cons_zero, List.set_cons_succ]
      refine takeH 2 20 ?_ rfl rfl (by kernel_rfl) (by kernel_rfl) (by kernel_rfl) (fun _ _ _ h => h) (Or.inl ⟨by kernel_rfl, ?_⟩) hS ?_; rotate_left; (intro w' hw; obtain ⟨z0, z1, z2, z3⟩ := HS1.out _ hw; first | (go_simp; done) | (go_simp; with_reducible rfl)); rotate_left
      try simp only [List.setIfInBounds_toArray, List.set_cons_zero, List.set_cons_succ]
      refine takeH 3 21 ?_ rfl rfl (by kernel_rfl) (by kernel_rfl) (by kernel_rfl) (fun _ _ _ h => h) (Or.inl ⟨by kernel_rfl, ?_⟩) hS ?_; rotate_left; (intro w' hw; skip; first | (go_simp; done) | (go_simp; with_reducible rfl)); rotate_left
      try simp only [List.setIfInBounds_toArray, List.set_cons_zero, List.set_cons_succ]
      refine takeH 4 22 ?_ rfl rfl (by kernel_rfl) (by kernel_rfl) (by kernel_rfl) (fun _ _ _ h => h) (Or.inl ⟨by kernel_rfl, ?_⟩) hS ?_; rotate_left; (intro w' hw; obtain ⟨z0, z1, z2, z3⟩ := HS1.out _ hw; first | (go_simp; done) | (go_simp; with_reducible rfl)); rotate_left
      try simp only [List.setIfInBounds_toArray, List.set_cons_zero, List.set_cons_succ]
      refine takeH 5 23 ?_ rfl rfl (by kernel_rfl) (by kernel_rfl) (by kernel_rfl) (fun _ _ _ h => h) (Or.inl ⟨by kernel_rfl, ?_⟩) hS ?_; rotate_left; (intro w' hw; skip; first | (go_simp; done) | (go_simp; with_reducible rfl)); rotate_left
      try simp only [List.setIfInBounds_toArray, List.set_cons_zero, List.set_cons_succ]
      refine takeH 6 24 ?_ rfl rfl (by kernel_rfl) (by kernel_rfl) (by kernel_rfl) (fun _ _ _ h => h) (Or.inl ⟨by kernel_rfl, ?_⟩) hS ?_; rotate_left; (intro w' hw; obtain ⟨z0, z1, z2, z3⟩ := HS1.out _ hw; first | (go_simp; done) | (go_simp; with_reducible rfl)); rotate_left
      try simp only [List.setIfInBounds_toArray, List.set_cons_zero, List.set_cons_succ]
      refine takeH 7 25 ?_ rfl rfl (by kernel_rfl) (by kernel_rfl) (by kernel_rfl) (fun _ _ _ h => h) (Or.inl ⟨by kernel_rfl, ?_⟩) hS ?_; rotate_left; (intro w' hw; skip; first | (go_simp; done) | (go_simp; with_reducible rfl)); rotate_left
      try simp only [List.setIfInBounds_toArray, List.set_cons_zero, List.set_cons_succ]
      refine takeH 8 26 ?_ rfl rfl (by kernel_rfl) (by kernel_rfl) (by kernel_rfl) (fun _ _ _ h => h) (Or.inl ⟨by kernel_rfl, ?_⟩) hS ?_; rotate_left; (intro w' hw; skip; first | (go_simp; done) | (go_simp; with_reducible rfl)); rotate_left
      try simp only [List.setIfInBounds_toArray, List.set_cons_zero, List.set_cons_succ]
      refine takeH 9 27 ?_ rfl rfl (by kernel_rfl) (by kernel_rfl) (by kernel_rfl) (fun _ _ _ h => h) (Or.inl ⟨by kernel_rfl, ?_⟩) hS ?_; rotate_left; (intro w' hw; obtain ⟨z0, z1, z2, z3⟩ := HS1.out _ hw; first | (go_simp; done) | (go_simp; with_reducible rfl)); rotate_left
      try simp only [List.setIfInBounds_toArray, List.set_cons_zero, List.set_cons_succ]
      refine wpAnyH_ready (rs := [10]) (by kernel_rfl) (by simp) ?_; refine AllReadyH.cons rfl (fun K2 hK => ?_) AllReadyH.nil; go_simp; go_wp2_with (go_at_call 32; (with_reducible refine (KQ.out _ HBX.out).mono ?_); rintro e wA ⟨rfl, hA⟩); have HA := Lib.hid (HBX.out.trans (hA.mono HBX.out.size)); replace hS := HKS.out _ hA; clear hA; refine hK.out _ _ ?_ (fun _ => ?_); (exact hS); clear hK K2
      refine wpAnyH_ready (rs := [11]) (by kernel_rfl) (by simp) ?_; refine AllReadyH.cons rfl (fun K2 hK => ?_) AllReadyH.nil; go_simp; go_wp2_with (go_at_call 45; (with_reducible refine (KA.out _ HA.out).mono ?_); rintro e wB ⟨av, cv, rfl, hB⟩); replace hS := HKS2.out _ _ hS hB.out.2; have HXB := Lib.hid hS; refine hK.out _ _ ?_ (fun _ => ?_); (exact hS); clear hK K2
      refine takeH 12 30 ?_ rfl rfl (by kernel_rfl) (by kernel_rfl) (by kernel_rfl) (fun _ _ _ h => h) (Or.inl ⟨by kernel_rfl, ?_⟩) hS ?_; rotate_left; (intro w' hw; skip; first | (go_simp; done) | (go_simp; with_reducible rfl)); rotate_left
      try simp only [List.setIfInBounds_toArray, List.set_cons_zero, List.set_cons_succ]
      refine wpAnyH_ready (rs := [13]) (by kernel_rfl) (by simp) ?_; refine AllReadyH.cons rfl (fun K2 hK => ?_) AllReadyH.nil; go_simp; replace hS := HKS2.out _ _ hS ((Below.refl _ _).alloc (Nat.le_refl _) (.cells #[.int .i64 n.r.f, .int .i64 n.r.w, .int .i64 n.r.d, .slice av L cv] 56)); refine hK.out _ _ ?_ (fun _ => ?_); (exact hS); clear hK K2
      refine wpAnyH_ready (rs := [14]) (by kernel_rfl) (by simp) ?_; refine AllReadyH.cons rfl (fun K2 hK => ?_) AllReadyH.nil; refine eltR.stepApp wB rfl (.tmp 18) (.tmp 31) rfl wF.heap.size (.slice ad ds.length cp) ds rfl (HROWB.out _ hB.out.2 HA.out) #[.int .i64 n.r.f, .int .i64 n.r.w, .int .i64 n.r.d, .slice av L cv] 1 rfl ⟨n.r, av, cv⟩ (by rw [HLEN.out]; rfl) hld (HBB.out _ hB.out.2 HA.out).size ?_; intro v2 w2 hrow2 hb2 hkeep2; obtain ⟨a2, c2, rfl⟩ := hrow2.slice; have HFIN := Lib.hid (HEND.out _ _ _ _ _ _ HA.out hB.out HXB.out hrow2 hb2 hkeep2); replace hS := HFIN.out.1; refine hK.out _ _ ?_ (fun _ => ?_); (exact hS); clear hK K2
      refine wpAnyH_ready (rs := [15]) (by kernel_rfl) (by simp) ?_; refine AllReadyH.cons rfl (fun K2 hK => ?_) AllReadyH.nil; go_simp; refine hK.out _ _ ?_ (fun _ => ?_); (exact hS); clear hK K2
      refine wpAnyH_done (by kernel_rfl) ?_ _
      have HREL : Hid (Below wF.heap.size wF w2 ∧ eltR.Row w2 wF.heap.size (.slice a2 (ds.length + 1) c2) (ds ++ [⟨n.r, av, cv⟩]) ∧ (ds ++ [(⟨n.r, av, cv⟩ : DR)]).map DR.r = (ns.take (k + 1)).map (·.r) ∧ ∀ d ∈ ds ++ [(⟨n.r, av, cv⟩ : DR)], DOkT w2 d) := Lib.hid (by have := HFIN.out.2; simpa using this)
      clear HFIN hS HXB hrow2 hb2 hkeep2
      go_wp2
      go_roundg (ns.length - (k + 1))
      case rel => exact ⟨k + 1, ds ++ [⟨n.r, av, cv⟩], by omega, rfl, by go_num, HREL⟩
      case measure => omega
    · obtain rfl : k = ns.length := by omega
      have HF : Hid (RetRows s.l w (.returned (.slice ad ds.length cp)) wr) := Lib.hid ⟨⟨_, ds, rfl, hrow.base hFl.out.2.size, by rw [hdr, List.take_length, HL.out], fun d hd => (hok d hd).o⟩, hFl.out.2.trans (hb.mono hFl.out.2.size)⟩
      clear hst hb hrow hdr hok
      go_wp2
      go_ret
      exact HF.out
end Go.Proofs.Ytgeoebodlcbebaa
