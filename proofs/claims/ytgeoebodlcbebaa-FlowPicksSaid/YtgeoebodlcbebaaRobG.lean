/-
  A ring of flows: Settle.
-/
import Derived.Test.YtgeoebodlcbebaaRobF
import Derived.LaidEqlPtr
namespace Go.Proofs.Ytgeoebodlcbebaa
open Go.RowKit
open Rb (Nd)
set_option linter.unusedVariables false

theorem infoRLink : (Try.prog.info? 110).map (·.size) = some 6 := by kernel_rfl
theorem eqSameR (a : Addr) (w : World) : (binOp .eql 96 (.pointer (some a)) (.pointer (some a))).run Try.prog w = .ok (.bool true) w := by
  obtain ⟨j, hj, _⟩ : ∃ j, Try.prog.info? 110 = some j ∧ j.size = 6 := by
    have := infoRLink
    cases hq : Try.prog.info? 110 with
    | none => simp [hq] at this
    | some j => exact ⟨j, rfl, by simpa [hq] using this⟩
  exact run_eql_ptr_same w a Try.underlying96 hj
theorem eqOtherR {x y : Nat} {w : World} {c1 c2 : Array Value} {t1 t2 : TypeId} (hne : x ≠ y) (h1 : w.heap[x]? = some (.cells c1 t1)) (h2 : w.heap[y]? = some (.cells c2 t2)) : (binOp .eql 96 (.pointer (some ⟨x, 0, none⟩)) (.pointer (some ⟨y, 0, none⟩))).run Try.prog w = .ok (.bool false) w := by
  obtain ⟨j, hj, hz⟩ : ∃ j, Try.prog.info? 110 = some j ∧ j.size = 6 := by
    have := infoRLink
    cases hq : Try.prog.info? 110 with
    | none => simp [hq] at this
    | some j => exact ⟨j, rfl, by simpa [hq] using this⟩
  exact run_eql_ptr_other w Try.underlying96 hj (by rw [hz]; decide) (fun e => hne (congrArg Addr.block e)) h1 h2
set_option maxRecDepth 100000 in
set_option maxHeartbeats 1000000 in
theorem settleNo (R m : Nat) (q : Int) (v : Value) (g : Bool) (ns : List Nd) (aft bef : Nat → Value) (f : Int) (w : World) (h : RAt w R m q v g ns aft bef) (hf : (Lit.int .i64 f).wf = true) (hn : ∀ n ∈ ns, n.r.f ≠ f) :
    Calls Try.prog 42 #[.pointer (some ⟨R, 0, none⟩), .int .i64 f] w (Same (.tuple #[]) w) := by
  obtain ⟨_, c1, _, _⟩ := h.cs
  have r1 := h.lookNo hf hn
  clear h hn hf
  go_enter Try.func42, Try.ntmps42
  go_wp2
  go_end0
  exact ⟨rfl, rfl⟩
set_option maxRecDepth 100000 in
set_option maxHeartbeats 1000000 in
theorem settleWaits (B R m : Nat) (q : Int) (g : Bool) (ns : List Nd) (x y : Nat → Nat) (n : Nd) (w : World) (h : RIn w B R m q g ns x y) (hn : n ∈ ns) (hi : n.r.its ≠ []) (hl : n.r.its.length ≤ 1000000) :
    Calls Try.prog 42 #[.pointer (some ⟨R, 0, none⟩), .int .i64 n.r.f] w (Same (.tuple #[]) w) := by
  obtain ⟨_, c1, _, _⟩ := h.r.cs
  have r1 := h.r.look hn
  obtain ⟨d0, _, _, _, _, _⟩ := h.r.nd6 hn
  unfold Nd.src at d0
  rw [h.qs.src n hn] at d0
  have hm1 := run_mLen n.q
  simp only [Try.types_size, Made.depth, Nat.reduceAdd] at hm1
  have KL := Lib.hid (lenC B n.q n.r.its n.F w (h.qs.q n hn) hl)
  have hp : 0 < n.r.its.length := List.length_pos_iff.2 hi
  have t1 : decide (((n.r.its.length : Nat) : Int) > 0) = true := decide_eq_true (by omega)
  generalize ((n.r.its.length : Nat) : Int) = N at *
  generalize n.r.f = f at *
  generalize n.b = b at *
  generalize n.q = Q at *
  clear h hn hi hl hp
  go_enter Try.func42, Try.ntmps42
  go_wp2_with (go_at_call 33; (with_reducible refine KL.out.mono ?_); rintro e wA ⟨rfl, rfl⟩)
  go_end0
  exact ⟨rfl, rfl⟩
/-- a link gone from the map -/
theorem GQ.del {w0 : World} {F : Nat → Prop} {B R m : Nat} {q : Int} {v : Value} {g : Bool} {a b : List Nd} {n : Nd} {aft bef : Nat → Value} {W W' : World} (h : GQ w0 F B R m q v g (a ++ n :: b) aft bef W) (hM : MapL W' m (a.map Nd.key ++ b.map Nd.key)) (hc : Chg (fun k => k = m) W W') :
    GQ w0 F B R m q v g (a ++ b) aft bef W' := by
  obtain ⟨k1, k2⟩ := h.r.kinds
  have hsub : (a ++ b).Sublist (a ++ n :: b) := (List.Sublist.refl a).append (List.sublist_cons_self n b)
  have hf : ∀ k, footR R m (a ++ b) k → footR R m (a ++ n :: b) k := fun k hk => by
    rcases hk with e | e | e
    · exact Or.inl e
    · exact Or.inr (Or.inl e)
    · exact Or.inr (Or.inr ((hsub.map _).subset e))
  refine ⟨⟨hc.keep h.r.tab k1, by rw [List.map_append]; exact hM, fun z hz => hc.keep (h.r.node z (hsub.subset hz)) (k2 _ (List.mem_map.2 ⟨z, hsub.subset hz, rfl⟩)).2, (hsub.map _).nodup h.r.ndb, (hsub.map _).nodup h.r.ndi, fun z hz => h.r.small z (hsub.subset hz)⟩, ?_, h.c.trans hc (fun k hk => h.f k (Or.inr (Or.inl hk))), fun k hk => h.f k (hf k hk)⟩
  exact (h.qs.keep (fun z hz k hk => hc.block k ((h.qs.q z hz).lt k hk).2 (fun e => h.qs.own z hz k hk (Or.inr (Or.inl e))))).sub (fun z hz => hsub.subset hz) hf
theorem footG_sub {R m : Nat} {a b : List Nd} {n : Nd} (k : Nat) (hk : footG R m (a ++ b) k) : footG R m (a ++ n :: b) k := by
  have hsub : (a ++ b).Sublist (a ++ n :: b) := (List.Sublist.refl a).append (List.sublist_cons_self n b)
  rcases hk with (e | e | e) | ⟨z, hz, e⟩
  · exact Or.inl (Or.inl e)
  · exact Or.inl (Or.inr (Or.inl e))
  · exact Or.inl (Or.inr (Or.inr ((hsub.map _).subset e)))
  · exact Or.inr ⟨z, hsub.subset hz, e⟩
/-- Settle's post: the link of a row without items is gone -/
structure RetS (B R m : Nat) (q : Int) (g : Bool) (a : List Nd) (n : Nd) (b : List Nd) (w : World) (e : Ending) (w' : World) : Prop where
  e : e = .returned (.tuple #[])
  s : ∃ x y, RIn w' B R m q g (a ++ b) x y
  c : Chg (footG R m (a ++ n :: b)) w w'
/-- the ring that is left -/
theorem GQ.cut {w W : World} {F : Nat → Prop} {B R m : Nat} {q : Int} {g : Bool} {v : Value} {a b : List Nd} {n : Nd} {x y : Nat → Nat} (hr : Rb.IsRing x y ((a ++ n :: b).map (·.b))) (hab : a = [] → b = []) (hlo : ∀ k, footG R m (a ++ n :: b) k → B ≤ k)
    (h : GQ w F B R m q v g (a ++ b) (updV (fun k => pB (x k)) (y n.b) (.pointer (some ⟨x n.b, 0, none⟩))) (updV (fun k => pB (y k)) (x n.b) (.pointer (some ⟨y n.b, 0, none⟩))) W) (hv : v = visOf (a ++ b)) : ∃ x y, RIn W B R m q g (a ++ b) x y := by
  refine ⟨Rb.upd x (y n.b) (x n.b), Rb.upd y (x n.b) (y n.b), ?_, h.qs, ?_, fun k hk => hlo k (footG_sub k hk)⟩
  · rw [← hv]
    exact h.r.congr (fun z hz => by unfold Rb.upd updV; split <;> rfl) (fun z hz => by unfold Rb.upd updV; split <;> rfl)
  · cases a with
    | nil =>
      have := hab rfl
      subst this
      exact trivial
    | cons r a =>
      have := Rb.IsRing.cut (r := r.b) (x := n.b) (a := a.map (·.b)) (b := b.map (·.b)) (by simpa using hr)
      simpa using this
end Go.Proofs.Ytgeoebodlcbebaa
