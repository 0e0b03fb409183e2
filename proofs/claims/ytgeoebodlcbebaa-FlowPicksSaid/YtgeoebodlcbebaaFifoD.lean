/-
  A queue: Push.
-/
import Derived.Test.YtgeoebodlcbebaaFifoC
import Derived.BigQuiet
import Derived.Deep.Cut
import Derived.OrdersHeld
import Derived.Deep.QuietTactic
namespace Go.Proofs.Ytgeoebodlcbebaa
open Go.RowKit
open Ff (Nd)
set_option linter.unusedVariables false

/-- 'm[k] = p', k not there, at a step of a region -/
theorem wp_putL (w : World) {o : Oper} {a : Act} {K : Act → World → Prop} {Q : Exit → Act → World → Prop} (m x v : Operand) (hop : o.op = Op.mapUpdate 105 m x v)
    (b : Nat) (l : List Nd) (hm : a.eval m = .map (some b)) (hM : MapL w b l) (n : Nd) (hx : a.eval x = .int .i64 n.id) (hv : a.eval v = .pointer (some ⟨n.b, 0, none⟩)) (hk : (Lit.int .i64 n.id).wf = true)
    (hl : l.length ≤ 1000001) (hn : ∀ y ∈ l, y.id ≠ n.id)
    (hK : ∀ w', MapL w' b (n :: l) → Chg (fun k => k = b) w w' → K (a.put o.dst undef) w') :
    Oper.wp Try.prog o a w K Q := by
  obtain ⟨w', hrun, h1, h2, _⟩ := run_putL hM n hk hl hn
  have hfin := hK w' h1 h2
  unfold Oper.wp
  simp [execOp, hop, hm, hx, hv, hrun, Result.andThen]
  exact hfin
theorem JAt.perm {w : World} {P m : Nat} {c : Int} {ns ms : List Nd} {aft bef : Int → Int} (h : JAt w P m c ns aft bef) (hp : ns.Perm ms) : JAt w P m c ms aft bef :=
  ⟨h.tab, h.map.perm hp, fun n hn => h.node n (hp.mem_iff.2 hn), (hp.map _).nodup_iff.1 h.ndb, (hp.map _).nodup_iff.1 h.ndi, fun n hn => h.small n (hp.mem_iff.2 hn)⟩
theorem JAt.congr {w : World} {P m : Nat} {c : Int} {ns : List Nd} {aft bef aft' bef' : Int → Int} (h : JAt w P m c ns aft bef) (h1 : ∀ n ∈ ns, aft' n.id = aft n.id) (h2 : ∀ n ∈ ns, bef' n.id = bef n.id) : JAt w P m c ns aft' bef' :=
  ⟨h.tab, h.map, fun n hn => by rw [h1 n hn, h2 n hn]; exact h.node n hn, h.ndb, h.ndi, h.small⟩

abbrev itO (id co : Int) : Obj := .cells #[.int .i64 id, .int .i64 co] 48
/-- a queue in the course of a call that began at w0 with the blocks F, beside a box X -/
structure PQ (w0 : World) (F : Nat → Prop) (P m X : Nat) (c id co : Int) (ns : List Nd) (aft bef : Int → Int) (W : World) : Prop where
  j : JAt W P m c ns aft bef
  x : W.heap[X]? = some (itO id co)
  xn : ¬ footJ P m ns X
  c : Chg F w0 W
  f : ∀ k, footJ P m ns k → F k ∨ w0.heap.size ≤ k
theorem PQ.drew {w0 : World} {F : Nat → Prop} {P m X : Nat} {c id co : Int} {ns : List Nd} {aft bef : Int → Int} {W : World} (h : PQ w0 F P m X c id co ns aft bef W) : PQ w0 F P m X c id co ns aft bef W.drew :=
  ⟨h.j.keep (fun _ _ => rfl), h.x, h.xn, h.c.drew, h.f⟩
theorem PQ.drewN {w0 : World} {F : Nat → Prop} {P m X : Nat} {c id co : Int} {ns : List Nd} {aft bef : Int → Int} {W : World} (h : PQ w0 F P m X c id co ns aft bef W) (n : Nat) : PQ w0 F P m X c id co ns aft bef (W.drewN n) :=
  ⟨h.j.keep (fun _ _ => rfl), h.x, h.xn, h.c.drewN n, h.f⟩
theorem PQ.xs {w0 : World} {F : Nat → Prop} {P m X : Nat} {c id co : Int} {ns : List Nd} {aft bef : Int → Int} {W : World} (h : PQ w0 F P m X c id co ns aft bef W) : W.cell? ⟨X, 0, none⟩ = some (.int .i64 id) ∧ W.cell? ⟨X, 1, none⟩ = some (.int .i64 co) := by
  have := h.x
  exact ⟨by rw [cell_of_row W _ _ _ _ _ this]; rfl, by rw [cell_of_row W _ _ _ _ _ this]; rfl⟩
theorem PQ.join {w0 : World} {F : Nat → Prop} {P m X : Nat} {c id co : Int} {ns : List Nd} {aft bef aft' bef' : Int → Int} {W W' : World} {e : Ending} (h : PQ w0 F P m X c id co ns aft bef W) (hr : RetJ P m c ns aft' bef' W e W') : PQ w0 F P m X c id co ns aft' bef' W' :=
  ⟨hr.s, hr.c.keep h.x (fun hk => h.xn (Or.inr (Or.inr hk))), h.xn, h.c.trans hr.c (fun k hk => h.f k (Or.inr (Or.inr hk))), h.f⟩
theorem PQ.put {w0 : World} {F : Nat → Prop} {P m X : Nat} {c id co : Int} {ns : List Nd} {aft bef : Int → Int} {W W1 W3 : World} (h : PQ w0 F P m X c id co ns aft bef W) (hW1 : W1 = (W.alloc (lkO id co 0 0)).drew ∨ W1 = W.drew.alloc (lkO id co 0 0)) (hM : MapL W3 m (⟨W.heap.size, id, co⟩ :: ns)) (hc : Chg (fun k => k = m) W1 W3) (hi : 0 ≤ id ∧ id ≤ 9223372036854775807) (hn : ∀ n ∈ ns, n.id ≠ id) :
    PQ w0 F P m X c id co (⟨W.heap.size, id, co⟩ :: ns) (Ff.upd aft id 0) (Ff.upd bef id 0) W3 := by
  have hz1 : W1.heap.size = W.heap.size + 1 := by rcases hW1 with e | e <;> rw [e] <;> simp
  have hold : ∀ k, k < W.heap.size → W1.heap[k]? = W.heap[k]? := fun k hk => by rcases hW1 with e | e <;> rw [e] <;> exact Lib.alloc_old _ _ _ hk
  have hnew : W1.heap[W.heap.size]? = some (lkO id co 0 0) := by rcases hW1 with e | e <;> rw [e] <;> exact heap_alloc_new _ _
  have hb : Below W.heap.size W W1 := by
    rcases hW1 with e | e <;> rw [e]
    · exact ((Below.refl _ _).alloc (Nat.le_refl _) _).drew
    · exact (Below.refl W.heap.size W).drew.alloc (Nat.le_refl _) _
  obtain ⟨k1, k2⟩ := h.j.kinds
  have hlt := h.j.lt
  have hbn : W.heap.size ∉ ns.map (·.b) := fun hm => by have := hlt _ (Or.inr (Or.inr hm)); omega
  have hmlt := h.j.map.lt
  have hXlt := lt_block h.x
  have hXm : X ≠ m := fun e => h.xn (Or.inr (Or.inl e))
  refine ⟨⟨?_, hM, fun x hx => ?_, ?_, ?_, fun x hx => ?_⟩, ?_, ?_, ?_, ?_⟩
  · exact hc.keep ((hold P (hlt P (Or.inl rfl))).trans h.j.tab) k1
  · rcases List.mem_cons.1 hx with h1 | h1
    · subst h1
      show W3.heap[W.heap.size]? = some (lkO id co (Ff.upd bef id 0 id) (Ff.upd aft id 0 id))
      rw [Ff.upd_same, Ff.upd_same]
      exact hc.keep hnew (fun e => by omega)
    · have hxb : x.b ∈ ns.map (·.b) := List.mem_map.2 ⟨x, h1, rfl⟩
      rw [Ff.upd_other _ _ (hn x h1), Ff.upd_other _ _ (hn x h1)]
      exact hc.keep ((hold x.b (hlt _ (Or.inr (Or.inr hxb)))).trans (h.j.node x h1)) (k2 _ hxb).2
  · rw [List.map_cons, List.nodup_cons]; exact ⟨hbn, h.j.ndb⟩
  · rw [List.map_cons, List.nodup_cons]
    refine ⟨fun hm => ?_, h.j.ndi⟩
    obtain ⟨n, h1, h2⟩ := List.mem_map.1 hm
    exact hn n h1 h2
  · rcases List.mem_cons.1 hx with h1 | h1
    · subst h1; exact hi
    · exact h.j.small x h1
  · exact hc.keep ((hold X hXlt).trans h.x) hXm
  · rintro (e | e | e)
    · exact h.xn (Or.inl e)
    · exact hXm e
    · rw [List.map_cons] at e
      rcases List.mem_cons.1 e with e | e
      · have e : X = W.heap.size := e
        omega
      · exact h.xn (Or.inr (Or.inr e))
  · exact ((h.c.then hb).trans hc (fun k hk => h.f k (Or.inr (Or.inl hk))))
  · have hz := h.c.size
    rintro k (e | e | e)
    · exact h.f k (Or.inl e)
    · exact h.f k (Or.inr (Or.inl e))
    · rw [List.map_cons] at e
      rcases List.mem_cons.1 e with e | e
      · have e : k = W.heap.size := e
        right; omega
      · exact h.f k (Or.inr (Or.inr e))
end Go.Proofs.Ytgeoebodlcbebaa
