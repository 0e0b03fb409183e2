/-
  Which rows may be loaded; robin's Load.
-/
import Derived.Test.YtgeoebodlcbebaaFbA
import Derived.Deep.CutRange
import Derived.Deep.CutBlock
namespace Fl
set_option linter.unusedVariables false
/-- the greatest deficit of a row that may be loaded -/
def mostOf (q w : Int) (b : Bool) : Int := if b then 64 + q * w else 64
/-- a row that may be loaded (its items apart); b: it was given its quantum -/
structure RowR (q : Int) (b : Bool) (r : Rw) : Prop where
  f : 0 ≤ r.f
  w : 1 ≤ r.w ∧ r.w ≤ 16
  d : 0 ≤ r.d ∧ r.d ≤ mostOf q r.w b
  ne : r.its ≠ []
/-- the first k rows may be loaded -/
structure Pre (q : Int) (g : Bool) (l : List Rw) (k : Nat) : Prop where
  nd : ((l.take k).map (·.f)).Nodup
  ok : ∀ i (h : i < l.length), i < k → RowR q (g && decide (i = 0)) l[i]
structure Right (q : Int) (g : Bool) (l : List Rw) : Prop where
  qu : 1 ≤ q ∧ q ≤ 64
  gv : l = [] → g = false
  its : ∀ r ∈ l, Ff.Good r.its
  pre : Pre q g l l.length
theorem Pre.zero (q : Int) (g : Bool) (l : List Rw) : Pre q g l 0 := ⟨by simp, fun i h hk => by omega⟩
theorem Pre.next {q : Int} {g : Bool} {l : List Rw} {k : Nat} (h : Pre q g l k) (hk : k < l.length) (hf : row (l.take k) l[k].f = none) (hr : RowR q (g && decide (k = 0)) l[k]) : Pre q g l (k + 1) := by
  refine ⟨?_, fun i hi hik => ?_⟩
  · rw [List.take_add_one, List.getElem?_eq_getElem hk]
    simp only [Option.toList_some, List.map_append, List.map_cons, List.map_nil]
    rw [List.nodup_append]
    refine ⟨h.nd, by simp, fun u hu v hv => ?_⟩
    obtain ⟨x, hx, rfl⟩ := List.mem_map.1 hu
    simp at hv
    subst hv
    exact row_none.1 hf x hx
  · by_cases e : i = k
    · subst e; exact hr
    · exact h.ok i hi (by omega)
theorem Pre.row {q : Int} {g : Bool} {l : List Rw} (h : Pre q g l l.length) {k : Nat} (hk : k < l.length) : Fl.row (l.take k) l[k].f = none := by
  rw [row_none]
  intro r hr e
  have hs := h.nd
  rw [List.take_length] at hs
  have : l.map (·.f) = (l.take k).map (·.f) ++ (l.drop k).map (·.f) := by rw [← List.map_append, List.take_append_drop]
  rw [this, List.nodup_append] at hs
  exact hs.2.2 r.f (List.mem_map.2 ⟨r, hr, rfl⟩) l[k].f (List.mem_map.2 ⟨l[k], by rw [List.drop_eq_getElem_cons hk]; exact List.mem_cons_self .., rfl⟩) e
theorem Right.good {q : Int} {g : Bool} {l : List Rw} (h : Right q g l) (hf : ∀ r ∈ l, r.f ≤ 9223372036854775807) : Good ⟨q, l, g⟩ ∧ Lim 64 ⟨q, l, g⟩ := by
  have hnd := h.pre.nd
  rw [List.take_length] at hnd
  refine ⟨⟨h.qu, hnd, fun r hr => ?_, h.gv⟩, ⟨fun r hr e he => ((h.its r hr).co e he).2, fun r hr => ?_, fun r hr => ?_⟩⟩
  · obtain ⟨i, hi, rfl⟩ := List.mem_iff_getElem.1 hr
    have hr' := h.pre.ok i hi hi
    exact ⟨⟨hr'.f, hf _ hr⟩, hr'.w, hr'.d.1, hr'.ne, h.its _ hr⟩
  · have hr : r ∈ l.tail := hr
    obtain ⟨i, hi, rfl⟩ := List.mem_iff_getElem.1 hr
    have hi2 : i + 1 < l.length := by simp at hi; omega
    have hr' := (h.pre.ok (i + 1) hi2 hi2).d.2
    simp [mostOf] at hr'
    simpa using hr'
  · have hr : l.head? = some r := hr
    cases l with
    | nil => cases hr
    | cons x t =>
      simp at hr
      subst hr
      have hr' := (h.pre.ok 0 (by simp) (by simp)).d.2
      simp [mostOf] at hr'
      show x.d ≤ 64 + (if g then q * x.w else 0)
      cases g <;> simpa using hr'
end Fl
namespace Go.Proofs.Ytgeoebodlcbebaa
open Go.RowKit
open Rb (Nd)
set_option linter.unusedVariables false
set_option linter.unusedSimpArgs false

theorem RIn.base {w : World} {B B' R m : Nat} {q : Int} {g : Bool} {ns : List Nd} {x y : Nat → Nat} (h : RIn w B R m q g ns x y) (hb : B' ≤ B) : RIn w B' R m q g ns x y :=
  ⟨h.r, ⟨h.qs.src, fun n hn => (h.qs.q n hn).base hb, h.qs.own, h.qs.apart⟩, h.ring, fun k hk => Nat.le_trans hb (h.lo k hk)⟩
/-- a link without its block -/
def core (n : Nd) : Nd := { n with b := 0 }
/-- what comes in: flows with their queues, apart -/
structure FlsAt (w : World) (B : Nat) (a : Option Addr) (ns : List Nd) : Prop where
  v : eltW.View w a ns
  t : ∀ n ∈ ns, n.t = 69
  q : ∀ n ∈ ns, QIs w B n.q n.r.its n.F
  ap : ns.Pairwise (fun n n' => ∀ k, n.F k → ¬ n'.F k)
  wf : ∀ n ∈ ns, (Lit.int .i64 n.r.f).wf = true
  own : ∀ n ∈ ns, ∀ k, n.F k → ∀ g off sp, a = some ⟨g, off, sp⟩ → k ≠ g
  b : B ≤ w.heap.size
/-- the ring behind k rows -/
structure LdQ (w : World) (B R m : Nat) (q : Int) (g : Bool) (ns : List Nd) (k : Nat) (ms : List Nd) (x y : Nat → Nat) (W : World) : Prop where
  r : RIn W B R m q false ms x y
  c : ms.map core = (ns.take k).map core
  lo : ∀ j, footR R m ms j → w.heap.size ≤ j
  ch : Chg (fun j => ∃ n ∈ ns.take k, n.F j) w W
  pre : Fl.Pre q g (ns.map (·.r)) k
section
variable {w W W' : World} {B R m : Nat} {q : Int} {g : Bool} {ns ms : List Nd} {k : Nat} {x y : Nat → Nat} {a : Option Addr}
theorem core_rows (h : ms.map core = (ns.take k).map core) : ms.map (·.r) = (ns.map (·.r)).take k := by
  have := congrArg (List.map (·.r)) h
  rw [List.map_map, List.map_map] at this
  rw [← List.map_take]
  exact this
theorem core_mem (h : ms.map core = (ns.take k).map core) {n : Nd} (hn : n ∈ ms) : ∃ n' ∈ ns.take k, n'.F = n.F := by
  have : core n ∈ (ns.take k).map core := by rw [← h]; exact List.mem_map_of_mem hn
  obtain ⟨n', hn', e⟩ := List.mem_map.1 this
  exact ⟨n', hn', show (core n').F = (core n).F from congrArg (fun z => Nd.F z) e⟩
theorem LdQ.below (h : LdQ w B R m q g ns k ms x y W) (hb : Below W.heap.size W W') : LdQ w B R m q g ns k ms x y W' := ⟨h.r.below hb, h.c, h.lo, h.ch.then hb, h.pre⟩
theorem FlsAt.apart (h : FlsAt w B a ns) (hk : k < ns.length) {n : Nd} (hn : n ∈ ns.take k) (j : Nat) (hj : n.F j) : ¬ ns[k].F j := by
  have hp := h.ap
  rw [← List.take_append_drop k ns, List.pairwise_append] at hp
  exact hp.2.2 n hn ns[k] (by rw [List.drop_eq_getElem_cons hk]; exact List.mem_cons_self ..) j hj
/-- the next row's queue is as it was -/
theorem LdQ.queue (h : LdQ w B R m q g ns k ms x y W) (ha : FlsAt w B a ns) (hk : k < ns.length) : QIs W B ns[k].q ns[k].r.its ns[k].F := by
  have hq := ha.q ns[k] (List.getElem_mem hk)
  exact hq.keep (fun j hj => h.ch.block j (hq.lt j hj).2 (fun ⟨n, hn, hf⟩ => ha.apart hk hn j hf hj))
theorem LdQ.row (h : LdQ w B R m q g ns k ms x y W) (ha : FlsAt w B a ns) {gR off : Nat} (hg : gR < w.heap.size) (e : a = some ⟨gR, off, none⟩) : W.heap[gR]? = w.heap[gR]? :=
  h.ch.block gR hg (fun ⟨n, hn, hf⟩ => ha.own n (List.mem_of_mem_take hn) gR hf gR off none e rfl)
theorem LdQ.free (h : LdQ w B R m q g ns k ms x y W) (ha : FlsAt w B a ns) (hk : k < ns.length) (j : Nat) (hj : ns[k].F j) : ¬ footG R m ms j := by
  rintro (e | ⟨n, hn, e⟩)
  · have h1 := h.lo j e
    have h2 := ((ha.q ns[k] (List.getElem_mem hk)).lt j hj).2
    omega
  · obtain ⟨n', hn', e'⟩ := core_mem h.c hn
    rw [← e'] at e
    exact ha.apart hk hn' j e hj
end
theorem ld_append {w W : World} {B R m : Nat} {q : Int} {g : Bool} {ns ms : List Nd} {k : Nat} {x y : Nat → Nat} {a : Option Addr} (h : LdQ w B R m q g ns k ms x y W) (ha : FlsAt w B a ns) (hk : k < ns.length) (hl : ns.length ≤ 1000)
    (hrow : Fl.row ((ns.map (·.r)).take k) ns[k].r.f = none) (hr : Fl.RowR q (g && decide (k = 0)) ns[k].r) :
    Calls Try.prog 38 #[.pointer (some ⟨R, 0, none⟩), flV ns[k]] W fun e W' => e = .returned (.tuple #[]) ∧ Hid (∃ ms' x' y', LdQ w B R m q g ns (k + 1) ms' x' y' W') := by
  have hmem := List.getElem_mem hk
  have hno : ∀ n' ∈ ms, n'.r.f ≠ ns[k].r.f := node_no (core_rows h.c) hrow
  have hBW : B ≤ W.heap.size := Nat.le_trans ha.b h.ch.size
  have hml : ms.length ≤ 1000 := by have := congrArg List.length h.c; simp at this; omega
  have hA : Calls Try.prog 38 #[.pointer (some ⟨R, 0, none⟩), flV ns[k]] W (RetA B R m q false ms ns[k] W) := by
    have hf := h.free ha hk
    have hr := h.r
    have hq := h.queue ha hk
    clear h
    cases ms with
    | nil => exact appendNil B R m q false x y ns[k] W hr hBW (ha.t _ hmem) hq hf (ha.wf _ hmem)
    | cons r t => exact appendMore B R m q false r t x y ns[k] W hr hBW (by simp at hml; omega) (ha.t _ hmem) hq hf (ha.wf _ hmem) hno
  refine hA.mono fun e W' hr' => ⟨hr'.e, ?_⟩
  obtain ⟨b, x2, y2, h1, h2⟩ := hr'.s
  have hsub : ∀ n ∈ ns.take k, n ∈ ns.take (k + 1) := fun n hn => by
    rw [List.take_add_one]; exact List.mem_append_left _ hn
  refine Lib.hid ⟨ms ++ [{ ns[k] with b := b }], x2, y2, h1, ?_, fun j hj => ?_, (h.ch.mono (fun j ⟨n, hn, hf⟩ => Or.inl ⟨n, hsub n hn, hf⟩)).trans hr'.c (fun j hj => ?_), ?_⟩
  · rw [List.map_append, h.c, List.take_add_one, List.getElem?_eq_getElem hk, List.map_append]; rfl
  · rcases hj with e | e | e
    · exact h.lo j (Or.inl e)
    · exact h.lo j (Or.inr (Or.inl e))
    · rw [List.map_append] at e
      rcases List.mem_append.1 e with e | e
      · exact h.lo j (Or.inr (Or.inr e))
      · have hf2 := h2 j (Or.inl (Or.inr (Or.inr (by rw [List.map_append]; exact List.mem_append_right _ e))))
        rcases hf2 with (e' | ⟨n, hn, e'⟩) | e' | e'
        · exact h.lo j e'
        · exact absurd e' (fun e' => h1.qs.own n (List.mem_append_left _ hn) j e' (Or.inr (Or.inr (by rw [List.map_append]; exact List.mem_append_right _ e))))
        · exact absurd e' (fun e' => h1.qs.own { ns[k] with b := b } (by simp) j e' (Or.inr (Or.inr (by rw [List.map_append]; exact List.mem_append_right _ e))))
        · exact Nat.le_trans h.ch.size e'
  · rcases hj with e | ⟨n, hn, e⟩
    · exact Or.inr (h.lo j e)
    · obtain ⟨n', hn', e'⟩ := core_mem h.c hn
      rw [← e'] at e
      exact Or.inl ⟨n', hsub n' hn', e⟩
  · have := h.pre.next (by simpa using hk) (by simpa using hrow) (by simpa using hr)
    exact this
end Go.Proofs.Ytgeoebodlcbebaa
