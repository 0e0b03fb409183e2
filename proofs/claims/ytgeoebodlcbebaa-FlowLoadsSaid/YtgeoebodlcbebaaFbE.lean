/-
  The document's Most, Right.
-/
import Derived.Test.YtgeoebodlcbebaaFbD
import Derived.Test.YtgeoebodlcbebaaFaS
namespace Fl
set_option linter.unusedVariables false
/-- a row without its deficit -/
def z (r : Rw) : Rw := { r with d := 0 }
/-- rows, and the first items of one more -/
def part (zs : List Rw) (r : Rw) (k : Nat) : List Rw := if k = 0 then zs else zs ++ [⟨r.f, r.w, 0, r.its.take k⟩]
/-- the document's Most -/
def mostD (q w : Int) (b : Bool) : Int := if b && decide (w ≥ 1) && decide (w ≤ 16) then 64 + q * w else 64
theorem part_zero (zs : List Rw) (r : Rw) : part zs r 0 = zs := rfl
theorem part_all (zs : List Rw) {r : Rw} (h : r.its ≠ []) : part zs r r.its.length = zs ++ [z r] := by
  have : ¬ r.its.length = 0 := fun e => h (List.eq_nil_of_length_eq_zero e)
  unfold part z
  rw [if_neg this, List.take_length]
theorem mostD_eq {q w : Int} (b : Bool) (h : ¬ (w < 1 ∨ w > 16)) : mostD q w b = mostOf q w b := by
  unfold mostD mostOf
  rw [show decide (w ≥ 1) = true from decide_eq_true (by omega), show decide (w ≤ 16) = true from decide_eq_true (by omega)]
  simp
theorem row_app {zs : List Rw} {x : Rw} (h : row zs x.f = none) : row (zs ++ [x]) x.f = some x := by
  have h' := row_none.1 h
  unfold row
  rw [List.find?_append, List.find?_eq_none.2 (fun y hy => by simpa using h' y hy)]
  simp
theorem part_pushE {q : Int} {zs : List Rw} {r : Rw} {k : Nat} (hrow : row zs r.f = none) (id co : Int) : (⟨q, part zs r k, false⟩ : St).pushE r.f r.w id co = if r.f < 0 ∨ r.w < 1 ∨ r.w > 16 then 1 else Ff.pushE (r.its.take k) id co := by
  by_cases hb : r.f < 0 ∨ r.w < 1 ∨ r.w > 16
  · rw [if_pos hb]; exact (push_bad (Or.inl hb)).2
  · rw [if_neg hb]
    by_cases hk : k = 0
    · subst hk
      rw [part_zero]
      have := (push_new (s := ⟨q, zs, false⟩) (id := id) (c := co) hb hrow).2
      simpa using this
    · have hp : part zs r k = zs ++ [⟨r.f, r.w, 0, r.its.take k⟩] := by unfold part; rw [if_neg hk]
      rw [hp]
      exact (push_there (s := ⟨q, zs ++ [⟨r.f, r.w, 0, r.its.take k⟩], false⟩) (r := ⟨r.f, r.w, 0, r.its.take k⟩) hb (row_app (x := ⟨r.f, r.w, 0, r.its.take k⟩) hrow) rfl).2
theorem part_push {q : Int} {zs : List Rw} {r : Rw} {k : Nat} (hk : k < r.its.length) (hrow : row zs r.f = none) (hnd : ((part zs r k).map (·.f)).Nodup) (h : (⟨q, part zs r k, false⟩ : St).pushE r.f r.w r.its[k].1 r.its[k].2 = 0) :
    ¬ (r.f < 0 ∨ r.w < 1 ∨ r.w > 16) ∧ (⟨q, part zs r k, false⟩ : St).push r.f r.w r.its[k].1 r.its[k].2 = ⟨q, part zs r (k + 1), false⟩ := by
  have h' := h
  rw [part_pushE hrow] at h'
  by_cases hb : r.f < 0 ∨ r.w < 1 ∨ r.w > 16
  · rw [if_pos hb] at h'; cases h'
  · rw [if_neg hb] at h'
    refine ⟨hb, ?_⟩
    have ht : r.its.take (k + 1) = r.its.take k ++ [r.its[k]] := by rw [List.take_add_one, List.getElem?_eq_getElem hk]; rfl
    have hp1 : part zs r (k + 1) = zs ++ [⟨r.f, r.w, 0, r.its.take k ++ [r.its[k]]⟩] := by unfold part; rw [if_neg (by omega), ht]
    rw [hp1]
    by_cases hk0 : k = 0
    · subst hk0
      have e0 : Ff.pushE [] r.its[0].1 r.its[0].2 = 0 := by simpa using h'
      rw [part_zero]
      rw [(push_new (s := ⟨q, zs, false⟩) (id := r.its[0].1) (c := r.its[0].2) hb hrow).1, if_pos e0]
      simp
    · have hp : part zs r k = zs ++ [⟨r.f, r.w, 0, r.its.take k⟩] := by unfold part; rw [if_neg hk0]
      rw [hp] at hnd ⊢
      have hh := (push_there (s := (⟨q, zs ++ [(⟨r.f, r.w, 0, r.its.take k⟩ : Rw)], false⟩ : St)) (f := r.f) (w := r.w) (id := r.its[k].1) (c := r.its[k].2) (r := (⟨r.f, r.w, 0, r.its.take k⟩ : Rw)) hb (row_app (x := (⟨r.f, r.w, 0, r.its.take k⟩ : Rw)) hrow) rfl).1
      rw [hh]
      have e1 := (pushE_zero h').2.2
      rw [e1]
      rw [put_set (a := zs) (b := []) (r := ⟨r.f, r.w, 0, r.its.take k⟩) (x := ⟨r.f, r.w, 0, r.its.take k ++ [(r.its[k].1, r.its[k].2)]⟩) hnd rfl (by simp)]
theorem row_z (l : List Rw) (f : Int) : row (l.map z) f = none ↔ row l f = none := by
  rw [row_none, row_none]
  constructor
  · intro h r hr; exact h (z r) (List.mem_map_of_mem hr)
  · intro h r hr
    obtain ⟨x, hx, rfl⟩ := List.mem_map.1 hr
    exact h x hx
theorem pl_ge {l : List Rw} {f : Int} {r : Rw} (h : row l f = some r) : 0 ≤ pl l f := by
  unfold pl; rw [h]; simp
end Fl
namespace Go.Proofs.Ytgeoebodlcbebaa
open Go.RowKit
open Rb (Nd)
set_option linter.unusedVariables false
set_option linter.unusedSimpArgs false

set_option maxRecDepth 100000 in
theorem mostC (q wt : Int) (b : Bool) (w : World) (h1 : 1 ≤ q) (h2 : q ≤ 64) : Calls Try.prog 49 #[.int .i64 q, .int .i64 wt, .bool b] w (Same (.int .i64 (Fl.mostD q wt b)) w) := by
  unfold Fl.mostD
  cases b with
  | false =>
    go_enter Try.func49, Try.ntmps49
    go_wp2
    go_ret
    exact ⟨rfl, rfl⟩
  | true =>
    by_cases a1 : wt ≥ 1
    · by_cases a2 : wt ≤ 16
      · have hm : q * wt ≤ 64 * 16 := Int.mul_le_mul h2 a2 (by omega) (by omega)
        have hp : 0 ≤ q * wt := Int.mul_nonneg (by omega) (by omega)
        have t1 : decide (wt ≥ 1) = true := decide_eq_true a1
        have t2 : decide (wt ≤ 16) = true := decide_eq_true a2
        have e1 : wrap64 (q * wt) = q * wt := by generalize q * wt = z at *; unfold wrap64; omega
        have e2 : wrap64 (64 + q * wt) = 64 + q * wt := by generalize q * wt = z at *; unfold wrap64; omega
        rw [t1, t2]
        have E1 := Lib.hid e1
        have E2 := Lib.hid e2
        clear a1 a2 hm hp e1 e2 h1 h2
        go_enter Try.func49, Try.ntmps49
        go_wp2
        go_ret
        refine ⟨?_, rfl⟩
        simp only [E1.out, E2.out]
        simp
      · have t1 : decide (wt ≥ 1) = true := decide_eq_true a1
        have t2 : decide (wt ≤ 16) = false := decide_eq_false a2
        rw [t1, t2]
        clear a1 a2 h1 h2
        go_enter Try.func49, Try.ntmps49
        go_wp2
        go_ret
        exact ⟨rfl, rfl⟩
    · have t1 : decide (wt ≥ 1) = false := decide_eq_false a1
      rw [t1]
      clear a1 h1 h2
      go_enter Try.func49, Try.ntmps49
      go_wp2
      go_ret
      exact ⟨rfl, rfl⟩
/-- it tells whether rows may be loaded -/
structure RetRi (q : Int) (g : Bool) (l : List Fl.Rw) (w : World) (e : Ending) (w' : World) : Prop where
  r : (Fl.Right q g l ∧ e = .returned (.bool true)) ∨ (¬ Fl.Right q g l ∧ e = .returned (.bool false))
  b : Below w.heap.size w w'
set_option maxRecDepth 100000 in
theorem rightQ (q : Int) (g : Bool) (a : Option Addr) (cap : Nat) (ds : List DR) (w : World) (h : ¬ (1 ≤ q ∧ q ≤ 64)) :
    Calls Try.prog 24 #[.int .i64 q, .slice a ds.length cap, .bool g] w (RetRi q g (ds.map DR.r) w) := by
  have HN : Hid (¬ Fl.Right q g (ds.map DR.r)) := Lib.hid (fun hr => h hr.qu)
  by_cases h1 : q < 1
  · have t1 : decide (q < 1) = true := decide_eq_true h1
    clear h h1
    go_enter Try.func24, Try.ntmps24
    go_wp2
    go_ret
    exact ⟨Or.inr ⟨HN.out, rfl⟩, Below.refl _ _⟩
  · have t1 : decide (q < 1) = false := decide_eq_false h1
    have t2 : decide (q > 64) = true := decide_eq_true (by omega)
    clear h h1
    go_enter Try.func24, Try.ntmps24
    go_wp2
    go_ret
    exact ⟨Or.inr ⟨HN.out, rfl⟩, Below.refl _ _⟩
set_option maxRecDepth 100000 in
theorem rightG (q : Int) (a : Option Addr) (cap : Nat) (w : World) (h1 : 1 ≤ q) (h2 : q ≤ 64) :
    Calls Try.prog 24 #[.int .i64 q, .slice a 0 cap, .bool true] w (RetRi q true [] w) := by
  have HN : Hid (¬ Fl.Right q true []) := Lib.hid (fun hr => by have := hr.gv rfl; cases this)
  have t1 : decide (q < 1) = false := decide_eq_false (by omega)
  have t2 : decide (q > 64) = false := decide_eq_false (by omega)
  clear h1 h2
  go_enter Try.func24, Try.ntmps24
  go_wp2
  go_ret
  exact ⟨Or.inr ⟨HN.out, rfl⟩, Below.refl _ _⟩
/-- the document's ring behind i rows and k items of the next -/
structure RiQ (w : World) (q : Int) (g : Bool) (n : Nat) (l : List Fl.Rw) (i : Nat) (s : Fl.St) (W : World) : Prop where
  is : ∃ D, RfIs W w.heap.size s D
  k : OkS n s
  b : Below w.heap.size w W
  p : Fl.Pre q g l i
theorem RiQ.below {w W W' : World} {q : Int} {g : Bool} {n : Nat} {l : List Fl.Rw} {i : Nat} {s : Fl.St} (h : RiQ w q g n l i s W) (hb : Below W.heap.size W W') : RiQ w q g n l i s W' := by
  obtain ⟨D, hD⟩ := h.is
  exact ⟨⟨D, hD.below hb⟩, h.k, h.b.trans (hb.mono h.b.size), h.p⟩
theorem RiQ.ref {w W : World} {q : Int} {g : Bool} {n : Nat} {l : List Fl.Rw} {i : Nat} {s : Fl.St} (h : RiQ w q g n l i s W) : ∃ a cap ds, RfAt W w.heap.size s a cap ds := by
  obtain ⟨D, a, cap, ds, h1, _⟩ := h.is
  exact ⟨a, cap, ds, h1⟩
theorem ri_push {w W : World} {V : Nat} (hV : V = w.heap.size) {q : Int} {g : Bool} {n : Nat} {l : List Fl.Rw} {i : Nat} {s : Fl.St} (h : RiQ w q g n l i s W) (hn : n ≤ 1000) (f wt id co : Int) (hf : (Lit.int .i64 f).wf = true) (hid : (Lit.int .i64 id).wf = true) :
    Calls Try.prog 26 #[.pointer (some ⟨V, 0, none⟩), .int .i64 f, .int .i64 wt, .agg #[.int .i64 id, .int .i64 co]] W fun e W' => e = .returned (.int .i64 (s.pushE f wt id co)) ∧ Hid (RiQ w q g (n + 1) l i (s.push f wt id co) W' ∧ Below w.heap.size w W') := by
  subst hV
  obtain ⟨D, hD⟩ := h.is
  refine (refPushFC w.heap.size s D f wt id co W hD h.k.g (h.k.z.mono (by omega))).mono fun e W' hr => ⟨hr.r, ?_⟩
  obtain ⟨D', h1, _⟩ := hr.s
  have hb : Below w.heap.size w W' := h.b.trans (hr.c.below (fun k hk => by have e : k = w.heap.size := hk; omega) h.b.size)
  exact Lib.hid ⟨⟨⟨D', h1⟩, h.k.push wt co hf hid, hb, h.p⟩, hb⟩
end Go.Proofs.Ytgeoebodlcbebaa
