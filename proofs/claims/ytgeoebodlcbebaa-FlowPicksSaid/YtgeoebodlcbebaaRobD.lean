/-
  A ring of flows: Append.
-/
import Derived.Test.YtgeoebodlcbebaaRobC
namespace Go.Proofs.Ytgeoebodlcbebaa
open Go.RowKit
open Rb (Nd)
set_option linter.unusedVariables false

/-- a ring's links behind Append -/
structure RetA (B R m : Nat) (q : Int) (g : Bool) (ns : List Nd) (n : Nd) (w : World) (e : Ending) (w' : World) : Prop where
  e : e = .returned (.tuple #[])
  s : ∃ b x y, RIn w' B R m q g (ns ++ [{ n with b := b }]) x y ∧ ∀ k, footG R m (ns ++ [{ n with b := b }]) k → footG R m ns k ∨ n.F k ∨ w.heap.size ≤ k
  c : Chg (footG R m ns) w w'
abbrev preA (n : Nd) (w : World) : World := ((w.alloc (flO n)).alloc (linkO n (.pointer none) (.pointer none)))
theorem append_prep {B R m : Nat} {q : Int} {g : Bool} {ns : List Nd} {x y : Nat → Nat} {n : Nd} {w W : World} (h : RIn w B R m q g ns x y) (hW : W = preA n w ∨ W = (preA n w).drew) (hl : ns.length ≤ 1000000)
    (ht : n.t = 69) (hq : QIs w B n.q n.r.its n.F) (hap : ∀ k, n.F k → ¬ footG R m ns k) (hf : (Lit.int .i64 n.r.f).wf = true) (hno : ∀ n' ∈ ns, n'.r.f ≠ n.r.f) :
    Below w.heap.size w W ∧ W.heap[w.heap.size]? = some (flO n) ∧ W.heap[w.heap.size + 1]? = some (linkO n (.pointer none) (.pointer none)) ∧ ∃ w3, (Instr.mapUpdate 95 (.map (some m)) (.int .i64 n.r.f) (.pointer (some ⟨w.heap.size + 1, 0, none⟩))).run Try.prog W = .ok () w3 ∧
      GQ w (footG R m ns) B R m q (visOf ns) g ({ n with b := w.heap.size + 1 } :: ns) (updV (fun k => pB (x k)) (w.heap.size + 1) (.pointer none)) (updV (fun k => pB (y k)) (w.heap.size + 1) (.pointer none)) w3 := by
  have hz0 : (w.alloc (flO n)).heap.size = w.heap.size + 1 := by simp
  have hz1 : W.heap.size = w.heap.size + 2 := by rcases hW with e | e <;> rw [e] <;> simp [preA]
  have hb1 : Below w.heap.size w W := by
    have := ((Below.refl w.heap.size w).alloc (Nat.le_refl _) (flO n)).alloc (by simp) (linkO n (.pointer none) (.pointer none))
    rcases hW with e | e <;> rw [e]
    · exact this
    · exact this.drew
  have hnew : W.heap[w.heap.size + 1]? = some (linkO n (.pointer none) (.pointer none)) := by
    have := heap_alloc_new (w.alloc (flO n)) (linkO n (.pointer none) (.pointer none))
    rw [hz0] at this
    rcases hW with e | e <;> rw [e] <;> exact this
  have hbox : W.heap[w.heap.size]? = some (flO n) := by
    have : (preA n w).heap[w.heap.size]? = some (flO n) := (Lib.alloc_old _ _ _ (by simp)).trans (heap_alloc_new _ _)
    rcases hW with e | e <;> rw [e] <;> exact this
  have hr1 := h.r.below hb1
  obtain ⟨w3, hrun, hM, hC, hz3⟩ := run_putR hr1.map ⟨w.heap.size + 1, n.r.f, 0⟩ hf (by simp; omega) (fun k hk => by
    obtain ⟨z, hz, rfl⟩ := List.mem_map.1 hk
    exact hno z hz)
  exact ⟨hb1, hbox, hnew, w3, hrun, GQ.made (n := { n with b := w.heap.size + 1 }) h hb1 rfl (by omega) hnew ht hq hap hf hno hM hC⟩
set_option maxRecDepth 100000 in
set_option maxHeartbeats 4000000 in
theorem appendNil (B R m : Nat) (q : Int) (g : Bool) (x y : Nat → Nat) (n : Nd) (w : World) (h : RIn w B R m q g [] x y) (hB : B ≤ w.heap.size)
    (ht : n.t = 69) (hq : QIs w B n.q n.r.its n.F) (hap : ∀ k, n.F k → ¬ footG R m [] k) (hf : (Lit.int .i64 n.r.f).wf = true) :
    Calls Try.prog 38 #[.pointer (some ⟨R, 0, none⟩), flV n] w (RetA B R m q g [] n w) := by
  obtain ⟨hb1, hbox, hnew, w3, hrun, hG⟩ := append_prep h (Or.inr rfl) (by simp) ht hq hap hf (by simp)
  have hbN : Below w.heap.size w (preA n w) := ((Below.refl w.heap.size w).alloc (Nat.le_refl _) (flO n)).alloc (by simp) (linkO n (.pointer none) (.pointer none))
  obtain ⟨_, c1, _, _⟩ := (h.r.below hbN).cs
  have d0 : (preA n w).cell? ⟨w.heap.size, 1, none⟩ = some (.int .i64 n.r.f) := by rw [cell_of_row _ _ _ _ _ _ (show (preA n w).heap[w.heap.size]? = some (flO n) from (Lib.alloc_old _ _ _ (by simp)).trans (heap_alloc_new _ _))]; rfl
  obtain ⟨T, hT⟩ : ∃ T, T = w.heap.size + 1 := ⟨_, rfl⟩
  rw [← hT] at hG hrun
  obtain ⟨_, _, x2, _⟩ := hG.r.cs
  replace x2 : w3.cell? ⟨R, 2, none⟩ = some (.pointer none) := x2
  have f2 := hG.r.fr 2
  have hn1 : ({ n with b := T } : Nd) ∈ [({ n with b := T } : Nd)] := by simp
  have g1 := hG.vis (.pointer (some ⟨T, 0, none⟩))
  obtain ⟨_, _, _, _, x4, _⟩ := g1.r.nd6 hn1
  have f4 := g1.r.nf hn1 4
  have g2 := g1.setB hn1 (.pointer (some ⟨T, 0, none⟩))
  obtain ⟨_, _, y2, _⟩ := g2.r.cs
  obtain ⟨_, _, _, _, y4, _⟩ := g2.r.nd6 hn1
  simp only [updV_same] at y4
  have J1 := Lib.hid (gq_join T T _ g2 (by simp) (by simp))
  have J2 := Lib.hid (fun W hW => gq_join (w0 := w) (F := footG R m []) (B := B) (R := R) (m := m) (q := q) (v := .pointer (some ⟨T, 0, none⟩)) (g := g) (ns := [{ n with b := T }]) (aft := updV (updV (fun k => pB (x k)) T (.pointer none)) T (.pointer (some ⟨T, 0, none⟩))) (bef := updV (updV (updV (fun k => pB (y k)) T (.pointer none)) T (.pointer (some ⟨T, 0, none⟩))) T (.pointer (some ⟨T, 0, none⟩))) T T W hW (by simp) (by simp))
  have HV := Lib.hid (fun W (hW : GQ w (footG R m []) B R m q (.pointer (some ⟨T, 0, none⟩)) g [{ n with b := T }] (updV (updV (fun k => pB (x k)) T (.pointer none)) T (.pointer (some ⟨T, 0, none⟩))) (updV (updV (updV (fun k => pB (y k)) T (.pointer none)) T (.pointer (some ⟨T, 0, none⟩))) T (.pointer (some ⟨T, 0, none⟩))) W) => hW.r.cs.2.2.1)
  have hfin : ∀ W, GQ w (footG R m []) B R m q (.pointer (some ⟨T, 0, none⟩)) g [{ n with b := T }] (updV (updV (updV (fun k => pB (x k)) T (.pointer none)) T (.pointer (some ⟨T, 0, none⟩))) T (.pointer (some ⟨T, 0, none⟩))) (updV (updV (updV (updV (fun k => pB (y k)) T (.pointer none)) T (.pointer (some ⟨T, 0, none⟩))) T (.pointer (some ⟨T, 0, none⟩))) T (.pointer (some ⟨T, 0, none⟩))) W → RetA B R m q g [] n w (.returned (.tuple #[])) W := fun W hW => by
    obtain ⟨r1, r2, r3⟩ := GQ.appended (n := { n with b := T }) (x' := fun _ => T) (y' := fun _ => T) hB h hq hW rfl (fun z hz => by simp at hz; subst hz; simp [updV]) (fun z hz => by simp at hz; subst hz; simp [updV]) (Rb.IsRing.one rfl rfl)
    exact ⟨rfl, ⟨T, _, _, r1, r3⟩, r2⟩
  have HF := Lib.hid hfin
  have HT := Lib.hid hT
  unfold preA at *
  clear hb1 hbox hnew h hq hap hf hG g1 g2 hn1 hfin hbN hB
  clear hT
  go_enter Try.func38, Try.ntmps38
  go_wp2
  rw [← HT.out]
  go_region
  go_wp2_with (first | (go_at_call 57; (with_reducible refine J1.out.mono ?_); rintro e wA ⟨rfl, hA⟩; have z2 := HV.out _ hA.out) | (go_at_call 57; (with_reducible refine (J2.out _ hA.out).mono ?_); rintro e wB ⟨rfl, hB⟩))
  go_end0
  exact HF.out _ hB.out
set_option maxRecDepth 100000 in
set_option maxHeartbeats 4000000 in
theorem appendMore (B R m : Nat) (q : Int) (g : Bool) (r : Nd) (t : List Nd) (x y : Nat → Nat) (n : Nd) (w : World) (h : RIn w B R m q g (r :: t) x y) (hB : B ≤ w.heap.size) (hl : t.length ≤ 100000)
    (ht : n.t = 69) (hq : QIs w B n.q n.r.its n.F) (hap : ∀ k, n.F k → ¬ footG R m (r :: t) k) (hf : (Lit.int .i64 n.r.f).wf = true) (hno : ∀ n' ∈ r :: t, n'.r.f ≠ n.r.f) :
    Calls Try.prog 38 #[.pointer (some ⟨R, 0, none⟩), flV n] w (RetA B R m q g (r :: t) n w) := by
  obtain ⟨hb1, hbox, hnew, w3, hrun, hG⟩ := append_prep h (Or.inr rfl) (by simp; omega) ht hq hap hf hno
  have hbN : Below w.heap.size w (preA n w) := ((Below.refl w.heap.size w).alloc (Nat.le_refl _) (flO n)).alloc (by simp) (linkO n (.pointer none) (.pointer none))
  obtain ⟨_, c1, _, _⟩ := (h.r.below hbN).cs
  have d0 : (preA n w).cell? ⟨w.heap.size, 1, none⟩ = some (.int .i64 n.r.f) := by rw [cell_of_row _ _ _ _ _ _ (show (preA n w).heap[w.heap.size]? = some (flO n) from (Lib.alloc_old _ _ _ (by simp)).trans (heap_alloc_new _ _))]; rfl
  obtain ⟨T, hT⟩ : ∃ T, T = w.heap.size + 1 := ⟨_, rfl⟩
  have hlt : ∀ n' ∈ r :: t, n'.b ≠ T := fun n' hn' e => by have := h.r.lt n'.b (Or.inr (Or.inr (List.mem_map.2 ⟨n', hn', rfl⟩))); omega
  rw [← hT] at hG hrun
  have hrT : r.b ≠ T := hlt r (by simp)
  have hin := (h.ring.in_of (x := r.b) (by simp)).2
  have hyT : y r.b ≠ T := fun e => by
    rw [e] at hin
    obtain ⟨n', hn', e2⟩ := List.mem_map.1 hin
    exact hlt n' hn' e2
  have hpush := Rb.IsRing.push (x := T) (xs := t.map (·.b)) h.ring (fun hm => by
    obtain ⟨n', hn', e2⟩ := List.mem_map.1 (show T ∈ (r :: t).map (·.b) from hm)
    exact hlt n' hn' e2)
  have hrm : r ∈ ({ n with b := T } : Nd) :: (r :: t) := by simp
  obtain ⟨_, _, x2, _⟩ := hG.r.cs
  replace x2 : w3.cell? ⟨R, 2, none⟩ = some (.pointer (some ⟨r.b, 0, none⟩)) := x2
  obtain ⟨_, _, _, _, x4, _⟩ := hG.r.nd6 hrm
  rw [updV_other _ _ hrT] at x4
  have J1 := Lib.hid (gq_join (y r.b) T _ hG (by rw [List.map_cons]; exact List.mem_cons_of_mem _ hin) (by simp))
  have J2 := Lib.hid (fun W hW => gq_join (w0 := w) (F := footG R m (r :: t)) (B := B) (R := R) (m := m) (q := q) (v := visOf (r :: t)) (g := g) (ns := { n with b := T } :: (r :: t)) (aft := updV (updV (fun k => pB (x k)) T (.pointer none)) (y r.b) (.pointer (some ⟨T, 0, none⟩))) (bef := updV (updV (fun k => pB (y k)) T (.pointer none)) T (.pointer (some ⟨y r.b, 0, none⟩))) T r.b W hW (by simp) (by simp))
  have HV := Lib.hid (fun W (hW : GQ w (footG R m (r :: t)) B R m q (visOf (r :: t)) g ({ n with b := T } :: (r :: t)) (updV (updV (fun k => pB (x k)) T (.pointer none)) (y r.b) (.pointer (some ⟨T, 0, none⟩))) (updV (updV (fun k => pB (y k)) T (.pointer none)) T (.pointer (some ⟨y r.b, 0, none⟩))) W) => (show W.cell? ⟨R, 2, none⟩ = some (.pointer (some ⟨r.b, 0, none⟩)) from hW.r.cs.2.2.1))
  have hfin : ∀ W, GQ w (footG R m (r :: t)) B R m q (visOf (r :: t)) g ({ n with b := T } :: (r :: t)) (updV (updV (updV (fun k => pB (x k)) T (.pointer none)) (y r.b) (.pointer (some ⟨T, 0, none⟩))) T (.pointer (some ⟨r.b, 0, none⟩))) (updV (updV (updV (fun k => pB (y k)) T (.pointer none)) T (.pointer (some ⟨y r.b, 0, none⟩))) r.b (.pointer (some ⟨T, 0, none⟩))) W → RetA B R m q g (r :: t) n w (.returned (.tuple #[])) W := fun W hW => by
    obtain ⟨r1, r2, r3⟩ := GQ.appended (n := { n with b := T }) (x' := Rb.upd (Rb.upd x (y r.b) T) T r.b) (y' := Rb.upd (Rb.upd y T (y r.b)) r.b T) hB h hq hW rfl (fun z hz => by
        rcases List.mem_cons.1 hz with e | hz
        · subst e
          simp [updV, Rb.upd]
        · have e1 := hlt z hz
          by_cases e2 : z.b = y r.b
          · simp [updV, Rb.upd, e2, hyT]
          · simp [updV, Rb.upd, e2, e1]) (fun z hz => by
        rcases List.mem_cons.1 hz with e | hz
        · subst e
          simp [updV, Rb.upd, Ne.symm hrT]
        · have e1 := hlt z hz
          by_cases e2 : z.b = r.b
          · simp [updV, Rb.upd, e2]
          · simp [updV, Rb.upd, e2, e1]) hpush
    exact ⟨rfl, ⟨T, _, _, r1, r3⟩, r2⟩
  have HF := Lib.hid hfin
  have HT := Lib.hid hT
  unfold preA at *
  generalize y r.b = Y at *
  clear hb1 hbox hnew h hq hap hf hG hrm hfin hbN hB hno hin hpush hlt hyT hrT
  clear hT
  go_enter Try.func38, Try.ntmps38
  go_wp2
  rw [← HT.out]
  go_region
  go_wp2_with (first | (go_at_call 57; (with_reducible refine J1.out.mono ?_); rintro e wA ⟨rfl, hA⟩; have z2 := HV.out _ hA.out) | (go_at_call 57; (with_reducible refine (J2.out _ hA.out).mono ?_); rintro e wB ⟨rfl, hB⟩))
  go_end0
  exact HF.out _ hB.out
end Go.Proofs.Ytgeoebodlcbebaa
