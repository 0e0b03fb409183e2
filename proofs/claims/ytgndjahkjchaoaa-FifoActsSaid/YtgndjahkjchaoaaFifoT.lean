/-
  A queue alone: the chapter's example, FifoNil; a queue beside the document's.
-/
import Derived.Test.YtgndjahkjchaoaaFifoS
namespace Ff
/-- what a call leaves -/
def step (l : List E) (kd id co : Int) : List E := if kd = 0 then pushL l id co else if kd = 1 then l.tail else drop l id
theorem Good.pushL {l : List E} (h : Good l) {id co : Int} (hid : id ≤ 9223372036854775807) : Good (pushL l id co) := by
  unfold Ff.pushL
  cases hb : bad id co with
  | true => exact h
  | false =>
    cases hh : has l id with
    | true => exact h
    | false =>
      obtain ⟨b1, b2, b3⟩ := bad_no hb
      exact h.push b1 hid b2 b3 (has_no.1 hh)
theorem length_pushL (l : List E) (id co : Int) : (pushL l id co).length ≤ l.length + 1 := by
  unfold pushL
  split
  · omega
  · split
    · omega
    · simp
theorem Good.step {l : List E} (h : Good l) {kd id co : Int} (hid : id ≤ 9223372036854775807) : Good (step l kd id co) := by
  unfold Ff.step
  split
  · exact h.pushL hid
  · split
    · exact h.sub (List.tail_sublist l)
    · exact h.drop id
theorem length_step (l : List E) (kd id co : Int) : (step l kd id co).length ≤ l.length + 1 := by
  unfold step
  split
  · exact length_pushL l id co
  · split
    · simp; omega
    · have := drop_length l id; omega
theorem place_find {l : List E} {id : Int} {x : E} (h : l.find? (fun e => e.1 == id) = some x) : ∃ j : Nat, ∃ hj : j < l.length, place l id = (j : Int) ∧ l[j] = x := by
  obtain ⟨h1, a, b, rfl, h2⟩ := List.find?_eq_some_iff_append.1 h
  refine ⟨a.length, by simp, place_yes (by simp) (by simpa using h1) (fun p hp hlt => ?_), by simp⟩
  rw [List.getElem_append_left hlt]
  simpa using h2 _ (List.getElem_mem hlt)
theorem place_none {l : List E} {id : Int} (h : l.find? (fun e => e.1 == id) = none) : place l id = -1 :=
  place_no (fun e he => by simpa using List.find?_eq_none.1 h e he)
end Ff
namespace Go.Proofs.Ytgndjahkjchaoaa
open Go.RowKit
set_option linter.unusedVariables false

/-- a queue alone -/
structure Solo (w0 : World) (P : Nat) (l : List Ff.E) (W : World) : Prop where
  s : ∃ F, QIs W w0.heap.size P l F
  b : Below w0.heap.size w0 W
theorem Solo.below {w0 : World} {P : Nat} {l : List Ff.E} {W W' : World} (h : Solo w0 P l W) (hb : Below W.heap.size W W') : Solo w0 P l W' := by
  obtain ⟨F, h1⟩ := h.s
  exact ⟨⟨F, h1.below hb⟩, h.b.trans (hb.mono h.b.size)⟩
theorem Solo.did {w0 : World} {P : Nat} {l l' : List Ff.E} {r : Value} {F : Nat → Prop} {W W' : World} {e : Ending} (h : Solo w0 P l W) (h1 : QIs W w0.heap.size P l F) (hr : RetQ r w0.heap.size P l' F W e W') : e = .returned r ∧ Solo w0 P l' W' := by
  obtain ⟨F', g1, g2⟩ := hr.s
  exact ⟨hr.r, ⟨F', g1⟩, h.b.trans (hr.c.below (fun k hk => (h1.lt k hk).1) h.b.size)⟩
theorem solo_new (w0 W : World) (hb : Below w0.heap.size w0 W) : Calls Try.prog 6 #[] W fun e W' => ∃ P, e = .returned (.pointer (some ⟨P, 0, none⟩)) ∧ Solo w0 P [] W' :=
  (newQC W).mono fun e W' hr => by
    obtain ⟨P, F, rfl, m, s, ns, aft, bef, g1, g2, g3, g4, g5, g6⟩ := hr.s
    exact ⟨P, rfl, ⟨F, m, s, ns, aft, bef, g1, g2, g3, g4, g5, fun k hk => Nat.le_trans hb.size (g6 k hk)⟩, hb.trans (hr.b.mono hb.size)⟩
theorem numC (e : Int) (w : World) : Calls Try.prog 8 #[.int .i64 e] w (Same (.int .i64 e) w) := by
  go_enter Try.func8, Try.ntmps8
  go_wp2
  go_ret
  exact ⟨rfl, rfl⟩
theorem live_1 : Ff.pushE [] 1 5 = 0 ∧ Ff.pushL [] 1 5 = [(1, 5)] := by decide
theorem live_2 : Ff.pushE [(1, 5)] 2 3 = 0 ∧ Ff.pushL [(1, 5)] 2 3 = [(1, 5), (2, 3)] := by decide
theorem live_3 : Ff.drop [(1, 5), (2, 3)] 1 = [(2, 3)] ∧ [((1 : Int), (5 : Int)), (2, 3)].find? (fun e => e.1 == 1) = some (1, 5) := by decide
set_option maxRecDepth 100000 in
set_option maxHeartbeats 8000000 in
theorem liveOk (w : World) : Calls Try.prog 5 #[] w (Ret (.bool true) w) := by
  have K0 := Lib.hid (fun W hb => solo_new w W hb)
  have K1 := Lib.hid (fun P W (h : Solo w P [] W) => by
    obtain ⟨F, h1⟩ := h.s
    have := (pushC w.heap.size P [] F 1 5 W h1 (by decide) (by decide) h.b.size).mono fun e W' hr => h.did h1 hr
    rw [live_1.1, live_1.2] at this
    exact this)
  have K2 := Lib.hid (fun P W (h : Solo w P [(1, 5)] W) => by
    obtain ⟨F, h1⟩ := h.s
    have := (pushC w.heap.size P [(1, 5)] F 2 3 W h1 (by decide) (by decide) h.b.size).mono fun e W' hr => h.did h1 hr
    rw [live_2.1, live_2.2] at this
    exact this)
  have K3 := Lib.hid (fun P W (h : Solo w P [(1, 5), (2, 3)] W) => by
    obtain ⟨F, h1⟩ := h.s
    have := (dropC w.heap.size P [(1, 5), (2, 3)] F 1 W h1 (by decide) (by decide)).mono fun e W' hr => h.did h1 hr
    rw [live_3.1, live_3.2] at this
    exact this)
  have K4 := Lib.hid (fun P W (h : Solo w P [(2, 3)] W) => by
    obtain ⟨F, h1⟩ := h.s
    exact headC w.heap.size P [(2, 3)] F W h1 (by decide))
  have KN := Lib.hid (fun e W => numC e W)
  have HBX := Lib.hid (fun W P (h : Solo w P [(2, 3)] W) => (show Solo w P [(2, 3)] (W.alloc (itO 1 5)) from h.below ((Below.refl _ _).alloc (Nat.le_refl _) _)))
  unfold itemV at K3 K4
  go_enter Try.func5, Try.ntmps5
  go_wp2_with (first | (go_at_call 6; (with_reducible refine (K0.out _ (Below.refl _ _)).mono ?_); rintro e wA ⟨P, rfl, hT⟩; have HV := Lib.hid hT; clear hT) | (go_at_call 9; (first | (with_reducible refine (K1.out _ _ HV.out).mono ?_) | (with_reducible refine (K2.out _ _ HV.out).mono ?_)); rintro e wA ⟨rfl, hT⟩; replace HV := Lib.hid hT; clear hT) | (go_at_call 11; (with_reducible refine (K3.out _ _ HV.out).mono ?_); rintro e wD ⟨rfl, hT⟩; replace HV := Lib.hid (HBX.out _ _ hT); clear hT) | (go_at_call 14; (with_reducible refine (K4.out _ _ HV.out).mono ?_); rintro e wE ⟨rfl, hbE⟩; have hXE := (hbE.block wD.heap.size (by simp)).trans (heap_alloc_new wD (itO 1 5)); obtain ⟨z2, z3, z4, z5⟩ := box_at hXE (itO 2 3); have HE := Lib.hid (HV.out.b.trans (hbE.mono HV.out.b.size)); clear hbE hXE) | (go_at_call 8; (with_reducible refine (KN.out _ _).mono ?_); rintro e wF ⟨rfl, rfl⟩))
  go_ret
  exact ⟨rfl, HE.out.alloc HE.out.size _⟩
set_option maxRecDepth 100000 in
set_option maxHeartbeats 4000000 in
theorem fifoNil_walk (id co : Int) (w : World) (hi : (Lit.int .i64 id).wf = true) (hc : (Lit.int .i64 co).wf = true) : Calls Try.prog 4 #[.agg #[.int .i64 id, .int .i64 co]] w (Ret (.bool true) w) := by
  obtain ⟨w1, hw1⟩ : ∃ w1, w1 = w.alloc (itO id co) := ⟨_, rfl⟩
  have hX : w1.heap[w.heap.size]? = some (itO id co) := by rw [hw1]; exact heap_alloc_new _ _
  have hz1 : w1.heap.size = w.heap.size + 1 := by rw [hw1]; simp
  have hb1 : Below w.heap.size w w1 := by rw [hw1]; exact (Below.refl _ _).alloc (Nat.le_refl _) _
  have hXX : ∀ W, Below w1.heap.size w1 W → W.cell? ⟨w.heap.size, 0, none⟩ = some (.int .i64 id) ∧ W.cell? ⟨w.heap.size, 1, none⟩ = some (.int .i64 co) := fun W hW => by
    have hx := (hW.block w.heap.size (by omega)).trans hX
    exact ⟨by rw [cell_of_row _ _ _ _ _ _ hx]; rfl, by rw [cell_of_row _ _ _ _ _ _ hx]; rfl⟩
  have hst : ∀ W r e W', Below w1.heap.size w1 W → Ret r W e W' → ∀ o, Below w1.heap.size w1 (W'.alloc o) := fun W r e W' hW hr o => by
    have h3 := hW.trans (hr.b.mono hW.size)
    exact h3.alloc h3.size _
  have hen : ∀ W r e W', Below w1.heap.size w1 W → Ret r W e W' → Below w1.heap.size w1 W' ∧ Below w.heap.size w W' := fun W r e W' hW hr => by
    have h3 := hW.trans (hr.b.mono hW.size)
    exact ⟨h3, hb1.trans (h3.mono (by omega))⟩
  have hr1 : Below w1.heap.size w1 w1 := Below.refl _ _
  have HXX := Lib.hid hXX
  have HST := Lib.hid hst
  have HEN := Lib.hid hen
  have HR := Lib.hid hr1
  have K1 := Lib.hid (fun W (h : Below w1.heap.size w1 W) => (nilHead W).mono (R' := fun e W' => e = .returned (.tuple #[.agg #[.int .i64 0, .int .i64 0], .bool false]) ∧ Hid (Below w1.heap.size w1 (W'.alloc (itO 0 0)))) fun e W' hr => ⟨hr.e, Lib.hid (hst _ _ _ _ h hr _)⟩)
  have K2 := Lib.hid (fun W (h : Below w1.heap.size w1 W) => (nilPop W).mono (R' := fun e W' => e = .returned (.tuple #[.agg #[.int .i64 0, .int .i64 0], .bool false]) ∧ Hid (Below w1.heap.size w1 (W'.alloc (itO 0 0)))) fun e W' hr => ⟨hr.e, Lib.hid (hst _ _ _ _ h hr _)⟩)
  have K3 := Lib.hid (fun W (h : Below w1.heap.size w1 W) => (nilDrop id W).mono (R' := fun e W' => e = .returned (.tuple #[.agg #[.int .i64 0, .int .i64 0], .bool false]) ∧ Hid (Below w1.heap.size w1 (W'.alloc (itO 0 0)))) fun e W' hr => ⟨hr.e, Lib.hid (hst _ _ _ _ h hr _)⟩)
  have K4 := Lib.hid (fun W (h : Below w1.heap.size w1 W) => (nilPush id co W).mono (R' := fun e W' => e = .returned (.int .i64 19) ∧ Hid (Below w1.heap.size w1 W')) fun e W' hr => ⟨hr.e, Lib.hid (hen _ _ _ _ h hr).1⟩)
  have K5 := Lib.hid (fun W => nilHas id W)
  have K6 := Lib.hid (fun W => nilLen W)
  have K7 := Lib.hid (fun W => nilCost W)
  have K8 := Lib.hid (fun W => nilAll W)
  have KN := Lib.hid (fun e W => numC e W)
  have KL := Lib.hid (fun W (h : Below w1.heap.size w1 W) => (liveOk W).mono (R' := fun e W' => e = .returned (.bool true) ∧ Hid (Below w.heap.size w W')) fun e W' hr => ⟨hr.e, Lib.hid (hen _ _ _ _ h hr).2⟩)
  have HW1 := Lib.hid hw1
  clear hX hz1 hb1 hXX hst hen hi hc hw1 HST HEN hr1
  go_enter Try.func4, Try.ntmps4
  go_wp2_with (first | (go_at_call 14; rw [← HW1.out]; (with_reducible refine (K1.out _ HR.out).mono ?_); rintro e wA ⟨rfl, hA⟩) | (go_at_call 10; (with_reducible refine (K2.out _ hA.out).mono ?_); rintro e wB ⟨rfl, hB⟩; obtain ⟨x0, x1⟩ := HXX.out _ hB.out) | (go_at_call 11; (with_reducible refine (K3.out _ hB.out).mono ?_); rintro e wC ⟨rfl, hC⟩; obtain ⟨y0, y1⟩ := HXX.out _ hC.out) | (go_at_call 9; (with_reducible refine (K4.out _ hC.out).mono ?_); rintro e wD ⟨rfl, hD⟩; obtain ⟨z0, z1⟩ := HXX.out _ hD.out) | (go_at_call 20; (with_reducible refine (K5.out _).mono ?_); rintro e wF ⟨rfl, rfl⟩) | (go_at_call 17; (with_reducible refine (K6.out _).mono ?_); rintro e wF ⟨rfl, rfl⟩) | (go_at_call 18; (with_reducible refine (K7.out _).mono ?_); rintro e wF ⟨rfl, rfl⟩) | (go_at_call 16; (with_reducible refine (K8.out _).mono ?_); rintro e wF ⟨rfl, rfl⟩) | (go_at_call 8; (with_reducible refine (KN.out _ _).mono ?_); rintro e wF ⟨rfl, rfl⟩) | (go_at_call 5; (with_reducible refine (KL.out _ hD.out).mono ?_); rintro e wF ⟨rfl, hF⟩))
  go_ret
  exact ⟨rfl, hF.out⟩
end Go.Proofs.Ytgndjahkjchaoaa
