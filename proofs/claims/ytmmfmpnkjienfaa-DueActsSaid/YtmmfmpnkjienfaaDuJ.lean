/-
  The set's Set.
-/
import Derived.Test.YtmmfmpnkjienfaaDuI
namespace Go.Proofs.Ytmmfmpnkjienfaa
open Go.RowKit
set_option linter.unusedVariables false

/-- one call behind another -/
theorem RetW.then {Is : WS} {r r' : Value} {B D : Nat} {n n' : Int} {l l' : List Wh.E} {G G1 : Nat → Prop} {w w1 w2 : World} {e : Ending} (hs : ∀ k, G1 k → G k ∨ w.heap.size ≤ k) (hc : Chg G w w1) (h : RetW Is r' B D n' l' G1 w1 e w2) : RetW Is r' B D n' l' G w e w2 := by
  obtain ⟨F', g1, g2⟩ := h.s
  have hz := hc.size
  refine ⟨h.r, ⟨F', g1, fun k hk => ?_⟩, hc.trans h.c hs⟩
  rcases g2 k hk with e | e
  · exact hs k e
  · exact Or.inr (by omega)
set_option maxRecDepth 100000 in
theorem setBad (k i t : Int) (w : World) (B D : Nat) (now : Int) (l : List Wh.E) (G : Nat → Prop) (hm : ¬ Wh.May k i) (h : DIs w B D now l G) :
    Calls Try.prog 15 #[.pointer (some ⟨D, 0, none⟩), .int .i64 k, .int .i64 i, .int .u64 t] w (RetW DIs (.int .i64 1) B D now l G w) := by
  have KK := Lib.hid (fun W => keyNo k i W hm)
  have H := Lib.hid h
  clear h hm
  go_enter Try.func15, Try.ntmps15
  go_wp2_with (go_at_call 26; (with_reducible refine (KK.out _).mono ?_); rintro e w1 ⟨rfl, rfl⟩)
  go_ret
  exact DIs.asks rfl H.out (Below.refl _ _)
/-- behind Put -/
theorem DQ.putIn {w0 w w' : World} {G : Nat → Prop} {B D : Nat} {now : Int} {l r : List Wh.E} {P : Nat} {F : Nat → Prop} {a : Option Addr} {cap : Nat} {e : Ending} {v : Value} {k i t : Int} (hm : Wh.May k i) (ht : 0 ≤ t ∧ t < 18446744073709551616) (hf : Wh.find l (Wh.key k i) = none) (h : DQ w0 G B D now l r P F a cap w) (hw : RetW WIs v B P now (l ++ [(Wh.key k i, t)]) F w e w') :
    ∃ F', DQ w0 G B D now (l ++ [(Wh.key k i, t)]) r P F' a cap w' := by
  obtain ⟨F', g1, g2⟩ := hw.s
  refine ⟨F', h.wheel g1 g2 hw.c ?_ (h.at_.good.snoc hm ht)⟩
  rw [List.map_append, List.nodup_append]
  refine ⟨h.at_.nd, by simp, fun x hx y hy => ?_⟩
  simp at hy
  obtain ⟨e, he, rfl⟩ := List.mem_map.1 hx
  rw [hy]
  exact Wh.find_none.1 hf e he
/-- Put of a new key -/
theorem putNew {k i t : Int} (hm : Wh.May k i) (ht : (Lit.int .u64 t).wf = true) {w : World} {B P : Nat} {now : Int} {l : List Wh.E} {F : Nat → Prop} (hl : l.length ≤ 1000) (hf : Wh.find l (Wh.key k i) = none) (h : WIs w B P now l F) :
    Calls Try.prog 34 #[.pointer (some ⟨P, 0, none⟩), .int .i64 (Wh.key k i), .int .u64 t] w (RetW WIs (.int .i64 0) B P now (l ++ [(Wh.key k i, t)]) F w) := by
  have h0 : Wh.putErr l (Wh.key k i) = 0 := by
    have := Wh.key_good hm
    unfold Wh.putErr
    rw [if_neg (by omega), if_neg (by unfold Wh.has; rw [hf]; simp)]
  have h1 : Wh.putL l (Wh.key k i) t = l ++ [(Wh.key k i, t)] := by unfold Wh.putL; rw [if_pos h0]
  have := putC (Wh.key k i) t w B P now l F (key_wf hm) ht hl h
  rw [h0, h1] at this
  exact this
set_option maxRecDepth 100000 in
set_option maxHeartbeats 2000000 in
theorem setFar (k i t : Int) (w : World) (B D : Nat) (now : Int) (l : List Wh.E) (G : Nat → Prop) (hl : l.length ≤ 900) (hm : Wh.May k i) (ht : (Lit.int .u64 t).wf = true) (hf : now < t) (h : DIs w B D now l G) :
    Calls Try.prog 15 #[.pointer (some ⟨D, 0, none⟩), .int .i64 k, .int .i64 i, .int .u64 t] w (RetW DIs (.int .i64 0) B D now (Wh.setL l (Wh.key k i) t) G w) := by
  have KK := Lib.hid (fun W => keyYes k i W hm)
  have kc := clearC k i w B D now l G (by omega) h
  have e1 : clearL l k i = Wh.without l (Wh.key k i) := by unfold clearL; rw [if_pos hm]
  rw [e1] at kc
  have hcl : ∀ e w1, RetW DIs (.bool (atR2 l k i).isSome) B D now (Wh.without l (Wh.key k i)) G w e w1 → ∃ P F, w1.cell? ⟨D, 0, none⟩ = some (.pointer (some ⟨P, 0, none⟩)) ∧
      Calls Try.prog 14 #[.pointer (some ⟨D, 0, none⟩)] w1 (Same (.int .u64 now) w1) ∧
      Calls Try.prog 34 #[.pointer (some ⟨P, 0, none⟩), .int .i64 (Wh.key k i), .int .u64 t] w1 (RetW WIs (.int .i64 0) B P now (Wh.setL l (Wh.key k i) t) F w1) ∧
      ∀ e2 w2, RetW WIs (.int .i64 0) B P now (Wh.setL l (Wh.key k i) t) F w1 e2 w2 → RetW DIs (.int .i64 0) B D now (Wh.setL l (Wh.key k i) t) G w e2 w2 := by
    intro e w1 hr
    obtain ⟨G1, ⟨P, F, a, cap, hd, rfl⟩, hs⟩ := hr.s
    have hfn := Wh.find_without_same l (Wh.key k i)
    have hlen : (Wh.without l (Wh.key k i)).length ≤ 1000 := Nat.le_trans (List.length_filter_le _ _) (by omega)
    refine ⟨P, F, hd.ptr, dNowC w1 B D now _ _ P F a cap hd, putNew hm ht hlen hfn hd.wh, fun e2 w2 hw => ?_⟩
    obtain ⟨F', h2⟩ := hd.start.putIn hm (wf_u64 ht) hfn hw
    rw [← Wh.turned_put_later (k := Wh.key k i) hf] at h2
    exact RetW.then (r := .bool true) (n := now) (l := l) hs hr.c (h2.ret hw.r)
  have KC := Lib.hid kc
  have HC := Lib.hid hcl
  have t1 : decide (t ≤ now) = false := decide_eq_false (by omega)
  clear kc hcl h e1 hm hf
  generalize Wh.key k i = kk at *
  generalize (atR2 l k i).isSome = bb at *
  go_enter Try.func15, Try.ntmps15
  go_wp2_with (first | (go_at_call 26; (with_reducible refine (KK.out _).mono ?_); rintro e w1 ⟨rfl, rfl⟩) | (go_at_call 20; (with_reducible refine KC.out.mono ?_); intro e w1 hr; obtain rfl := hr.r; obtain ⟨P, F, c0, kn, kp, kf⟩ := HC.out _ _ hr; have KN := Lib.hid kn; have KP := Lib.hid kp; have KF := Lib.hid kf; clear kn kp kf hr) | (go_at_call 14; (with_reducible refine KN.out.mono ?_); rintro e w2 ⟨rfl, rfl⟩) | (go_at_call 34; (with_reducible refine KP.out.mono ?_); intro e w3 hw; obtain rfl := hw.r; have HW := Lib.hid (KF.out _ _ hw); clear hw))
  go_ret
  exact HW.out

/-- Insert of what is due -/
theorem DQ.insert {w0 w : World} {G : Nat → Prop} {B D : Nat} {now : Int} {l r : List Wh.E} {P : Nat} {F : Nat → Prop} {a : Option Addr} {cap p : Nat} {k t : Int} (hr : r.length ≤ 100000) (hp : p ≤ r.length) (h : DQ w0 G B D now l r P F a cap w) :
    Calls Try.prog 33 #[.slice a r.length cap, .int .i64 (p : Int), .slice (some ⟨w.heap.size, 0, none⟩) 1 1] (w.alloc (.cells #[.int .i64 0, .int .i64 k, .int .u64 t] 39)) fun e w2 => ∃ a' n' cap', e = .returned (.slice a' n' cap') ∧ w2.cell? ⟨D, 1, none⟩ = some (.slice a r.length cap) ∧ w2.frozen? ⟨D, 1, none⟩ = false ∧
      Hid (DQ w0 G B D now l (r.take p ++ (k, t) :: r.drop p) P F a' cap' (w2.setCell ⟨D, 1, none⟩ (.slice a' n' cap'))) := by
  have hb : Below w.heap.size w (w.alloc (.cells #[.int .i64 0, .int .i64 k, .int .u64 t] 39)) := (Below.refl _ _).alloc (Nat.le_refl _) _
  have h1 := h.below hb
  have hv : New1 (w.alloc (.cells #[.int .i64 0, .int .i64 k, .int .u64 t] 39)) w.heap.size (k, t) := ⟨heap_alloc_new _ _⟩
  have hbs : B ≤ (w.alloc (.cells #[.int .i64 0, .int .i64 k, .int .u64 t] 39)).heap.size := by
    have := h1.at_.lt D (Or.inl rfl); omega
  refine (insertC _ B a cap w.heap.size p r (k, t) hbs hp hr h1.at_.rd hv (fun x hx => by have := (h.at_.rd.lt x hx).2; omega)).mono ?_
  rintro e w2 hi
  obtain ⟨a', cap', rfl, h2, h3⟩ := hi.r
  have hh := h1.header hi.c
  exact ⟨a', _, cap', rfl, hh.1, hh.2, Lib.hid (h1.ready h2 h3 hi.c rfl)⟩
set_option maxRecDepth 100000 in
set_option maxHeartbeats 2000000 in
theorem setNear (k i t : Int) (w : World) (B D : Nat) (now : Int) (l : List Wh.E) (G : Nat → Prop) (hl : l.length ≤ 900) (hm : Wh.May k i) (ht : (Lit.int .u64 t).wf = true) (hf : t ≤ now) (h : DIs w B D now l G) :
    Calls Try.prog 15 #[.pointer (some ⟨D, 0, none⟩), .int .i64 k, .int .i64 i, .int .u64 t] w (RetW DIs (.int .i64 0) B D now (Wh.setL l (Wh.key k i) t) G w) := by
  have KK := Lib.hid (fun W => keyYes k i W hm)
  have kc := clearC k i w B D now l G (by omega) h
  have e1 : clearL l k i = Wh.without l (Wh.key k i) := by unfold clearL; rw [if_pos hm]
  rw [e1] at kc
  have hcl : ∀ e w1, RetW DIs (.bool (atR2 l k i).isSome) B D now (Wh.without l (Wh.key k i)) G w e w1 → ∃ P F a cap G1 R, R = Wh.turned (Wh.without l (Wh.key k i)) now ∧ R.length ≤ 1000 ∧ DQ w1 G1 B D now (Wh.without l (Wh.key k i)) R P F a cap w1 ∧
      Calls Try.prog 14 #[.pointer (some ⟨D, 0, none⟩)] w1 (Same (.int .u64 now) w1) ∧
      Calls Try.prog 32 #[.pointer (some ⟨D, 0, none⟩), .int .i64 (Wh.key k i), .int .u64 t] w1 (RetFind R (Wh.key k i, t) w1) ∧
      (∀ W r' a' cap', DQ w1 G1 B D now (Wh.without l (Wh.key k i)) r' P F a' cap' W → Calls Try.prog 34 #[.pointer (some ⟨P, 0, none⟩), .int .i64 (Wh.key k i), .int .u64 t] W (RetW WIs (.int .i64 0) B P now (Wh.setL l (Wh.key k i) t) F W)) ∧
      ∀ W p a' cap' e2 w2, Wh.Place R (Wh.key k i, t) p → DQ w1 G1 B D now (Wh.without l (Wh.key k i)) (R.take p ++ (Wh.key k i, t) :: R.drop p) P F a' cap' W → RetW WIs (.int .i64 0) B P now (Wh.setL l (Wh.key k i) t) F W e2 w2 → RetW DIs (.int .i64 0) B D now (Wh.setL l (Wh.key k i) t) G w e2 w2 := by
    intro e w1 hr
    obtain ⟨G1, ⟨P, F, a, cap, hd, rfl⟩, hs⟩ := hr.s
    have hfn := Wh.find_without_same l (Wh.key k i)
    have hlen : (Wh.without l (Wh.key k i)).length ≤ 1000 := Nat.le_trans (List.length_filter_le _ _) (by omega)
    have hrl : (Wh.turned (Wh.without l (Wh.key k i)) now).length ≤ 1000 := Nat.le_trans (Wh.turned_length _ _) hlen
    refine ⟨P, F, a, cap, _, _, rfl, hrl, hd.start, dNowC w1 B D now _ _ P F a cap hd, dFindC _ t w1 B D now _ _ P F a cap hd (by omega) (Wh.turned_sorted (Wh.nodup_of hd.nd) now), fun W r' a' cap' hq => putNew hm ht hlen hfn hq.at_.wh, fun W p a' cap' e2 w2 hp hq hw => ?_⟩
    obtain ⟨F', h2⟩ := hq.putIn hm (wf_u64 ht) hfn hw
    rw [Wh.turned_put hd.nd hfn hf hp] at h2
    exact RetW.then (r := .bool true) (n := now) (l := l) hs hr.c (h2.ret hw.r)
  have KC := Lib.hid kc
  have HC := Lib.hid hcl
  have t1 : decide (t ≤ now) = true := decide_eq_true hf
  clear kc hcl h e1 hm hf
  generalize Wh.key k i = kk at *
  generalize (atR2 l k i).isSome = bb at *
  go_enter Try.func15, Try.ntmps15
  go_wp2_with (first | (go_at_call 26; (with_reducible refine (KK.out _).mono ?_); rintro e w1 ⟨rfl, rfl⟩) | (go_at_call 20; (with_reducible refine KC.out.mono ?_); intro e w1 hr; obtain rfl := hr.r; obtain ⟨P, F, a, cap, G1, R, hR, hRl, hq, kn, kfi, kp, kf⟩ := HC.out _ _ hr; have KN := Lib.hid kn; have KP := Lib.hid kp; have KF := Lib.hid kf; have KFI := Lib.hid kfi; have HQ := Lib.hid hq; clear kn kp kf kfi hr hq hR) | (go_at_call 14; (with_reducible refine KN.out.mono ?_); rintro e w2 ⟨rfl, rfl⟩) | (go_at_call 32; (with_reducible refine KFI.out.mono ?_); rintro e w3 ⟨⟨p, b, rfl, hp, hb⟩, hbw⟩; have hQ3 := HQ.out.below hbw; have c1 := hQ3.at_.sl; have HPL := Lib.hid hp; have HINS := Lib.hid (DQ.insert (k := kk) (t := t) (by omega) hp.le hQ3); clear hp hb hbw hQ3) | (go_at_call 33; (with_reducible refine HINS.out.mono ?_); rintro e w4 ⟨a4, n4, cap4, rfl, c4, f4, hQ4⟩; have c0 := hQ4.out.at_.ptr; have HPT := Lib.hid (KP.out _ _ _ _ hQ4.out)) | (go_at_call 34; (with_reducible refine HPT.out.mono ?_); intro e w5 hw; obtain rfl := hw.r; have HW := Lib.hid (KF.out _ _ _ _ _ _ HPL.out hQ4.out hw); clear hw))
  go_ret
  exact HW.out
end Go.Proofs.Ytmmfmpnkjienfaa
