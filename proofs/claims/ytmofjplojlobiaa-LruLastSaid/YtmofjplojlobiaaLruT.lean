/-
  The document's table behind its pointer: Put, Get.
-/
import Derived.Test.YtmofjplojlobiaaLruS
import Derived.Deep.Cut
namespace Go.Proofs.Ytmofjplojlobiaa
open Go.RowKit
set_option linter.unusedVariables false

theorem stored_all {w W w2 : World} {B R : Nat} {room : Int} {v u v2 : Value} {M : List Lr.E} (hc : w2.heap[R]? = some (.cells #[.int .i64 room, u] 29 (0, 0))) (hr : eltT.Row w2 w.heap.size v2 M) (hB : B ≤ R) (hBw : B ≤ w.heap.size) (hC : Chg (RefH R v) w W) (hb : Below w.heap.size W w2) :
    RefT (w2.setCell ⟨R, 1, none⟩ v2) B R room v2 M ∧ (∀ k, v2.ownBlock = some k → v.ownBlock = some k ∨ w.heap.size ≤ k) ∧ Chg (RefH R v) w (w2.setCell ⟨R, 1, none⟩ v2) :=
  ⟨reft_stored hc (hr.base hBw) hB, fun k hk => Or.inr (hr.lt k hk).1, (hC.trans (G := fun k => w.heap.size ≤ k) ⟨hb.os, hb.tape, hb.output, hb.size, fun k hk hf => hb.block k (by omega)⟩ (fun k hk => Or.inr hk)).setCell (Or.inl (Or.inl rfl)) _⟩
set_option maxRecDepth 100000 in
set_option maxHeartbeats 4000000 in
theorem refPutC (key : ByteArray) (x room : Int) (B R : Nat) (v : Value) (l : List Lr.E) (w : World) (h : RefT w B R room v l) (hl : l.length ≤ 1000) (hg : Lr.Good l) :
    Calls Try.prog 18 #[.pointer (some ⟨R, 0, none⟩), .string key, .int .i64 x] w (RetRT (goneV (Lr.put room l key x).2) B R room v (Lr.put room l key x).1 w) := by
  have hR := lt_block h.cell
  have hBR := h.base
  have hBw : B ≤ w.heap.size := by omega
  have hlw := Lr.length_without l key
  have K := Lib.hid ((refDropC key room B R v l w h (by omega) hg).mono (R' := fun e wA => ∃ a1 cap1, e = .returned (.bool (Lr.has l key)) ∧ wA.cell? ⟨R, 1, none⟩ = some (.slice a1 (Lr.without l key).length cap1) ∧ Hid (RefT wA B R room (.slice a1 (Lr.without l key).length cap1) (Lr.without l key)) ∧ Hid (eltT.Flat wA a1 (Lr.without l key) ∧ (a1 = none → cap1 = 0)) ∧ Hid (∀ k, (Value.slice a1 (Lr.without l key).length cap1).ownBlock = some k → v.ownBlock = some k ∨ w.heap.size ≤ k) ∧ Hid (Chg (RefH R v) w wA)) fun e wA hr => by
    obtain ⟨v1, g1, g2⟩ := hr.s
    obtain ⟨a1, cap1, rfl, hf, h0⟩ := g1.row.flat0
    exact ⟨a1, cap1, hr.r, g1.c1, Lib.hid g1, Lib.hid ⟨hf, h0⟩, Lib.hid g2, Lib.hid hr.c⟩)
  have hfr : Lr.front l key x = [(key, x)] ++ Lr.without l key := rfl
  have hGF := Lib.hid (hg.front key x)
  unfold Lr.put
  rw [hfr] at *
  clear h hg hfr
  generalize Lr.without l key = T at *
  generalize Lr.has l key = hb0 at *
  go_enter Try.func18, Try.ntmps18
  go_upto_region 3 with (first | (go_at_call 21; (with_reducible refine K.out.mono ?_); rintro e wA ⟨a1, cap1, rfl, c1, hA, hF, hO, hC⟩; have hzA := hC.out.size; have hrow1 := Lib.hid (Elt.Row.made (E := eltT) wA w.heap.size hzA [(key, x)] (by simp) #[.string key, .int .i64 x] 1 rfl rfl); have hb1 := Lib.hid ((Below.refl wA.heap.size wA).alloc (Nat.le_refl _) (.cells #[.string key, .int .i64 x] 58)); have c1' : (wA.alloc (.cells #[.string key, .int .i64 x] 58)).cell? ⟨R, 1, none⟩ = some (.slice a1 T.length cap1) := (hb1.out.cell (p := ⟨R, 1, none⟩) (by show R < wA.heap.size; omega)).trans c1) | (at_builtin; (refine eltT.wpAppS _ rfl _ _ rfl w.heap.size (.slice (some ⟨wA.heap.size, 0, none⟩) 1 1) [(key, x)] rfl hrow1.out (by simp) a1 T cap1 rfl hF.out.2 (hF.out.1.below hb1.out).view (by simp; omega) (by simp; omega) ?_); intro v2 w2 hne2 hrow2 hb2 hkeep2 hlies2; obtain ⟨a2, cap2, rfl⟩ := hrow2.slice; have hcR := (hb2.block R hR).trans ((hb1.out.block R (by show R < wA.heap.size; omega)).trans hA.out.cell); have cR : w2.cell? ⟨R, 1, none⟩ = some (.slice a1 T.length cap1) := (by rw [cell_of_row w2 R _ _ _ _ hcR]; rfl); have fR := frozen_of w2 R 1 _ _ hcR; have HS := Lib.hid (stored_all hcR hrow2 hBR (by omega) (hC.out.then hb1.out) hb2); clear hcR hrow2 hb2 hkeep2 hlies2 hne2))
  have HS2 : Hid (RefT (w2.setCell ⟨R, 1, none⟩ (.slice a2 (T.length + 1) cap2)) B R room (.slice a2 (T.length + 1) cap2) ((key, x) :: T) ∧ (∀ k, (Value.slice a2 (T.length + 1) cap2).ownBlock = some k → v.ownBlock = some k ∨ w.heap.size ≤ k) ∧ Chg (RefH R v) w (w2.setCell ⟨R, 1, none⟩ (.slice a2 (T.length + 1) cap2))) := HS
  have HG2 : Hid (Lr.Good ((key, x) :: T)) := hGF
  have hml : ((key, x) :: T).length = T.length + 1 := rfl
  have hne : (key, x) :: T ≠ [] := by simp
  rw [← hml] at HS2 ⊢
  clear HS hGF hF hO hC hA hrow1 hb1 c1 c1' cR fR K
  generalize (key, x) :: T = M at *
  generalize hw3 : w2.setCell ⟨R, 1, none⟩ (.slice a2 M.length cap2) = w3 at *
  have hM1 : M.length ≤ 1000000 := by omega
  clear hml hw3 hlw
  have c0 := HS2.out.1.c0
  have c1 := HS2.out.1.c1
  have HFL : Hid (eltT.Flat w3 a2 M) := Lib.hid (by
    obtain ⟨a', c', e, hf⟩ := HS2.out.1.row.flat
    cases e
    exact hf)
  have HDN := Lib.hid (fun q => (show RefT (w3.drewN q) B R room (.slice a2 M.length cap2) M ∧ Chg (RefH R v) w (w3.drewN q) from ⟨HS2.out.1.keep (fun _ _ => rfl), HS2.out.2.2.drewN q⟩))
  by_cases hfit : (M.length : Int) ≤ room
  · have HF := Lib.hid (Lr.fit_in hfit)
    have hd : decide ((M.length : Int) ≤ room) = true := decide_eq_true hfit
    clear hne hfit
    go_quiet (fail)
    go_wp2
    go_ret2
    exact ⟨by rw [HF.out]; rfl, ⟨_, by rw [HF.out]; exact (HDN.out _).1, HS2.out.2.1⟩, (HDN.out _).2⟩
  · have hd : decide ((M.length : Int) ≤ room) = false := decide_eq_false hfit
    obtain ⟨T2, z, rfl⟩ := Lr.last_of hne
    have HF := Lib.hid (Lr.fit_out hfit)
    clear hne hfit
    obtain ⟨g, rfl, hgl, hc⟩ := things_at HFL.out (by simp)
    have hz := (hc T2.length (by simp)).1
    have hz2 : (T2 ++ [z])[T2.length]'(by simp) = z := by simp
    rw [hz2] at hz
    have hmi : (((T2 ++ [z]).length : Nat) : Int) - 1 = (T2.length : Int) := by simp
    have hlt : (T2.length : Int) < (((T2 ++ [z]).length : Nat) : Int) := by simp; omega
    have KD := Lib.hid (fun W (h : RefT W B R room (.slice (some ⟨g, 0, none⟩) (T2 ++ [z]).length cap2) (T2 ++ [z])) => (refDropC z.1 room B R _ _ W h hM1 HG2.out).mono (R' := fun e w' => e = .returned (.bool (Lr.has (T2 ++ [z]) z.1)) ∧ Hid (RetRT (.bool (Lr.has (T2 ++ [z]) z.1)) B R room (.slice (some ⟨g, 0, none⟩) (T2 ++ [z]).length cap2) T2 W e w')) fun e w' hr => ⟨hr.r, Lib.hid (by rw [Lr.without_last HG2.out] at hr; exact hr)⟩)
    have hwr : IntKind.i64.wrap (T2.length : Int) = (T2.length : Int) := by rw [IntKind.wrap_i64]; simp at hM1; omega
    generalize Lr.has (T2 ++ [z]) z.1 = hb2 at *
    clear hc hz2 HFL hM1
    generalize (T2 ++ [z]).length = N at *
    go_quiet (fail)
    go_wp2
    go_quiet (fail)
    go_wp2_with (go_at_call 21; (with_reducible refine (KD.out _ (HDN.out _).1).mono ?_); rintro e wB ⟨rfl, hD⟩)
    go_ret2
    have hfin := hD.out.then HS2.out.2.1 (HDN.out _).2
    exact ⟨by rw [HF.out]; rfl, by rw [HF.out]; exact hfin.s, hfin.c⟩
set_option maxRecDepth 100000 in
theorem refGetC (key : ByteArray) (room : Int) (B R : Nat) (v : Value) (l : List Lr.E) (w : World) (h : RefT w B R room v l) (hl : l.length ≤ 1000) (hg : Lr.Good l) (hr : (l.length : Int) ≤ room) :
    Calls Try.prog 19 #[.pointer (some ⟨R, 0, none⟩), .string key] w (RetRT (gotV (Lr.find l key)) B R room v (Lr.get l key) w) := by
  obtain ⟨a, cap, rfl, hv⟩ := h.row.flat
  have c0 := h.c0
  have c1 := h.c1
  have kp := refPeekC room key a cap l w (by omega) hg hv
  have HB := Lib.hid (fun wA (hb : Below w.heap.size w wA) => (show RefT wA B R room (.slice a l.length cap) l from h.below hb))
  cases hf : Lr.find l key with
  | none =>
    rw [hf] at kp
    rw [Lr.get_none hf]
    have K := Lib.hid kp
    clear kp h hv hf hg
    unfold gotV at *
    go_enter Try.func19, Try.ntmps19
    go_wp2_with (go_at_call 20; (with_reducible refine K.out.mono ?_); rintro e wA ⟨rfl, hbA⟩; have HA := Lib.hid hbA; clear hbA)
    go_ret2
    exact ⟨rfl, ⟨_, HB.out _ HA.out, fun k e => Or.inl e⟩, Chg.of_below HA.out⟩
  | some u =>
    rw [hf] at kp
    rw [Lr.get_some hf]
    have hput := Lr.put_there (v := u) hg hr hf
    have K := Lib.hid kp
    have K2 := Lib.hid (fun W (h : RefT W B R room (.slice a l.length cap) l) => by
      have := refPutC key u room B R _ l W h hl hg
      rw [hput] at this
      exact this)
    clear kp h hv hf hg hput
    unfold gotV at *
    unfold goneV at K2
    go_enter Try.func19, Try.ntmps19
    go_wp2_with (first | (go_at_call 20; (with_reducible refine K.out.mono ?_); rintro e wA ⟨rfl, hbA⟩; have HA := Lib.hid hbA; clear hbA) | (go_at_call 18; (with_reducible refine (K2.out _ (HB.out _ HA.out)).mono ?_); rintro e wB hr2; obtain ⟨rfl, hs2, hc2⟩ := hr2; have HS2 := Lib.hid hs2; have HC2 := Lib.hid hc2; clear hs2 hc2))
    go_ret2
    refine ⟨rfl, ?_, (Chg.of_below (F := RefH R (.slice a l.length cap)) HA.out).trans HC2.out (fun k hk => Or.inl hk)⟩
    obtain ⟨v', g1, g2⟩ := HS2.out
    refine ⟨v', g1, fun k e => ?_⟩
    rcases g2 k e with h | h
    · exact Or.inl h
    · have := HA.out.size; right; omega
end Go.Proofs.Ytmofjplojlobiaa
