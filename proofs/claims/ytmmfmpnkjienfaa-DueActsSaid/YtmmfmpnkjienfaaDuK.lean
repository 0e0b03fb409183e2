/-
  The set's advance: what is due is turned out, is made ready, and put back.
-/
import Derived.Test.YtmmfmpnkjienfaaDuJ
namespace Wh
set_option linter.unusedVariables false
theorem fresh_take {A T : List E} (hn : ((A ++ T).map (·.1)).Nodup) {k : Nat} (hk : k < T.length) : find (A ++ T.take k) T[k].1 = none := by
  refine find_none.2 (fun x hx e => ?_)
  rw [List.map_append, List.nodup_append] at hn
  rcases List.mem_append.1 hx with hx | hx
  · exact hn.2.2 x.1 (List.mem_map.2 ⟨x, hx, rfl⟩) T[k].1 (List.mem_map.2 ⟨T[k], List.getElem_mem hk, rfl⟩) e
  · obtain ⟨i, hi, rfl⟩ := List.getElem_of_mem hx
    have hi2 : i < k := by rw [List.length_take] at hi; omega
    rw [List.getElem_take] at e
    have h2 := hn.2.1
    rw [List.Nodup, List.pairwise_iff_getElem] at h2
    have := h2 i k (by simp; omega) (by simpa using hk) hi2
    simp at this
    exact this e
theorem take_more {T : List E} {k : Nat} (hk : k < T.length) (A : List E) : A ++ T.take (k + 1) = (A ++ T.take k) ++ [T[k]] := by
  rw [List.append_assoc]
  congr 1
  rw [List.take_add_one, List.getElem?_eq_getElem hk]
  rfl
end Wh
namespace Go.Proofs.Ytmmfmpnkjienfaa
open Go.RowKit
set_option linter.unusedVariables false

/-- a slice of what is ready that is there already -/
theorem DQ.ready2 {w0 w w' : World} {G : Nat → Prop} {B D : Nat} {now : Int} {l r r' : List Wh.E} {P : Nat} {F : Nat → Prop} {a a' : Option Addr} {cap cap' : Nat} (h : DQ w0 G B D now l r P F a cap w) (hr : Rd w B a' cap' r') (hf : ∀ x, a' = some x → ¬ F x.block) (hx : ∀ x, a' = some x → G x.block ∨ w0.heap.size ≤ x.block)
    (hw' : w' = w.setCell ⟨D, 1, none⟩ (.slice a' r'.length cap')) : DQ w0 G B D now l r' P F a' cap' w' := by
  subst hw'
  have hD' := setCell_block w D 1 _ _ (.slice a' r'.length cap') h.at_.row
  have hoth : ∀ k, k ≠ D → (w.setCell ⟨D, 1, none⟩ (.slice a' r'.length cap')).heap[k]? = w.heap[k]? := fun k hk => Below.heap_setCell _ _ _ _ hk
  have haD : ∀ x, a' = some x → x.block ≠ D := fun x hx' => hr.ne x hx' h.at_.row (by decide)
  have hsz : w.heap.size ≤ (w.setCell ⟨D, 1, none⟩ (.slice a' r'.length cap')).heap.size := by simp [World.setCell]
  refine ⟨⟨hD', wheelC.keep h.at_.wh hsz (fun k hk => hoth k (fun e => h.at_.nD (e ▸ hk))), hr.keep (fun x hx' => hoth _ (haD x hx')), h.at_.bD, h.at_.nD, hf, h.at_.nd, h.at_.good⟩, fun k hk => ?_, ?_⟩
  · rcases hk with e | e | ⟨x, hx', rfl⟩
    · exact h.new k (Or.inl e)
    · exact h.new k (Or.inr (Or.inl e))
    · exact hx x hx'
  · exact h.chg.setCell (h.new D (Or.inl rfl)) _
/-- a store into a block of this call's own -/
theorem DQ.other {w0 w : World} {G : Nat → Prop} {B D : Nat} {now : Int} {l r : List Wh.E} {P : Nat} {F : Nat → Prop} {a : Option Addr} {cap Q i : Nat} (h : DQ w0 G B D now l r P F a cap w) (hQ : w0.heap.size ≤ Q) (hn : ¬ DF D F a Q) (v : Value) : DQ w0 G B D now l r P F a cap (w.setCell ⟨Q, i, none⟩ v) :=
  ⟨h.at_.keep (by simp [World.setCell]) (fun k hk => Below.heap_setCell _ _ _ _ (fun e => hn (by have e' : k = Q := e; rw [← e']; exact hk))), h.new, h.chg.setCell (Or.inr hQ) _⟩
/-- behind Put, by the key alone -/
theorem DQ.putBack {w0 w w' : World} {G : Nat → Prop} {B D : Nat} {now : Int} {l r : List Wh.E} {P : Nat} {F : Nat → Prop} {a : Option Addr} {cap : Nat} {e : Ending} {v : Value} {x : Wh.E} (hg : Wh.Good [x]) (hf : Wh.find l x.1 = none) (h : DQ w0 G B D now l r P F a cap w) (hw : RetW WIs v B P now (l ++ [x]) F w e w') :
    ∃ F', DQ w0 G B D now (l ++ [x]) r P F' a cap w' := by
  obtain ⟨F', g1, g2⟩ := hw.s
  refine ⟨F', h.wheel g1 g2 hw.c ?_ (fun y hy => ?_)⟩
  · rw [List.map_append, List.nodup_append]
    refine ⟨h.at_.nd, by simp, fun u hu y hy => ?_⟩
    simp at hy
    obtain ⟨e, he, rfl⟩ := List.mem_map.1 hu
    rw [hy]
    exact Wh.find_none.1 hf e he
  · rcases List.mem_append.1 hy with hy | hy
    · exact h.at_.good y hy
    · exact hg y hy
theorem good_wf {x : Wh.E} (hg : Wh.Good [x]) : (Lit.int .i64 x.1).wf = true ∧ (Lit.int .u64 x.2).wf = true := by
  have := hg x List.mem_cons_self
  have e1 : IntKind.i64.min = -9223372036854775808 := by decide
  have e2 : IntKind.i64.max = 9223372036854775807 := by decide
  have e3 : IntKind.u64.min = 0 := by decide
  have e4 : IntKind.u64.max = 18446744073709551615 := by decide
  simp [Lit.wf]
  omega
theorem putKey {x : Wh.E} (hg : Wh.Good [x]) {w : World} {B P : Nat} {now : Int} {l : List Wh.E} {F : Nat → Prop} (hl : l.length ≤ 1000) (hf : Wh.find l x.1 = none) (h : WIs w B P now l F) :
    Calls Try.prog 34 #[.pointer (some ⟨P, 0, none⟩), .int .i64 x.1, .int .u64 x.2] w (RetW WIs (.int .i64 0) B P now (l ++ [x]) F w) := by
  have hx := hg x List.mem_cons_self
  have h0 : Wh.putErr l x.1 = 0 := by
    unfold Wh.putErr
    rw [if_neg (by omega), if_neg (by unfold Wh.has; rw [hf]; simp)]
  have h1 : Wh.putL l x.1 x.2 = l ++ [x] := by unfold Wh.putL; rw [if_pos h0]
  have hw := good_wf hg
  have := putC x.1 x.2 w B P now l F hw.1 hw.2 hl h
  rw [h0, h1] at this
  exact this
theorem Good.one {l : List Wh.E} (h : Wh.Good l) {x : Wh.E} (hx : x ∈ l) : Wh.Good [x] := fun y hy => by
  rw [List.mem_singleton] at hy
  subst hy
  exact h y hx
/-- the set at a later tick -/
structure RetAdv (w0 : World) (G : Nat → Prop) (B D P : Nat) (m : Int) (l : List Wh.E) (e : Ending) (w' : World) : Prop where
  e : e = .returned (.tuple #[])
  s : ∃ F a cap, DQ w0 G B D m l (Wh.turned l m) P F a cap w'
set_option maxRecDepth 100000 in
set_option maxHeartbeats 2000000 in
theorem advanceC (m : Int) (w0 w : World) (G : Nat → Prop) (B D : Nat) (now : Int) (l : List Wh.E) (P : Nat) (F : Nat → Prop) (a : Option Addr) (cap : Nat) (hl : l.length ≤ 900) (hm : (Lit.int .u64 m).wf = true) (hlt : now < m) (h : DQ w0 G B D now l [] P F a cap w) :
    Calls Try.prog 35 #[.pointer (some ⟨D, 0, none⟩), .int .u64 m] w (RetAdv w0 G B D P m l) := by
  have c0 := h.at_.ptr
  have kt := turnC m w B P now l F hm h.at_.nd (by omega) h.at_.wh
  have elat : later now m = m := by unfold later; rw [if_pos hlt]
  rw [elat] at kt
  have hnl := Wh.nodup_of h.at_.nd
  have hback := Wh.back_perm l m
  have hnb : ((Wh.rest l m ++ Wh.turned l m).map (·.1)).Nodup := (hback.map _).nodup_iff.2 h.at_.nd
  have hlen : (Wh.rest l m ++ Wh.turned l m).length = l.length := hback.length_eq
  have hgood : ∀ k (hk : k < (Wh.turned l m).length), Wh.Good [(Wh.turned l m)[k]] := fun k hk => Good.one h.at_.good (Wh.turned_mem.1 (List.getElem_mem hk)).1
  have hturn : ∀ e w1, RetWT WIs (Wh.turned l m) B P m (Wh.rest l m) F w e w1 → ∃ a1 cap1, e = .returned (.slice a1 (Wh.turned l m).length cap1) ∧ w1.cell? ⟨D, 1, none⟩ = some (.slice a 0 cap) ∧ w1.frozen? ⟨D, 1, none⟩ = false ∧ ∃ F1, DQ w0 G B D m (Wh.rest l m) (Wh.turned l m) P F1 a1 cap1 (w1.setCell ⟨D, 1, none⟩ (.slice a1 (Wh.turned l m).length cap1)) := by
    intro e w1 hw
    obtain ⟨F1, a1, cap1, g1, g2, rfl, g4, g5⟩ := hw.x
    have hrest : ((Wh.rest l m).map (·.1)).Nodup := by
      rw [List.map_append, List.nodup_append] at hnb
      exact hnb.1
    have h1 := h.wheel g1 g2 hw.c hrest (h.at_.good.filter _)
    have hsl := h1.at_.sl
    have hz := h.chg.size
    have hBz : B ≤ w.heap.size := by have := h.at_.lt D (Or.inl rfl); omega
    have hrd := Rd.of_row g4
    exact ⟨a1, cap1, rfl, hsl, h1.at_.fr 1, F1, h1.ready2 (hrd.base hBz) g5 (fun x hx => Or.inr (by have := (hrd.lt x hx).1; omega)) rfl⟩
  have hput : ∀ k (hk : k < (Wh.turned l m).length) W Fk ak ck, DQ w0 G B D m (Wh.rest l m ++ (Wh.turned l m).take k) (Wh.turned l m) P Fk ak ck W →
      Calls Try.prog 34 #[.pointer (some ⟨P, 0, none⟩), .int .i64 (Wh.turned l m)[k].1, .int .u64 (Wh.turned l m)[k].2] W fun e W' => e = .returned (.int .i64 0) ∧ ∃ F', DQ w0 G B D m (Wh.rest l m ++ (Wh.turned l m).take (k + 1)) (Wh.turned l m) P F' ak ck W' := by
    intro k hk W Fk ak ck hq
    have hf := Wh.fresh_take hnb hk
    have hll : (Wh.rest l m ++ (Wh.turned l m).take k).length ≤ 1000 := by
      rw [List.length_append] at hlen ⊢
      rw [List.length_take]
      omega
    refine (putKey (hgood k hk) hll hf hq.at_.wh).mono ?_
    intro e W' hw
    obtain ⟨F', h2⟩ := hq.putBack (hgood k hk) hf hw
    rw [Wh.take_more hk]
    exact ⟨hw.r, F', h2⟩
  have hend : ∀ W Fk ak ck, DQ w0 G B D m (Wh.rest l m ++ (Wh.turned l m).take (Wh.turned l m).length) (Wh.turned l m) P Fk ak ck W → DQ w0 G B D m l (Wh.turned l m) P Fk ak ck W := fun W Fk ak ck hq => by
    rw [List.take_length] at hq
    exact hq.perm hback
  have KT := Lib.hid kt
  have HT := Lib.hid hturn
  have HP := Lib.hid hput
  have HE := Lib.hid hend
  have hTl : (Wh.turned l m).length ≤ 900 := Nat.le_trans (Wh.turned_length l m) hl
  have hst : ∀ W F1 a1 c1, DQ w0 G B D m (Wh.rest l m) (Wh.turned l m) P F1 a1 c1 W → DQ w0 G B D m (Wh.rest l m ++ (Wh.turned l m).take 0) (Wh.turned l m) P F1 a1 c1 W := fun W F1 a1 c1 hq => by
    rw [List.take_zero, List.append_nil]; exact hq
  have HST := Lib.hid hst
  clear kt elat hnl hback hnb hlen hgood hturn hput hend hst h
  generalize hTT : Wh.turned l m = T at *
  generalize hRR : Wh.rest l m = R at *
  have HTT := Lib.hid hTT
  clear hTT hRR
  go_enter Try.func35, Try.ntmps35
  go_wp2_with (go_at_call 37; (with_reducible refine KT.out.mono ?_); intro e w1 hw; obtain ⟨a1, cap1, rfl, c1, f1, F1, hq1⟩ := HT.out _ _ hw; clear hw; have c1' := hq1.at_.sl; have HQ1 := Lib.hid hq1; clear hq1)
  go_loopw [20] (fun i wr => ∃ (k : Nat) (Fk : Nat → Prop), k ≤ T.length ∧ i = .int .i64 (k : Int) ∧ Hid (DQ w0 G B D m (R ++ T.take k) T P Fk a1 cap1 wr)) (fun i _ => T.length - (intOf i).toNat)
  case atStart => exact ⟨0, F1, Nat.zero_le _, rfl, Lib.hid (HST.out _ _ _ _ HQ1.out)⟩
  case round =>
    obtain ⟨k, Fk, hk, rfl, hq⟩ := hrel
    clear HQ1 c1' c1 f1 c0
    by_cases hkl : k < T.length
    · obtain ⟨g, off, cur, rfl, hB, hg, hs, hc⟩ := hq.out.at_.rd.got (by omega)
      obtain ⟨d0, d1, d2⟩ := rd_cells hg hc k hkl
      have hDw := (hq.out.at_.lt D (Or.inl rfl)).2
      have hbx : Below wr.heap.size wr (wr.alloc (.cells #[.int .i64 0, .int .i64 T[k].1, .int .u64 T[k].2] 39)).drew := ((Below.refl _ _).alloc (Nat.le_refl _) _).drew
      have hq2 := hq.out.below hbx
      have c0 := hq2.at_.ptr
      have e1 : (wr.alloc (.cells #[.int .i64 0, .int .i64 T[k].1, .int .u64 T[k].2] 39)).drew.cell? ⟨wr.heap.size, 1, none⟩ = some (.int .i64 T[k].1) := World.cell?_alloc_at _ _ _ 1 rfl
      have e2 : (wr.alloc (.cells #[.int .i64 0, .int .i64 T[k].1, .int .u64 T[k].2] 39)).drew.cell? ⟨wr.heap.size, 2, none⟩ = some (.int .u64 T[k].2) := World.cell?_alloc_at _ _ _ 2 rfl
      have KP := Lib.hid (HP.out k hkl _ _ _ _ hq2)
      clear hq2 hc hg hs hbx
      generalize T[k].1 = y1 at *
      generalize T[k].2 = y2 at *
      go_upto_region 4 with fail
      refine wp_region_still_tail 8 (by kernel_rfl) (by kernel_rfl) ?_
      simp only [List.take_succ_cons, List.take_zero, List.drop_succ_cons, List.drop_zero]
      change wpStill _ _ (World.drew _) (fun a' => wpList _ _ _ _ a' (World.drew _)) _ _
      repeat still_step
      refine wpStill_nil ?_
      go_wp2_with (go_at_call 34; (with_reducible refine KP.out.mono ?_); rintro e wA ⟨rfl, FA, hqA⟩; have HQA := Lib.hid hqA; clear hqA)
      go_roundw
      case rel => exact ⟨k + 1, FA, by omega, by go_num, HQA⟩
      case measure => simp [intOf]; omega
    · obtain rfl : k = T.length := by omega
      go_wp2
      go_end0
      exact ⟨rfl, Fk, a1, cap1, by rw [HTT.out]; exact HE.out _ _ _ _ hq.out⟩
end Go.Proofs.Ytmmfmpnkjienfaa
