/-
  The document's history: Hist, Class.
-/
import Derived.Test.YtmdpfinadffcaaaHyG
namespace Hy
open Lr
theorem find_first {k : ByteArray} : ∀ {R : List E} {j : Nat} (h : j < R.length), (∀ p (hp : p < R.length), p < j → R[p].1 ≠ k) → R[j].1 = k → find R k = some R[j].2
  | e :: r, 0, _, _, he => by
    unfold find
    rw [if_pos (show e.1 = k from he)]
    rfl
  | e :: r, j + 1, h, hn, he => by
    have h0 := hn 0 (by simp) (by omega)
    unfold find
    rw [if_neg (show ¬ e.1 = k from h0)]
    exact find_first (R := r) (j := j) (by simpa using h) (fun p hp hpj => hn (p + 1) (by simpa using hp) (by omega)) he
theorem valOf_first {k : ByteArray} {R : List E} {j : Nat} (h : j < R.length) (hn : ∀ p (hp : p < R.length), p < j → R[p].1 ≠ k) (he : R[j].1 = k) : valOf R k = R[j].2 := by
  unfold valOf
  rw [find_first h hn he]
  rfl
theorem valOf_none {k : ByteArray} {R : List E} (hn : ∀ p (hp : p < R.length), p < R.length → R[p].1 ≠ k) : valOf R k = zero := by
  unfold valOf
  rw [find_none.2 (fun e he => by
    obtain ⟨p, hp, rfl⟩ := List.getElem_of_mem he
    exact hn p hp hp)]
  rfl
end Hy
namespace Go.Proofs.Ytmdpfinadffcaaa
open Go.RowKit
set_option linter.unusedVariables false

theorem toListS (s : ByteArray) : s.toList = bl s := ByteArray.toList_eq s
theorem eq_yesS (s : ByteArray) : (s.toList == s.toList) = true := by simp
theorem eq_noS {s t : ByteArray} (h : s ≠ t) : (s.toList == t.toList) = false := by
  rw [toListS, toListS, beq_eq_false_iff_ne]
  exact fun e => h (bl_injS e)
abbrev tO (room : Int) (v : Value) : Obj := .cells #[.int .i64 room, v] 31
/-- the histogram of a row's cells -/
theorem row_hist {w : World} {g off : Nat} {k : ByteArray} {v : Lr.V} (h : ∀ i u, (entC k v)[i]? = some u → w.cell? ⟨g, off + i, none⟩ = some u) : w.rangeAt g (off + 1) (Hi.cells v.1).toList := range_hist h
theorem row_key {w : World} {g off : Nat} {k : ByteArray} {v : Lr.V} (h : ∀ i u, (entC k v)[i]? = some u → w.cell? ⟨g, off + i, none⟩ = some u) : w.cell? ⟨g, off, none⟩ = some (.string k) := h 0 _ (entC_key k v)

set_option maxRecDepth 100000 in
set_option maxHeartbeats 4000000 in
theorem refHistC (room : Int) (key : ByteArray) (a : Option Addr) (cap : Nat) (R : List Lr.E) (w : World) (hl : R.length ≤ 1000000) (h : RowsAt w a R) :
    Calls Try.prog 20 #[.agg #[.int .i64 room, .slice a R.length cap], .string key] w (Ret (.agg (Hi.cells (Hy.valOf R key).1)) w) := by
  have hb1 : Below w.heap.size w ((w.alloc (tO room (.slice a R.length cap))).alloc zb) := ((Below.refl _ _).alloc (Nat.le_refl _) _).alloc (by simp) _
  have HV := Lib.hid (h.below hb1)
  have hx := zeros_new (w.alloc (tO room (.slice a R.length cap)))
  rw [alloc_size] at hx
  have BX := Lib.hid hx
  have HB := Lib.hid hb1
  clear h hb1 hx
  go_enter Try.func20, Try.ntmps20
  go_wp2
  go_loop [5] (fun s => ∃ j : Nat, j ≤ R.length ∧ s = .int .i64 (j : Int) ∧ Hid (∀ p (hp : p < R.length), p < j → R[p].1 ≠ key)) (fun s => R.length - (intOf s).toNat)
  case atStart => exact ⟨0, Nat.zero_le _, rfl, Lib.hid (fun p hp h => by omega)⟩
  case round =>
    obtain ⟨j, hj, rfl, hn⟩ := hrel
    by_cases hlt : j < R.length
    · obtain ⟨g, off, rfl, hg, hc⟩ := HV.out.cell hlt
      have d0 := row_key hc
      have HR := Lib.hid (row_hist hc)
      have hnx : R[j].1 ≠ key → ∀ p (h : p < R.length), p < j + 1 → R[p].1 ≠ key := fun hne p h h2 => by
        by_cases e : p = j
        · subst e; exact hne
        · exact hn.out p h (by omega)
      have HVAL : Hid (R[j].1 = key → Hy.valOf R key = R[j].2) := Lib.hid (fun e => Hy.valOf_first hlt hn.out e)
      have HN := Lib.hid hnx
      clear hc hnx hn
      generalize R[j].1 = x at *
      generalize R[j].2 = v at *
      by_cases e1 : x = key
      · have t1 := eq_yesS key
        have HVL := Lib.hid (HVAL.out e1)
        subst e1
        clear HN HVAL
        go_wp2_with (first | (refine loadM HR.out _ rfl rfl rfl ?_) | (refine storeB BX.out (l := v.1) v.2 rfl _ _ rfl rfl rfl ?_))
        (try simp only [Exit.inBlock, Exit.then])
        rw [HVL.out]
        refine bodyPost_ret (v := .agg (Hi.cells v.1)) ?_ rfl ⟨rfl, below_row HB.out (by omega) _⟩
        exact results_cell_row rfl _ _ _ _ _ _ _ rfl (BX.out.row (m := v.1) v.2).h Try.underlying49 rfl (by rw [infoH, Hi.cells_size, v.2])
      · have t1 := eq_noS e1
        have H := Lib.hid (HN.out e1)
        clear e1 HN HVAL HR
        go_wp2
        go_round
        case rel => exact ⟨j + 1, by omega, by go_num, H⟩
        case measure => simp [intOf]; omega
    · obtain rfl : j = R.length := by omega
      have HVL := Lib.hid (Hy.valOf_none hn.out)
      clear hn
      go_wp2_with (refine storeB BX.out (l := Hi.zeros) rfl rfl _ _ rfl rfl rfl ?_)
      (try simp only [Exit.inBlock, Exit.then])
      rw [HVL.out]
      refine bodyPost_ret (v := .agg (Hi.cells Hi.zeros)) ?_ rfl ⟨rfl, below_row HB.out (by omega) _⟩
      exact results_cell_row rfl _ _ _ _ _ _ _ rfl (BX.out.row (m := Hi.zeros) rfl).h Try.underlying49 rfl infoH

set_option maxRecDepth 100000 in
set_option maxHeartbeats 4000000 in
theorem refClassC (room : Int) (key : ByteArray) (ra : Option Addr) (rc : Nat) (R : List Lr.E) (a : Option Addr) (n cap : Nat) (p : Int) (L : Nat → Int) (x : Int) (ok : Bool) (c : Nat) (w : World) (hl : R.length ≤ 1000000) (h : RowsAt w ra R) (hL : LimW w a n L) (hn : n ≤ 1000000) (ht : Hy.Told (Hy.valOf R key).1 p L n x ok c) :
    Calls Try.prog 22 #[.agg #[.int .i64 room, .slice ra R.length rc], .string key, .slice a n cap, .int .i64 p] w (Ret (.int .i64 (c : Int)) w) := by
  have hb1 : Below w.heap.size w (w.alloc (tO room (.slice ra R.length rc))) := (Below.refl _ _).alloc (Nat.le_refl _) _
  have K := Lib.hid (refHistC room key ra rc R _ hl (h.below hb1))
  have K2 := Lib.hid (fun W => refOfC (Hy.valOf R key) p L n x ok c ht W)
  have HB := Lib.hid hb1
  have HLM := Lib.hid hL
  have hx := ht.range
  have HT : Hid ((ok = false ∧ c = 0) ∨ (ok = true ∧ Hy.IsCls x L n c)) := Lib.hid (by
    by_cases g : Qu.Good (Hy.valOf R key).1 p
    · obtain ⟨h1, _, h3⟩ := ht.yes g
      exact Or.inr ⟨h1, h3⟩
    · obtain ⟨_, h2, h3⟩ := ht.no g
      exact Or.inl ⟨h2, h3⟩)
  clear h hL ht hb1
  generalize Hy.valOf R key = v at *
  generalize R.length = rn at *
  obtain ⟨hx0, hx1⟩ := hx
  rcases HT.out with ⟨rfl, rfl⟩ | ⟨rfl, hc⟩
  · clear HT
    go_enter Try.func22, Try.ntmps22
    go_wp2_with (first
      | (go_at_call 20; (with_reducible refine K.out.mono ?_); rintro e wA ⟨rfl, hb⟩; have HA := Lib.hid (HB.out.trans (hb.mono HB.out.size)); clear hb)
      | (go_at_call 21; (with_reducible refine (K2.out _).mono ?_); rintro e wB ⟨rfl, hb⟩; replace HA := Lib.hid (HA.out.trans (hb.mono HA.out.size)); clear hb))
    go_ret
    exact ⟨rfl, HA.out⟩
  · have HC := Lib.hid hc
    have hcn := hc.le
    clear hc HT
    go_enter Try.func22, Try.ntmps22
    go_wp2_with (first
      | (go_at_call 20; (with_reducible refine K.out.mono ?_); rintro e wA ⟨rfl, hb⟩; have HA := Lib.hid (HB.out.trans (hb.mono HB.out.size)); clear hb)
      | (go_at_call 21; (with_reducible refine (K2.out _).mono ?_); rintro e wB ⟨rfl, hb⟩; replace HA := Lib.hid (HA.out.trans (hb.mono HA.out.size)); clear hb))
    go_loop [11] (fun s => ∃ j : Nat, j ≤ c ∧ s = .int .i64 (j : Int)) (fun s => c - (intOf s).toNat)
    case atStart => exact ⟨0, Nat.zero_le _, rfl⟩
    case round =>
      obtain ⟨j, hj, rfl⟩ := hrel
      by_cases hjn : j < n
      · obtain ⟨g, off, rfl, d0⟩ := (HLM.out.below HA.out).cell hjn
        obtain ⟨r0, r1⟩ := HLM.out.wf j hjn
        by_cases hlt : j < c
        · have hb := HC.out.below j hlt
          have f0 : (x == 0) = false := by simp; omega
          have hb1 : L j < x := by omega
          clear hb
          generalize L j = y at *
          by_cases hy : 0 ≤ y
          · go_wp2
            go_round
            case rel => exact ⟨j + 1, by omega, by go_num⟩
            case measure => simp [intOf]; omega
          · go_wp2
            go_round
            case rel => exact ⟨j + 1, by omega, by go_num⟩
            case measure => simp [intOf]; omega
        · obtain rfl : j = c := by omega
          have hb := HC.out.at_ hjn
          by_cases hy : 0 ≤ L j
          · have hb1 : x ≤ L j := by omega
            clear hb
            generalize L j = y at *
            go_wp2
            go_ret
            exact ⟨rfl, HA.out⟩
          · have f0 : (x == 0) = true := by simp; omega
            clear hb
            generalize L j = y at *
            go_wp2
            go_ret
            exact ⟨rfl, HA.out⟩
      · obtain rfl : j = n := by omega
        obtain rfl : j = c := by omega
        go_wp2
        go_ret
        exact ⟨rfl, HA.out⟩
end Go.Proofs.Ytmdpfinadffcaaa
