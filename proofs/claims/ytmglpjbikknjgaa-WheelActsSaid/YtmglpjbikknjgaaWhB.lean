/-
  Two lists of timers compared.
-/
import Derived.Test.YtmglpjbikknjgaaWhA
namespace Go.Proofs.Ytmglpjbikknjgaa
open Go.RowKit
set_option linter.unusedVariables false

/-- the cells that a slice of timers stands for, wherever it begins -/
structure ViewO (w : World) (a : Option Addr) (l : List Wh.E) : Prop where
  is : 0 < l.length → ∃ g off : Nat, a = some ⟨g, off, none⟩ ∧ g < w.heap.size ∧ ∀ j (h : j < l.length), w.cell? ⟨g, off + j * 3, none⟩ = some (.int .i64 0) ∧ w.cell? ⟨g, off + j * 3 + 1, none⟩ = some (.int .i64 l[j].1) ∧ w.cell? ⟨g, off + j * 3 + 2, none⟩ = some (.int .u64 l[j].2)
theorem ViewE.o {w : World} {a : Option Addr} {l : List Wh.E} (h : ViewE w a l) : ViewO w a l := ⟨fun h0 => by
  obtain ⟨g, ha, hg, hc⟩ := h.is h0
  exact ⟨g, 0, ha, hg, fun j hj => by simpa using hc j hj⟩⟩
theorem ViewO.below {w w' : World} {a : Option Addr} {l : List Wh.E} (h : ViewO w a l) (hb : Below w.heap.size w w') : ViewO w' a l := by
  refine ⟨fun h0 => ?_⟩
  obtain ⟨g, off, ha, hg, hc⟩ := h.is h0
  refine ⟨g, off, ha, Nat.lt_of_lt_of_le hg hb.size, fun j hj => ?_⟩
  rw [hb.cell (p := ⟨g, _, none⟩) hg, hb.cell (p := ⟨g, _, none⟩) hg, hb.cell (p := ⟨g, _, none⟩) hg]
  exact hc j hj

set_option maxRecDepth 100000 in
set_option maxHeartbeats 2000000 in
theorem sameListC (a b : Option Addr) (ca cb : Nat) (l m : List Wh.E) (w : World) (hl : l.length ≤ 1000000) (hm : m.length ≤ 1000000) (ha : ViewO w a l) (hb : ViewO w b m) :
    Calls Try.prog 13 #[.slice a l.length ca, .slice b m.length cb] w (Ret (.bool (decide (l = m))) w) := by
  have HA := Lib.hid ha; clear ha
  have HB := Lib.hid hb; clear hb
  by_cases hlen : l.length = m.length
  · obtain ⟨r, hR⟩ : ∃ r, r = decide (l.drop 0 = m.drop 0) := ⟨_, rfl⟩
    rw [List.drop_zero, List.drop_zero] at hR
    rw [← hR]
    have HR := Lib.hid hR; clear hR
    have hne : ((l.length : Int) != (m.length : Int)) = false := by simp [hlen]
    go_enter Try.func13, Try.ntmps13
    go_wp2
    go_loopw [5] (fun i wr => ∃ k : Nat, k ≤ l.length ∧ i = .int .i64 (k : Int) ∧ Below w.heap.size w wr ∧ Hid (r = decide (l.drop k = m.drop k))) (fun i _ => l.length - (intOf i).toNat)
    case atStart => exact ⟨0, by omega, rfl, Below.refl _ _, by simpa using HR⟩
    case round =>
      obtain ⟨k, hk, rfl, hb, hr⟩ := hrel
      replace hr := hr.out
      clear HR
      by_cases hlt : k < l.length
      · have hltm : k < m.length := by omega
        obtain ⟨g, off, rfl, hg, hc⟩ := (HA.out.below hb).is (by omega)
        obtain ⟨g2, off2, rfl, hg2, hc2⟩ := (HB.out.below hb).is (by omega)
        obtain ⟨c0, c1, c2⟩ := hc k hlt
        obtain ⟨d0, d1, d2⟩ := hc2 k hltm
        rw [List.drop_eq_getElem_cons hlt, List.drop_eq_getElem_cons hltm] at hr
        have hr' : r = (decide (l[k].1 = m[k].1) && decide (l[k].2 = m[k].2) && decide (l.drop (k + 1) = m.drop (k + 1))) := by
          rw [hr, ← Bool.decide_and, ← Bool.decide_and]
          congr 1
          simp only [List.cons.injEq, Prod.ext_iff]
        have HR := Lib.hid hr'; clear hr hr' hc hc2
        generalize l[k].1 = x at *
        generalize l[k].2 = y at *
        generalize m[k].1 = u at *
        generalize m[k].2 = v at *
        by_cases e1 : x = u
        · by_cases e2 : y = v
          · have hr : r = decide (l.drop (k + 1) = m.drop (k + 1)) := by rw [HR.out, decide_eq_true e1, decide_eq_true e2]; rfl
            have HR2 := Lib.hid hr; clear hr HR
            subst e1 e2
            go_wp2
            go_quiet (fail)
            go_wp2
            go_roundw
            case rel => exact ⟨k + 1, by omega, by go_num, below_drewN hb _, HR2⟩
            case measure => simp [intOf]; omega
          · have hr : r = false := by rw [HR.out, decide_eq_false e2]; simp
            clear HR
            subst hr e1
            have E : (y == v) = false := by simpa using e2
            go_wp2
            go_quiet (fail)
            go_wp2
            go_ret
            exact ⟨rfl, below_drewN hb _⟩
        · have hr : r = false := by rw [HR.out, decide_eq_false e1]; simp
          clear HR
          subst hr
          have E : (x == u) = false := by simpa using e1
          go_wp2
          go_quiet (fail)
          go_wp2
          go_ret
          exact ⟨rfl, below_drewN hb _⟩
      · obtain rfl : k = l.length := by omega
        rw [List.drop_length, hlen, List.drop_length] at hr
        replace hr : r = true := by rw [hr]; rfl
        subst hr
        go_wp2
        go_ret
        exact ⟨rfl, hb⟩
  · have e : decide (l = m) = false := decide_eq_false (fun h => hlen (by rw [h]))
    rw [e]
    have hne : ((l.length : Int) != (m.length : Int)) = true := by simp; omega
    go_enter Try.func13, Try.ntmps13
    go_wp2
    go_ret
    exact ⟨rfl, Below.refl _ _⟩
end Go.Proofs.Ytmglpjbikknjgaa
