/-
  The program's tenants, walked.
-/
import Derived.Test.YtafighelgdlocaaConfC
namespace Go.Proofs.Ytafighelgdlocaa
open Go.RowKit
set_option linter.unusedVariables false

/-- a struct's box behind a call that makes memory -/
theorem box3 {W wA : World} {a b c : Value} {ty : TypeId} (h : Below (W.alloc (.cells #[a, b, c] ty)).heap.size (W.alloc (.cells #[a, b, c] ty)) wA) :
    wA.cell? ⟨W.heap.size, 0, none⟩ = some a ∧ wA.cell? ⟨W.heap.size, 1, none⟩ = some b ∧ wA.cell? ⟨W.heap.size, 2, none⟩ = some c ∧ Below W.heap.size W wA ∧ W.heap.size < wA.heap.size :=
  ⟨(h.cell (p := ⟨W.heap.size, 0, none⟩) (by simp)).trans (World.cell?_alloc_at _ _ _ 0 rfl), (h.cell (p := ⟨W.heap.size, 1, none⟩) (by simp)).trans (World.cell?_alloc_at _ _ _ 1 rfl), (h.cell (p := ⟨W.heap.size, 2, none⟩) (by simp)).trans (World.cell?_alloc_at _ _ _ 2 rfl), ((Below.refl _ _).alloc (Nat.le_refl _) _).trans (h.mono (by simp)), Nat.lt_of_lt_of_le (by simp) h.size⟩
/-- .. and behind another one -/
theorem boxKeep {g : Nat} {W wA : World} {o : Obj} {a b c : Value} (h : Below (W.alloc o).heap.size (W.alloc o) wA) (hg : g < W.heap.size) (c0 : W.cell? ⟨g, 0, none⟩ = some a) (c1 : W.cell? ⟨g, 1, none⟩ = some b) (c2 : W.cell? ⟨g, 2, none⟩ = some c) :
    wA.cell? ⟨g, 0, none⟩ = some a ∧ wA.cell? ⟨g, 1, none⟩ = some b ∧ wA.cell? ⟨g, 2, none⟩ = some c ∧ Below W.heap.size W wA := by
  have hb : Below W.heap.size W wA := ((Below.refl _ _).alloc (Nat.le_refl _) _).trans (h.mono (by simp))
  exact ⟨(hb.cell (p := ⟨g, 0, none⟩) hg).trans c0, (hb.cell (p := ⟨g, 1, none⟩) hg).trans c1, (hb.cell (p := ⟨g, 2, none⟩) hg).trans c2, hb⟩

theorem within2 (x y : Int) (g : Nat) (w : World) (hg : w.heap[g]? = some (.cells #[.int .i64 x, .int .i64 1, .int .i64 16, .int .i64 y, .int .i64 1, .int .i64 256] 52)) :
    Calls Try.prog 20 #[.slice (some ⟨g, 0, none⟩) 2 2] w (Ret (.bool (Cf.inR x 1 16 && Cf.inR y 1 256)) w) := by
  have := withinC [(x, 1, 16), (y, 1, 256)] g 2 w hg (by simp)
  simpa [Cf.rowOk] using this

set_option maxRecDepth 100000 in
set_option maxHeartbeats 4000000 in
theorem checkTenantsC (a : Option Addr) (len cap : Nat) (t : Nat → Cf.T) (w : World) (hl : len ≤ 100) (h : TenAt w a len t) :
    Calls Try.prog 18 #[.slice a len cap] w (Ret (.int .i64 (Cf.tenErr nmB t len)) w) := by
  by_cases h1 : len < 1
  · have e1 : Cf.tenErr nmB t len = 9 := by unfold Cf.tenErr; rw [if_pos (Or.inl h1)]
    rw [e1]
    clear e1 h
    obtain rfl : len = 0 := by omega
    go_enter Try.func18, Try.ntmps18
    go_wp2
    go_ret
    exact ⟨rfl, Below.refl _ _⟩
  · by_cases h6 : 6 < len
    · have e1 : Cf.tenErr nmB t len = 9 := by unfold Cf.tenErr; rw [if_pos (Or.inr h6)]
      rw [e1]
      clear e1 h
      go_enter Try.func18, Try.ntmps18
      go_wp2
      go_ret
      exact ⟨rfl, Below.refl _ _⟩
    · have e1 : Cf.tenErr nmB t len = Cf.tenGo nmB t len 0 := by unfold Cf.tenErr; rw [if_neg (by omega)]
      rw [e1]
      obtain ⟨r, hR⟩ : ∃ r, r = Cf.tenGo nmB t len 0 := ⟨_, rfl⟩
      rw [← hR]
      have HR := Lib.hid hR; clear hR e1
      have h06 : 0 < len := by omega
      have h66 : len ≤ 6 := by omega
      have h61 : ¬ len < 1 := h1
      clear hl
      obtain ⟨g, off, rfl, hg, hc⟩ := h.at h06
      have HC := Lib.hid hc; clear hc h
      have hmm := fun W => run_makeMap (P := Try.prog) 49 W
      go_enter Try.func18, Try.ntmps18
      go_wp2
      have hmap := MapN.made w t
      have hb0 : Below w.heap.size w (w.alloc (.map #[] 0)) := (Below.refl _ _).alloc (Nat.le_refl _) _
      clear hmm
      go_loopw [19] (fun i wr => ∃ k : Nat, k ≤ len ∧ i = .int .i64 (k : Int) ∧ Below w.heap.size w wr ∧ MapN wr w.heap.size t k ∧ Hid (r = Cf.tenGo nmB t (len - k) k)) (fun i _ => len - (intOf i).toNat)
      case atStart => exact ⟨0, by omega, rfl, hb0, hmap, HR⟩
      case round =>
        obtain ⟨k, hk, rfl, hb, hM, hr⟩ := hrel
        clear HR hmap hb0
        have HM := Lib.hid hM; clear hM
        by_cases hlt : k < len
        · obtain ⟨d0, d1, d2, d3⟩ := HC.out k hlt
          have c0 := (hb.cell (p := ⟨g, off + k * 3, none⟩) hg).trans d0
          have c1 := (hb.cell (p := ⟨g, off + k * 3 + 1, none⟩) hg).trans d1
          have c2 := (hb.cell (p := ⟨g, off + k * 3 + 2, none⟩) hg).trans d2
          replace hr := hr.out
          rw [show len - k = (len - (k + 1)) + 1 by omega] at hr
          simp only [Cf.tenGo] at hr
          have kn := fun W => nameC (t k).1 W d3
          rw [show Tx.nameL (bl (t k).1) = nmB (t k).1 from rfl] at kn
          have k1 := fun g W h => within2 (t k).2.1 (t k).2.2 g W h
          clear d0 d1 d2
          cases hn : nmB (t k).1 with
          | false =>
            rw [hn] at kn
            rw [if_pos hn] at hr
            have KN := Lib.hid kn
            clear kn hn k1 HC
            subst hr
            generalize (t k).1 = s at *
            generalize (t k).2.1 = x at *
            generalize (t k).2.2 = y at *
            go_wp2_with (go_at_call 28; (with_reducible refine (KN.out _).mono ?_); rintro e wA ⟨rfl, hbA⟩)
            go_ret
            exact ⟨rfl, hb.trans ((box3 hbA).2.2.2.1.mono hb.size)⟩
          | true =>
            rw [hn] at kn
            rw [if_neg (by rw [hn]; decide)] at hr
            have KN := Lib.hid kn
            clear kn hn
            cases hw : Cf.inR (t k).2.1 1 16 && Cf.inR (t k).2.2 1 256 with
            | false =>
              rw [if_pos hw] at hr
              simp only [hw] at k1
              have K1 := Lib.hid k1
              clear k1 HC hw
              subst hr
              generalize (t k).1 = s at *
              generalize (t k).2.1 = x at *
              generalize (t k).2.2 = y at *
              go_wp2_with (first | (go_at_call 28; (with_reducible refine (KN.out _).mono ?_); rintro e wA ⟨rfl, hbA⟩; obtain ⟨a0, a1, a2, hbA2, hlA⟩ := box3 hbA) | (go_at_call 20; (with_reducible refine (K1.out _ _ (heap_alloc_new _ _)).mono ?_); rintro e wB ⟨rfl, hbB⟩; obtain ⟨b0, b1, b2, hbB2⟩ := boxKeep hbB hlA a0 a1 a2))
              go_ret
              exact ⟨rfl, hb.trans ((hbA2.trans (hbB2.mono hbA2.size)).mono hb.size)⟩
            | true =>
              rw [if_neg (by rw [hw]; decide)] at hr
              simp only [hw] at k1
              have K1 := Lib.hid k1
              clear k1 hw
              generalize (t k).2.1 = x at *
              generalize (t k).2.2 = y at *
              have hMB : ∀ wB, Below wr.heap.size wr wB → MapN wB w.heap.size t k := fun wB h => HM.out.below h
              have HMB := Lib.hid hMB; clear hMB
              cases hs : Cf.seen t (t k).1 k with
              | true =>
                rw [if_pos hs] at hr
                subst hr
                have HS := Lib.hid hs
                clear HC hs
                go_wp2_with (first | (go_at_call 28; (with_reducible refine (KN.out _).mono ?_); rintro e wA ⟨rfl, hbA⟩; obtain ⟨a0, a1, a2, hbA2, hlA⟩ := box3 hbA) | (go_at_call 20; (with_reducible refine (K1.out _ _ (heap_alloc_new _ _)).mono ?_); rintro e wB ⟨rfl, hbB⟩; obtain ⟨b0, b1, b2, hbB2⟩ := boxKeep hbB hlA a0 a1 a2) | (at_lookup; refine wpLookN _ rfl _ _ rfl _ t k rfl (HMB.out _ (hbA2.trans (hbB2.mono hbA2.size))) (t k).1 rfl d3 true HS.out ?_; intro c))
                go_ret
                exact ⟨rfl, hb.trans ((hbA2.trans (hbB2.mono hbA2.size)).mono hb.size)⟩
              | false =>
                rw [if_neg (by rw [hs]; decide)] at hr
                have HR := Lib.hid hr
                have HS := Lib.hid hs
                clear HC hs hr
                go_wp2_with (first | (go_at_call 28; (with_reducible refine (KN.out _).mono ?_); rintro e wA ⟨rfl, hbA⟩; obtain ⟨a0, a1, a2, hbA2, hlA⟩ := box3 hbA) | (go_at_call 20; (with_reducible refine (K1.out _ _ (heap_alloc_new _ _)).mono ?_); rintro e wB ⟨rfl, hbB⟩; obtain ⟨b0, b1, b2, hbB2⟩ := boxKeep hbB hlA a0 a1 a2) | (at_lookup; refine wpLookN _ rfl _ _ rfl _ t k rfl (HMB.out _ (hbA2.trans (hbB2.mono hbA2.size))) (t k).1 rfl d3 false HS.out ?_; intro c) | (at_mapUpdate; refine wpPutN _ rfl _ _ _ rfl w.heap.size w.heap.size t k rfl (HMB.out _ (hbA2.trans (hbB2.mono hbA2.size))) (by omega) (Nat.le_refl _) rfl d3 rfl ?_; intro w2 hM2 hb2))
                have hbw := hb.trans (((hbA2.trans (hbB2.mono hbA2.size)).mono hb.size).trans hb2)
                go_roundw
                case rel => exact ⟨k + 1, by omega, by go_num, hbw, hM2, HR⟩
                case measure => simp [intOf]; omega
        · obtain rfl : k = len := by omega
          replace hr := hr.out
          rw [Nat.sub_self] at hr
          replace hr : r = 0 := hr
          subst hr
          go_wp2
          go_ret
          exact ⟨rfl, hb⟩
end Go.Proofs.Ytafighelgdlocaa
