/-
  The document's tenants.
-/
import Derived.Test.YtafighelgdlocaaConfA
import Derived.Test.YtafighelgdlocaaTextN
namespace Go.Proofs.Ytafighelgdlocaa
open Go.RowKit
set_option linter.unusedVariables false

theorem eq_no {p s : ByteArray} (h : p ≠ s) : (p.toList == s.toList) = false := by
  rw [Bool.eq_false_iff]
  intro e
  have := eq_of_beq e
  rw [ByteArray.toList_eq, ByteArray.toList_eq] at this
  exact h (bl_inj this)
theorem eq_yes {p s : ByteArray} (h : p = s) : (p.toList == s.toList) = true := by rw [h]; exact beq_self_eq_true _
/-- is a string a name? -/
def nmB (s : ByteArray) : Bool := Tx.nameL (bl s)
/-- a row of tenants, as it came in -/
def TenAt (w : World) (a : Option Addr) (len : Nat) (t : Nat → Cf.T) : Prop := len = 0 ∨ ∃ b off : Nat, a = some ⟨b, off, none⟩ ∧ b < w.heap.size ∧
  ∀ i, i < len → w.cell? ⟨b, off + i * 3, none⟩ = some (.string (t i).1) ∧ w.cell? ⟨b, off + i * 3 + 1, none⟩ = some (.int .i64 (t i).2.1) ∧ w.cell? ⟨b, off + i * 3 + 2, none⟩ = some (.int .i64 (t i).2.2) ∧ (t i).1.size ≤ 9223372036854775807
theorem TenAt.below {w w' : World} {a : Option Addr} {len : Nat} {t : Nat → Cf.T} (h : TenAt w a len t) (hb : Below w.heap.size w w') : TenAt w' a len t := by
  rcases h with h | ⟨b, off, rfl, hl, hc⟩
  · exact Or.inl h
  · exact Or.inr ⟨b, off, rfl, Nat.lt_of_lt_of_le hl hb.size, fun i hi => by
      obtain ⟨h0, h1, h2, h3⟩ := hc i hi
      exact ⟨(hb.cell (p := ⟨b, _, none⟩) hl).trans h0, (hb.cell (p := ⟨b, _, none⟩) hl).trans h1, (hb.cell (p := ⟨b, _, none⟩) hl).trans h2, h3⟩⟩
theorem TenAt.at {w : World} {a : Option Addr} {len : Nat} {t : Nat → Cf.T} (h : TenAt w a len t) (h0 : 0 < len) : ∃ b off : Nat, a = some ⟨b, off, none⟩ ∧ b < w.heap.size ∧
    ∀ i, i < len → w.cell? ⟨b, off + i * 3, none⟩ = some (.string (t i).1) ∧ w.cell? ⟨b, off + i * 3 + 1, none⟩ = some (.int .i64 (t i).2.1) ∧ w.cell? ⟨b, off + i * 3 + 2, none⟩ = some (.int .i64 (t i).2.2) ∧ (t i).1.size ≤ 9223372036854775807 := by
  rcases h with h | h
  · omega
  · exact h

set_option maxRecDepth 100000 in
set_option maxHeartbeats 2000000 in
theorem refTenantsC (a : Option Addr) (len cap : Nat) (t : Nat → Cf.T) (w : World) (hl : len ≤ 100) (h : TenAt w a len t) :
    Calls Try.prog 22 #[.slice a len cap] w (Ret (.int .i64 (Cf.tenErr nmB t len)) w) := by
  have k0 := fun W => inC (len : Int) 1 6 W
  by_cases hlen : len < 1 ∨ 6 < len
  · have e0 : Cf.inR (len : Int) 1 6 = false := by rw [Cf.inR_is]; exact decide_eq_false (by omega)
    have e1 : Cf.tenErr nmB t len = 9 := by unfold Cf.tenErr; rw [if_pos hlen]
    rw [e0] at k0
    rw [e1]
    have K0 := Lib.hid k0; clear k0 e0 e1 hlen h
    go_enter Try.func22, Try.ntmps22
    go_wp2_with (go_at_call 23; (with_reducible refine (K0.out _).mono ?_); rintro e w1 ⟨rfl, rfl⟩)
    go_ret
    exact ⟨rfl, Below.refl _ _⟩
  · have e0 : Cf.inR (len : Int) 1 6 = true := by rw [Cf.inR_is]; exact decide_eq_true (by omega)
    have e1 : Cf.tenErr nmB t len = Cf.tenGo nmB t len 0 := by unfold Cf.tenErr; rw [if_neg hlen]
    rw [e0] at k0
    rw [e1]
    have K0 := Lib.hid k0; clear k0 e0 e1
    obtain ⟨r, hR⟩ : ∃ r, r = Cf.tenGo nmB t len 0 := ⟨_, rfl⟩
    rw [← hR]
    have HR := Lib.hid hR; clear hR
    have h06 : 0 < len := by omega
    have h66 : len ≤ 6 := by omega
    clear hlen hl
    obtain ⟨g, off, rfl, hg, hc⟩ := h.at h06
    have HC := Lib.hid hc; clear hc h
    go_enter Try.func22, Try.ntmps22
    go_wp2_with (go_at_call 23; (with_reducible refine (K0.out _).mono ?_); rintro e w1 ⟨rfl, rfl⟩)
    clear K0
    go_loopw [3] (fun i wr => ∃ k : Nat, k ≤ len ∧ i = .int .i64 (k : Int) ∧ Below w.heap.size w wr ∧ Hid (r = Cf.tenGo nmB t (len - k) k)) (fun i _ => len - (intOf i).toNat)
    case atStart => exact ⟨0, by omega, rfl, Below.refl _ _, HR⟩
    case round =>
      obtain ⟨k, hk, rfl, hb, hr⟩ := hrel
      by_cases hlt : k < len
      · obtain ⟨d0, d1, d2, d3⟩ := HC.out k hlt
        have c0 : wr.cell? ⟨g, off + k * 3, none⟩ = some (.string (t k).1) := (hb.cell (p := ⟨g, _, none⟩) hg).trans d0
        replace hr := hr.out
        rw [show len - k = (len - (k + 1)) + 1 by omega] at hr
        simp only [Cf.tenGo] at hr
        have kn := fun W => refNameC (t k).1 W d3
        rw [show Tx.nameL (bl (t k).1) = nmB (t k).1 from rfl] at kn
        have k1 := fun W => inC (t k).2.1 1 16 W
        have k2 := fun W => inC (t k).2.2 1 256 W
        clear HR
        cases hn : nmB (t k).1 with
        | false =>
          rw [hn] at kn
          rw [if_pos hn] at hr
          have KN := Lib.hid kn
          clear kn hn k1 k2 d0 d1 d2 d3 HC
          subst hr
          generalize (t k).1 = s at *
          go_wp2_with (go_at_call 29; (with_reducible refine (KN.out _).mono ?_); rintro e w1 ⟨rfl, hb1⟩)
          go_ret
          exact ⟨rfl, hb.trans (hb1.mono hb.size)⟩
        | true =>
          rw [hn] at kn
          rw [if_neg (by rw [hn]; decide)] at hr
          have KN := Lib.hid kn
          clear kn hn
          cases hw : Cf.inR (t k).2.1 1 16 with
          | false =>
            rw [hw] at k1 hr
            replace hr : r = 1 := hr
            have K1 := Lib.hid k1
            clear k1 k2 d3 d2 HC hw
            subst hr
            generalize (t k).1 = s at *
            generalize (t k).2.1 = x at *
            go_wp2_with (first | (go_at_call 29; (with_reducible refine (KN.out _).mono ?_); rintro e w1 ⟨rfl, hb1⟩; have hb2 := hb.trans (hb1.mono hb.size); have c1 := (hb2.cell (p := ⟨g, _, none⟩) hg).trans d1) | (go_at_call 23; (with_reducible refine (K1.out _).mono ?_); rintro e w2 ⟨rfl, rfl⟩))
            go_ret
            exact ⟨rfl, hb2⟩
          | true =>
            cases hq : Cf.inR (t k).2.2 1 256 with
            | false =>
              rw [hw] at k1 hr
              rw [hq] at k2 hr
              replace hr : r = 1 := hr
              have K1 := Lib.hid k1
              have K2 := Lib.hid k2
              clear k1 k2 d3 HC hw hq
              subst hr
              generalize (t k).1 = s at *
              generalize (t k).2.1 = x at *
              generalize (t k).2.2 = y at *
              go_wp2_with (first | (go_at_call 29; (with_reducible refine (KN.out _).mono ?_); rintro e w1 ⟨rfl, hb1⟩; have hb2 := hb.trans (hb1.mono hb.size); have c1 := (hb2.cell (p := ⟨g, _, none⟩) hg).trans d1; have c2 := (hb2.cell (p := ⟨g, _, none⟩) hg).trans d2) | (go_at_call 23; (with_reducible refine (K1.out _).mono ?_); rintro e w2 ⟨rfl, rfl⟩) | (go_at_call 23; (with_reducible refine (K2.out _).mono ?_); rintro e w2 ⟨rfl, rfl⟩))
              go_ret
              exact ⟨rfl, hb2⟩
            | true =>
              rw [hw] at k1 hr
              rw [hq] at k2 hr
              rw [if_neg (by decide)] at hr
              have K1 := Lib.hid k1
              have K2 := Lib.hid k2
              have HR := Lib.hid hr
              clear k1 k2 d3 hw hq hr
              generalize (t k).2.1 = x at *
              generalize (t k).2.2 = y at *
              go_wp2_with (first | (go_at_call 29; (with_reducible refine (KN.out _).mono ?_); rintro e w1 ⟨rfl, hb1⟩; have hb2 := hb.trans (hb1.mono hb.size); have c1 := (hb2.cell (p := ⟨g, _, none⟩) hg).trans d1; have c2 := (hb2.cell (p := ⟨g, _, none⟩) hg).trans d2) | (go_at_call 23; (with_reducible refine (K1.out _).mono ?_); rintro e w2 ⟨rfl, rfl⟩) | (go_at_call 23; (with_reducible refine (K2.out _).mono ?_); rintro e w2 ⟨rfl, rfl⟩))
              clear c0 c1 c2 d0 d1 d2 hb1 hb K1 K2 KN
              go_loopw [4] (fun i wr2 => ∃ j : Nat, j ≤ k ∧ i = .int .i64 (j : Int) ∧ Below w.heap.size w wr2 ∧ Hid (∀ m, m < j → (t m).1 ≠ (t k).1)) (fun i _ => k - (intOf i).toNat)
              case atStart => exact ⟨0, by omega, rfl, hb2, fun m h => by omega⟩
              case round =>
                obtain ⟨j, hj, rfl, hb3, hall⟩ := hrel
                by_cases hjk : j < k
                · have c0 := (hb3.cell (p := ⟨g, off + j * 3, none⟩) hg).trans (HC.out j (by omega)).1
                  have c1 := (hb3.cell (p := ⟨g, off + k * 3, none⟩) hg).trans (HC.out k hlt).1
                  have hjl : j < len := by omega
                  have hall2 : (t j).1 ≠ (t k).1 → Hid (∀ m, m < j + 1 → (t m).1 ≠ (t k).1) := fun h => Lib.hid fun m hm => by
                    by_cases e : m = j
                    · rw [e]; exact h
                    · exact hall.out m (by omega)
                  have hsn : (t j).1 = (t k).1 → Cf.seen t (t k).1 k = true := fun h => Cf.seen_some hjk h
                  generalize Cf.seen t (t k).1 k = sn at *
                  generalize (t j).1 = p at *
                  generalize (t k).1 = s at *
                  by_cases e : p = s
                  · have e1 := hsn e
                    have hr := HR.out
                    rw [if_pos e1] at hr
                    clear hsn hall2 HR e1
                    replace hr : r = 8 := hr
                    subst hr e
                    go_wp2
                    go_quiet (fail)
                    go_wp2
                    go_ret
                    exact ⟨rfl, below_drewN hb3 _⟩
                  · have HA := hall2 e
                    have E := eq_no e
                    clear hsn hall2 e
                    go_wp2
                    go_quiet (fail)
                    go_wp2
                    exact ⟨⟨j + 1, by omega, by go_num, below_drewN hb3 _, HA⟩, by simp [intOf]; omega⟩
                · obtain rfl : j = k := by omega
                  have hs0 := Cf.seen_none hall.out
                  have hr := HR.out
                  rw [if_neg (by rw [hs0]; decide)] at hr
                  have HR2 := Lib.hid hr
                  clear hs0 hr HR hall
                  go_wp2
                  go_roundw
                  case rel => exact ⟨j + 1, by omega, by go_num, hb3, HR2⟩
                  case measure => simp [intOf]; omega
      · obtain rfl : k = len := by omega
        replace hr := hr.out
        rw [Nat.sub_self] at hr
        replace hr : r = 0 := hr
        clear HR
        subst hr
        go_wp2
        go_ret
        exact ⟨rfl, hb⟩
end Go.Proofs.Ytafighelgdlocaa
