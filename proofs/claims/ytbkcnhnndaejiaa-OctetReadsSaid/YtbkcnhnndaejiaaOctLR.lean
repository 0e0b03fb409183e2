/-
  The law OctetReads, walked.
-/
import Derived.Test.YtbkcnhnndaejiaaOctS
import Derived.BigRegion
import Derived.Test.YtbkcnhnndaejiaaRows2
namespace Go.Proofs.Ytbkcnhnndaejiaa
open Go.RowKit
set_option linter.unusedVariables false
open Bil (bl)

theorem Only2.undrew {B C : Nat} {w w' : World} (h : Only2 B C w.drew w') : Only2 B C w w' := ⟨h.os, h.tape, h.output, h.size, h.block⟩
theorem endE_r {s : ByteArray} {e : Int} (h : 0 ≤ e ∧ e ≤ 9) : 0 ≤ endE s e ∧ endE s e ≤ 9 := by unfold endE; split <;> omega

/-- what is asked of a list of reads: each element is two numbers -/
def RowRd (w : World) (a : Option Addr) (len : Nat) : Prop :=
  len = 0 ∨ ∃ (b off : Nat), a = some ⟨b, off, none⟩ ∧ b < w.heap.size ∧ ∀ i, i < len → ∃ kk mm : Int, w.cell? ⟨b, off + i * 2, none⟩ = some (.int .i64 kk) ∧ w.cell? ⟨b, off + i * 2 + 1, none⟩ = some (.int .i64 mm) ∧ -9223372036854775808 ≤ mm ∧ mm ≤ 9223372036854775807

theorem rowRd_of {H : Type} {enc : TypeId × Value → H} {w : World} {a : Option Addr} {len cap : Nat} {d : DataW H} {p : List MemPlace}
    (h : DataW.Trod enc Try.prog w 0 (fun _ => true) true 47 (.slice a len cap) d p) : RowRd w a len ∧ len ≤ maxLen := by
  obtain ⟨hm, h0 | ⟨x, rfl, hl, _, hc⟩⟩ := Bil.slice_cells Try.underlying47 Try.underlying55 (by kernel_rfl) (by kernel_rfl) h
  · exact ⟨.inl h0, hm⟩
  · refine ⟨?_, hm⟩
    by_cases h0 : len = 0
    · exact .inl h0
    right
    obtain ⟨b, off, spot⟩ := x
    have hone : ∀ i, i < cap → ∃ k m : Int, w.cell? ((⟨b, off, spot⟩ : Addr).add (i * 2 + 0)) = some (.int .i64 k) ∧ w.cell? ((⟨b, off, spot⟩ : Addr).add (i * 2 + 1)) = some (.int .i64 m) ∧ -9223372036854775808 ≤ m ∧ m ≤ 9223372036854775807 := by
      intro i hi
      obtain ⟨v0, n0, y0, hc0, ht0⟩ := hc i hi 0 _ rfl
      obtain ⟨v1, n1, y1, hc1, ht1⟩ := hc i hi 1 _ rfl
      obtain ⟨k, hk, _, _⟩ := DataW.trod_int Try.underlying3 ht0
      obtain ⟨m, hm, _, wm⟩ := DataW.trod_int Try.underlying3 ht1
      simp at hk hm
      subst hk hm
      obtain ⟨g0, g1⟩ := wf_i64 wm
      exact ⟨k, m, hc0, hc1, g0, g1⟩
    have hsp : spot = none := by
      obtain ⟨k, m, hc0, _⟩ := hone 0 (by omega)
      have := World.cell?_spot hc0
      simpa [Addr.add] using this
    subst hsp
    have hb : b < w.heap.size := by
      obtain ⟨k, m, hc0, _⟩ := hone 0 (by omega)
      have := block_lt_of_cell hc0
      simpa [Addr.add] using this
    refine ⟨b, off, rfl, hb, fun i hi => ?_⟩
    obtain ⟨k, m, g0, g1, g2, g3⟩ := hone i (by omega)
    rw [Bil.add_off] at g0 g1
    exact ⟨k, m, by simpa using g0, by simpa [Nat.add_assoc] using g1, g2, g3⟩

theorem newOk (s : ByteArray) (w : World) :
    Calls Try.prog 21 #[.string s] w fun e w' => e = .returned (.pointer (some ⟨w.heap.size, 0, none⟩)) ∧ w' = w.alloc (.cells #[.string s, .int .i64 0] 69) := by
  go_enter Try.func21, Try.ntmps21
  go_wp2
  go_ret
  exact ⟨rfl, rfl⟩

set_option maxRecDepth 100000 in
set_option maxHeartbeats 2000000 in
theorem octetReads_walk0 (s : ByteArray) (a : Option Addr) (len cap : Nat) (w : World) (hs : s.size ≤ 1000) (hl : len ≤ 100) (hr : RowRd w a len) :
    Calls Try.prog 6 #[.string s, .slice a len cap] w (Ret (.bool true) w) := by
  have HR := Lib.hid hr; clear hr
  go_enter Try.func6, Try.ntmps6
  go_wp2_with (go_at_call 21; (with_reducible refine (newOk _ _).mono ?_); rintro e w1 ⟨rfl, rfl⟩)
  go_loopw [7] (fun i wr => ∃ (k : Nat), k ≤ len ∧ i = .int .i64 k ∧ Hid (∃ (s' : ByteArray) (e : Int), Both w.heap.size (w.heap.size + 1) s' e wr ∧ s'.size ≤ 1000 ∧ 0 ≤ e ∧ e ≤ 9) ∧ Hid (Below w.heap.size w wr)) (fun i _ => len - (intOf i).toNat)
  case atStart =>
    refine ⟨0, by omega, rfl, ⟨s, 0, ⟨?_, ?_⟩, hs, by omega⟩, ((Below.refl _ _).alloc (Nat.le_refl _) _).alloc (by show w.heap.size ≤ (w.heap.push _).size; simp) _⟩
    · exact (Below.heap_alloc _ _ w.heap.size (by show w.heap.size < (w.heap.push _).size; simp)).trans (heap_alloc_new w _)
    · have := heap_alloc_new (w.alloc (.cells #[.string s, .int .i64 0] tO)) (.cells #[.string s, .int .i64 0] tR)
      rwa [show (w.alloc (.cells #[.string s, .int .i64 0] tO)).heap.size = w.heap.size + 1 from by show (w.heap.push _).size = _; simp] at this
  case round =>
    obtain ⟨k, hk, rfl, HB, HW⟩ := hrel
    by_cases hlt : k < len
    · obtain ⟨s', e, hb, hs', he⟩ := HB.out
      rcases HR.out with h | ⟨b, off, rfl, hbw, hcs⟩
      · omega
      · obtain ⟨kk, mm, d0, d1, m0, m1⟩ := hcs k hlt
        have c0 : wr.cell? ⟨b, off + k * 2, none⟩ = some (.int .i64 kk) := by rw [HW.out.cell (p := ⟨b, _, none⟩) hbw]; exact d0
        have c1 : wr.cell? ⟨b, off + k * 2 + 1, none⟩ = some (.int .i64 mm) := by rw [HW.out.cell (p := ⟨b, _, none⟩) hbw]; exact d1
        clear d0 d1 hcs
        have hBC : w.heap.size ≠ w.heap.size + 1 := by omega
        have HBC := Lib.hid hBC; clear hBC
        have HBo := Lib.hid hb; clear hb
        go_wp2_with fail
        refine wp_region_any (by kernel_rfl) ?_
        change wpAny _ _ _ _ _ _ _ (World.drew _)
        refine wpAny_take (i := 0) (v := ?_) rfl (by kernel_rfl) (by kernel_rfl) (by kernel_rfl) (fun _ _ _ h => h) (Or.inl ⟨by kernel_rfl, ?_⟩) ?_; rotate_left; (intro w; first | (go_simp; done) | (go_simp; with_reducible rfl)); rotate_left
        refine wpAny_take (i := 1) (v := ?_) rfl (by kernel_rfl) (by kernel_rfl) (by kernel_rfl) (fun _ _ _ h => h) (Or.inl ⟨by kernel_rfl, ?_⟩) ?_; rotate_left; (intro w; first | (go_simp; done) | (go_simp; with_reducible rfl)); rotate_left
        refine wpAny_take (i := 2) (v := ?_) rfl (by kernel_rfl) (by kernel_rfl) (by kernel_rfl) (fun _ _ _ h => h) (Or.inl ⟨by kernel_rfl, ?_⟩) ?_; rotate_left; (intro w; first | (go_simp; done) | (go_simp; with_reducible rfl)); rotate_left
        refine wpAny_take (i := 3) (v := ?_) rfl (by kernel_rfl) (by kernel_rfl) (by kernel_rfl) (fun _ _ _ h => h) (Or.inl ⟨by kernel_rfl, ?_⟩) ?_; rotate_left; (intro w; first | (go_simp; done) | (go_simp; with_reducible rfl)); rotate_left
        refine wpAny_take (i := 4) (v := ?_) rfl (by kernel_rfl) (by kernel_rfl) (by kernel_rfl) (fun _ _ _ h => h) (Or.inl ⟨by kernel_rfl, ?_⟩) ?_; rotate_left; (intro w; first | (go_simp; done) | (go_simp; with_reducible rfl)); rotate_left
        refine wpAny_ready (rs := [5]) (by kernel_rfl) (by simp) ?_; refine AllReady.cons rfl (fun K hK => ?_) AllReady.nil; go_simp; refine hK _ _ ?_; clear hK K
        refine wpAny_ready (rs := [6]) (by kernel_rfl) (by simp) ?_; refine AllReady.cons rfl (fun K hK => ?_) AllReady.nil; go_simp; go_wp2_with ((go_at_call 22; (with_reducible refine (sameOk w.heap.size (w.heap.size + 1) s' e kk mm _ HBC.out hs' he m0 m1 ?_).mono ?_); (exact ⟨HBo.out.o, HBo.out.r⟩); rintro e1 w1 ⟨rfl, ho2, s2, e2, hS, hs2, he2⟩; have hb : Below w.heap.size w w1 := HW.out.trans ((Only2.undrew ho2).below (Nat.le_refl _) (by omega) HW.out.size))); (try (refine hK _ _ ?_; clear hK K))
        refine wpAny_of_held (S := Both w.heap.size (w.heap.size + 1) s2 e2) _ _ _ _ ?_
        refine wpAnyH_take (i := 7) (v := ?_) rfl (by kernel_rfl) (by kernel_rfl) (by kernel_rfl) (fun _ _ _ h => h) (Or.inl ⟨by kernel_rfl, ?_⟩) hS ?_; rotate_left; (intro w hw; obtain ⟨_, q0, q1, _, _⟩ := hw.r.facts; first | (go_simp; done) | (go_simp; with_reducible rfl)); rotate_left
        refine wpAnyH_take (i := 8) (v := ?_) rfl (by kernel_rfl) (by kernel_rfl) (by kernel_rfl) (fun _ _ _ h => h) (Or.inl ⟨by kernel_rfl, ?_⟩) hS ?_; rotate_left; (intro w hw; obtain ⟨_, q0, q1, _, _⟩ := hw.r.facts; first | (go_simp; done) | (go_simp; with_reducible rfl)); rotate_left
        refine wpAnyH_take (i := 9) (v := ?_) rfl (by kernel_rfl) (by kernel_rfl) (by kernel_rfl) (fun _ _ _ h => h) (Or.inl ⟨by kernel_rfl, ?_⟩) hS ?_; rotate_left; (intro w hw; obtain ⟨_, q0, q1, _, _⟩ := hw.r.facts; first | (go_simp; done) | (go_simp; with_reducible rfl)); rotate_left
        refine wpAnyH_take (i := 12) (v := ?_) rfl (by kernel_rfl) (by kernel_rfl) (by kernel_rfl) (fun _ _ _ h => h) (Or.inl ⟨by kernel_rfl, ?_⟩) hS ?_; rotate_left; (intro w hw; obtain ⟨_, q0, q1, _, _⟩ := hw.r.facts; first | (go_simp; done) | (go_simp; with_reducible rfl)); rotate_left
        refine wpAnyH_take (i := 13) (v := ?_) rfl (by kernel_rfl) (by kernel_rfl) (by kernel_rfl) (fun _ _ _ h => h) (Or.inl ⟨by kernel_rfl, ?_⟩) hS ?_; rotate_left; (intro w hw; obtain ⟨_, q0, q1, _, _⟩ := hw.r.facts; first | (go_simp; done) | (go_simp; with_reducible rfl)); rotate_left
        refine wpAnyH_take (i := 14) (v := ?_) rfl (by kernel_rfl) (by kernel_rfl) (by kernel_rfl) (fun _ _ _ h => h) (Or.inl ⟨by kernel_rfl, ?_⟩) hS ?_; rotate_left; (intro w hw; obtain ⟨_, q0, q1, _, _⟩ := hw.r.facts; first | (go_simp; done) | (go_simp; with_reducible rfl)); rotate_left
        refine wpAnyH_take (i := 15) (v := ?_) rfl (by kernel_rfl) (by kernel_rfl) (by kernel_rfl) (fun _ _ _ h => h) (Or.inl ⟨by kernel_rfl, ?_⟩) hS ?_; rotate_left; (intro w hw; obtain ⟨_, q0, q1, _, _⟩ := hw.r.facts; first | (go_simp; done) | (go_simp; with_reducible rfl)); rotate_left
        refine wpAnyH_ready (rs := [10]) (by kernel_rfl) (by simp) ?_; refine AllReadyH.cons rfl (fun K hK => ?_) AllReadyH.nil; go_simp; go_wp2_with ((go_at_call 23; (with_reducible refine (octErr w.heap.size s2 e2 _ ?_).mono ?_); (exact hS.o); rintro e3 w3 ⟨rfl, rfl⟩)); refine hK.out _ _ ?_ (fun _ => ?_); (exact hS); clear hK K
        refine wpAnyH_ready (rs := [11]) (by kernel_rfl) (by simp) ?_; refine AllReadyH.cons rfl (fun K hK => ?_) AllReadyH.nil; go_simp; go_wp2_with ((go_at_call 11; (with_reducible refine (numOk _ _ ?_).mono ?_); (first | exact he2 | exact endE_r he2); rintro e3 w3 ⟨rfl, rfl⟩)); refine hK.out _ _ ?_ (fun _ => ?_); (exact hS); clear hK K
        refine wpAnyH_take (i := 16) (v := ?_) rfl (by kernel_rfl) (by kernel_rfl) (by kernel_rfl) (fun _ _ _ h => h) (Or.inl ⟨by kernel_rfl, ?_⟩) hS ?_; rotate_left; (intro w hw; obtain ⟨_, q0, q1, _, _⟩ := hw.r.facts; first | (go_simp; done) | (go_simp; with_reducible rfl)); rotate_left
        refine wpAnyH_take (i := 17) (v := ?_) rfl (by kernel_rfl) (by kernel_rfl) (by kernel_rfl) (fun _ _ _ h => h) (Or.inl ⟨by kernel_rfl, ?_⟩) hS ?_; rotate_left; (intro w hw; obtain ⟨_, q0, q1, _, _⟩ := hw.r.facts; first | (go_simp; done) | (go_simp; with_reducible rfl)); rotate_left
        refine wpAnyH_take (i := 18) (v := ?_) rfl (by kernel_rfl) (by kernel_rfl) (by kernel_rfl) (fun _ _ _ h => h) (Or.inl ⟨by kernel_rfl, ?_⟩) hS ?_; rotate_left; (intro w hw; obtain ⟨_, q0, q1, _, _⟩ := hw.r.facts; first | (go_simp; done) | (go_simp; with_reducible rfl)); rotate_left
        refine wpAnyH_take (i := 19) (v := ?_) rfl (by kernel_rfl) (by kernel_rfl) (by kernel_rfl) (fun _ _ _ h => h) (Or.inl ⟨by kernel_rfl, ?_⟩) hS ?_; rotate_left; (intro w hw; obtain ⟨_, q0, q1, _, _⟩ := hw.r.facts; first | (go_simp; done) | (go_simp; with_reducible rfl)); rotate_left
        refine wpAnyH_take (i := 21) (v := ?_) rfl (by kernel_rfl) (by kernel_rfl) (by kernel_rfl) (fun _ _ _ h => h) (Or.inl ⟨by kernel_rfl, ?_⟩) hS ?_; rotate_left; (intro w hw; obtain ⟨_, q0, q1, _, _⟩ := hw.r.facts; first | (go_simp; done) | (go_simp; with_reducible rfl)); rotate_left
        refine wpAnyH_take (i := 22) (v := ?_) rfl (by kernel_rfl) (by kernel_rfl) (by kernel_rfl) (fun _ _ _ h => h) (Or.inl ⟨by kernel_rfl, ?_⟩) hS ?_; rotate_left; (intro w hw; obtain ⟨_, q0, q1, _, _⟩ := hw.r.facts; first | (go_simp; done) | (go_simp; with_reducible rfl)); rotate_left
        refine wpAnyH_take (i := 23) (v := ?_) rfl (by kernel_rfl) (by kernel_rfl) (by kernel_rfl) (fun _ _ _ h => h) (Or.inl ⟨by kernel_rfl, ?_⟩) hS ?_; rotate_left; (intro w hw; obtain ⟨_, q0, q1, _, _⟩ := hw.r.facts; first | (go_simp; done) | (go_simp; with_reducible rfl)); rotate_left
        refine wpAnyH_take (i := 24) (v := ?_) rfl (by kernel_rfl) (by kernel_rfl) (by kernel_rfl) (fun _ _ _ h => h) (Or.inl ⟨by kernel_rfl, ?_⟩) hS ?_; rotate_left; (intro w hw; obtain ⟨_, q0, q1, _, _⟩ := hw.r.facts; first | (go_simp; done) | (go_simp; with_reducible rfl)); rotate_left
        refine wpAnyH_ready (rs := [20]) (by kernel_rfl) (by simp) ?_; refine AllReadyH.cons rfl (fun K hK => ?_) AllReadyH.nil; go_simp; go_wp2_with ((go_at_call 24; (with_reducible refine (octRest w.heap.size s2 e2 _ ?_ ?_).mono ?_); (omega); (exact hS.o); rintro e3 w3 ⟨rfl, hbx⟩; replace hS := hS.below hbx hS.o.facts.1 hS.r.facts.1; replace hb := hb.trans (hbx.mono hb.size); clear hbx)); refine hK.out _ _ ?_ (fun _ => ?_); (exact hS); clear hK K
        refine wpAnyH_take (i := 25) (v := ?_) rfl (by kernel_rfl) (by kernel_rfl) (by kernel_rfl) (fun _ _ _ h => h) (Or.inl ⟨by kernel_rfl, ?_⟩) hS ?_; rotate_left; (intro w hw; obtain ⟨_, q0, q1, _, _⟩ := hw.r.facts; first | (go_simp; done) | (go_simp; with_reducible rfl)); rotate_left
        refine wpAnyH_take (i := 26) (v := ?_) rfl (by kernel_rfl) (by kernel_rfl) (by kernel_rfl) (fun _ _ _ h => h) (Or.inl ⟨by kernel_rfl, ?_⟩) hS ?_; rotate_left; (intro w hw; obtain ⟨_, q0, q1, _, _⟩ := hw.r.facts; first | (go_simp; done) | (go_simp; with_reducible rfl)); rotate_left
        refine wpAnyH_take (i := 27) (v := ?_) rfl (by kernel_rfl) (by kernel_rfl) (by kernel_rfl) (fun _ _ _ h => h) (Or.inl ⟨by kernel_rfl, ?_⟩) hS ?_; rotate_left; (intro w hw; obtain ⟨_, q0, q1, _, _⟩ := hw.r.facts; first | (go_simp; done) | (go_simp; with_reducible rfl)); rotate_left
        refine wpAnyH_take (i := 28) (v := ?_) rfl (by kernel_rfl) (by kernel_rfl) (by kernel_rfl) (fun _ _ _ h => h) (Or.inl ⟨by kernel_rfl, ?_⟩) hS ?_; rotate_left; (intro w hw; obtain ⟨_, q0, q1, _, _⟩ := hw.r.facts; first | (go_simp; done) | (go_simp; with_reducible rfl)); rotate_left
        refine wpAnyH_take (i := 31) (v := ?_) rfl (by kernel_rfl) (by kernel_rfl) (by kernel_rfl) (fun _ _ _ h => h) (Or.inl ⟨by kernel_rfl, ?_⟩) hS ?_; rotate_left; (intro w hw; obtain ⟨_, q0, q1, _, _⟩ := hw.r.facts; first | (go_simp; done) | (go_simp; with_reducible rfl)); rotate_left
        refine wpAnyH_ready (rs := [29]) (by kernel_rfl) (by simp) ?_; refine AllReadyH.cons rfl (fun K hK => ?_) AllReadyH.nil; go_simp; go_wp2_with ((go_at_call 25; (with_reducible refine (octEnd w.heap.size s2 e2 _ ?_).mono ?_); (exact hS.o); rintro e3 w3 ⟨rfl, rfl⟩)); refine hK.out _ _ ?_ (fun _ => ?_); (exact hS); clear hK K
        refine wpAnyH_ready (rs := [30]) (by kernel_rfl) (by simp) ?_; refine AllReadyH.cons rfl (fun K hK => ?_) AllReadyH.nil; go_simp; go_wp2_with ((go_at_call 11; (with_reducible refine (numOk _ _ ?_).mono ?_); (first | exact he2 | exact endE_r he2); rintro e3 w3 ⟨rfl, rfl⟩)); refine hK.out _ _ ?_ (fun _ => ?_); (exact hS); clear hK K
        refine wpAnyH_ready (rs := [32]) (by kernel_rfl) (by simp) ?_; refine AllReadyH.cons rfl (fun K hK => ?_) AllReadyH.nil; go_simp; go_wp2_with ((go_at_call 26; (with_reducible refine (refEnd (w.heap.size + 1) s2 e2 _ ?_).mono ?_); (exact hS.r); rintro e3 w3 ⟨rfl, rfl⟩)); refine hK.out _ _ ?_ (fun _ => ?_); (exact hS); clear hK K
        refine wpAnyH_take (i := 33) (v := ?_) rfl (by kernel_rfl) (by kernel_rfl) (by kernel_rfl) (fun _ _ _ h => h) (Or.inl ⟨by kernel_rfl, ?_⟩) hS ?_; rotate_left; (intro w hw; obtain ⟨_, q0, q1, _, _⟩ := hw.r.facts; first | (go_simp; done) | (go_simp; with_reducible rfl)); rotate_left
        refine wpAnyH_take (i := 34) (v := ?_) rfl (by kernel_rfl) (by kernel_rfl) (by kernel_rfl) (fun _ _ _ h => h) (Or.inl ⟨by kernel_rfl, ?_⟩) hS ?_; rotate_left; (intro w hw; obtain ⟨_, q0, q1, _, _⟩ := hw.r.facts; first | (go_simp; done) | (go_simp; with_reducible rfl)); rotate_left
        refine wpAnyH_done (by kernel_rfl) ?_ _
        have HS := Lib.hid hS; clear hS
        have HB2 := Lib.hid hb; clear hb
        go_wp2
        exact ⟨⟨k + 1, by omega, by go_num, ⟨s2, e2, HS.out, by omega, he2⟩, HB2.out⟩, by simp [intOf]; omega⟩
    · obtain rfl : k = len := by omega
      have hb := HW.out
      clear HB HW
      go_wp2_with (first | (go_at_call 27; (with_reducible refine (nilNum _).mono ?_); rintro e w1 ⟨rfl, rfl⟩) | (go_at_call 28; (with_reducible refine (nilInt _ _).mono ?_); rintro e w1 ⟨rfl, hbx⟩; (first | replace hb := hb.trans (hbx.mono hb.size) | replace hb := hb.drew.trans (hbx.mono hb.size)); clear hbx) | (go_at_call 29; (with_reducible refine (nilStr _ _).mono ?_); rintro e w1 ⟨rfl, hbx⟩; (first | replace hb := hb.trans (hbx.mono hb.size) | replace hb := hb.drew.trans (hbx.mono hb.size)); clear hbx) | (go_at_call 30; (with_reducible refine (nilFlag _).mono ?_); rintro e w1 ⟨rfl, rfl⟩) | (go_at_call 23; (with_reducible refine (nilErr _).mono ?_); rintro e w1 ⟨rfl, rfl⟩) | (go_at_call 25; (with_reducible refine (nilEnd _).mono ?_); rintro e w1 ⟨rfl, rfl⟩) | (go_at_call 24; (with_reducible refine (nilRest _).mono ?_); rintro e w1 ⟨rfl, rfl⟩) | (go_at_call 11; (with_reducible refine (numOk _ _ (by omega)).mono ?_); rintro e w1 ⟨rfl, rfl⟩) | (go_at_call 12; (with_reducible refine (liveOk _).mono ?_); rintro e w1 ⟨rfl, hbx⟩; (first | replace hb := hb.trans (hbx.mono hb.size) | replace hb := hb.drew.trans (hbx.mono hb.size)); clear hbx))
      go_ret
      exact ⟨rfl, hb⟩

theorem octetReads_walk1 (s : ByteArray) (a : Option Addr) (len cap : Nat) (w : World) (hs : s.size ≤ 9223372036854775807) (hl : len ≤ 9223372036854775807) (h : 1000 < s.size ∨ 100 < len) :
    Calls Try.prog 6 #[.string s, .slice a len cap] w (Ret (.bool true) w) := by
  by_cases h1 : 1000 < s.size
  · go_enter Try.func6, Try.ntmps6
    go_wp2_with (go_at_call 12; (with_reducible refine (liveOk _).mono ?_); rintro e w3 ⟨rfl, hb3⟩)
    go_ret
    exact ⟨rfl, hb3⟩
  · have h2 : 100 < len := by omega
    clear h
    go_enter Try.func6, Try.ntmps6
    go_wp2_with (go_at_call 12; (with_reducible refine (liveOk _).mono ?_); rintro e w3 ⟨rfl, hb3⟩)
    go_ret
    exact ⟨rfl, hb3⟩

theorem octetReads_walk (s : ByteArray) (a : Option Addr) (len cap : Nat) (w : World) (w0 : s.size ≤ maxLen) (hr : RowRd w a len ∧ len ≤ maxLen) :
    Calls Try.prog 6 #[.string s, .slice a len cap] w (Ret (.bool true) w) := by
  by_cases h : 1000 < s.size ∨ 100 < len
  · exact octetReads_walk1 s a len cap w (len_max w0) (len_max hr.2) h
  · exact octetReads_walk0 s a len cap w (by omega) (by omega) hr.1
end Go.Proofs.Ytbkcnhnndaejiaa
