/-
  The law FlowLoads: its walk.
-/
import Derived.Test.YtgeoebodlcbebaaFbF
import Derived.Test.YtgeoebodlcbebaaFbG
import Derived.StillTailTactics
namespace Go.Proofs.Ytgeoebodlcbebaa
open Go.RowKit
open Rb (Nd)
set_option linter.unusedVariables false
set_option linter.unusedSimpArgs false

theorem refRightC (q : Int) (g : Bool) (a : Option Addr) (cap : Nat) (ds : List DR) (w : World) (h : RowsIn w a cap ds) (hl : ds.length ≤ 20) (hil : ∀ d ∈ ds, d.r.its.length ≤ 40) :
    Calls Try.prog 24 #[.int .i64 q, .slice a ds.length cap, .bool g] w (RetRi q g (ds.map DR.r) w) := by
  by_cases hq : 1 ≤ q ∧ q ≤ 64
  · by_cases hg : ds = [] → g = false
    · exact rightAt q g a cap ds w h.v h.d hl hil h.wf h.wi hq.1 hq.2 hg
    · have hn : ds = [] := Classical.byContradiction fun hc => hg (fun e => absurd e hc)
      have hg2 : g = true := by cases g; exact absurd (fun _ => rfl) hg; rfl
      subst hn hg2
      exact rightG q a cap w hq.1 hq.2
  · exact rightQ q g a cap ds w hq
set_option maxRecDepth 100000 in
theorem loads_many (q : Int) (a : Option Addr) (len cap : Nat) (g : Bool) (w : World) (hl : 20 < len) : Calls Try.prog 6 #[.int .i64 q, .slice a len cap, .bool g] w (Ret (.bool true) w) := by
  have KL := Lib.hid (fun W => liveOk W)
  go_enter Try.func6, Try.ntmps6
  go_wp2_with (go_at_call 8; (with_reducible refine (KL.out _).mono ?_); rintro e wB ⟨rfl, hB⟩)
  go_ret
  exact ⟨rfl, hB⟩
/-- what Load and Right tell of the rows -/
def TellL (w : World) (q : Int) (g : Bool) (a : Option Addr) (cap : Nat) (ds : List DR) : Prop := ∀ a' c' W, Below w.heap.size w W → eltR.View W a' ds →
  (Calls Try.prog 22 #[.int .i64 q, .slice a' ds.length c', .bool g] W (RetLo q g (ds.map DR.r) W)) ∧ (Calls Try.prog 24 #[.int .i64 q, .slice a ds.length cap, .bool g] W (RetRi q g (ds.map DR.r) W))
theorem tellL {w : World} {q : Int} {g : Bool} {a : Option Addr} {cap : Nat} {ds : List DR} (h : RowsIn w a cap ds) (hl : ds.length ≤ 20) (hil : ∀ d ∈ ds, d.r.its.length ≤ 40) : TellL w q g a cap ds := fun a' c' W hW hv =>
  ⟨flLoadC q g a' c' ds W hv (h.below hW).d (by omega) (fun d hd => by have := hil d hd; omega) h.wf h.wi, refRightC q g a cap ds W (h.below hW) hl hil⟩
set_option maxRecDepth 100000 in
set_option maxHeartbeats 16000000 in
theorem loads_at (q : Int) (a : Option Addr) (cap : Nat) (g : Bool) (ds : List DR) (w : World) (h : RowsIn w a cap ds) (hl : ds.length ≤ 20) : Calls Try.prog 6 #[.int .i64 q, .slice a ds.length cap, .bool g] w (Ret (.bool true) w) := by
  have KL := Lib.hid (fun W => liveOk W)
  have HR := Lib.hid h
  have KB := Lib.hid (backC a cap ds w (by omega) h.v)
  clear h
  go_enter Try.func6, Try.ntmps6
  go_wp2
  go_loop [7] (fun i => ∃ k : Nat, k ≤ ds.length ∧ i = .int .i64 (k : Int) ∧ Hid (∀ d ∈ ds.take k, d.r.its.length ≤ 40)) (fun i => ds.length - (intOf i).toNat)
  case atStart => exact ⟨0, by omega, rfl, Lib.hid (fun d hd => by simp at hd)⟩
  case round =>
    obtain ⟨k, hk, rfl, hst⟩ := hrel
    by_cases hlt : k < ds.length
    · obtain ⟨gR, off, rfl, hgR, hc⟩ := rows_at HR.out.v (by omega)
      obtain ⟨_, _, _, e3⟩ := hc k hlt
      have HTK := Lib.hid (take_snoc hlt)
      by_cases hi : 40 < ds[k].r.its.length
      · generalize ds[k].r.its.length = N at *
        clear hc HTK hst
        go_wp2_with (go_at_call 8; (with_reducible refine (KL.out _).mono ?_); rintro e wB ⟨rfl, hB⟩)
        go_ret
        exact ⟨rfl, hB⟩
      · have HN : Hid (∀ d ∈ ds.take (k + 1), d.r.its.length ≤ 40) := Lib.hid (fun d hd => by
          rw [HTK.out] at hd
          rcases List.mem_append.1 hd with e | e
          · exact hst.out d e
          · simp at e; subst e; omega)
        generalize ds[k].r.its.length = N at *
        clear hc HTK hst
        go_wp2
        go_round
        case rel => exact ⟨k + 1, by omega, by go_num, HN⟩
        case measure => simp [intOf]; omega
    · obtain rfl : k = ds.length := by omega
      have hil : ∀ d ∈ ds, d.r.its.length ≤ 40 := by have := hst.out; rw [List.take_length] at this; exact this
      have HT := Lib.hid (tellL (q := q) (g := g) HR.out hl hil)
      by_cases hr : Fl.Right q g (ds.map DR.r)
      · have KLO := Lib.hid (fun a' c' W (h1 : Below w.heap.size w W) (h2 : eltR.View W a' ds) => (HT.out a' c' W h1 h2).1.mono (R' := fun e w' => ∃ P, e = .returned (.tuple #[.pointer (some ⟨P, 0, none⟩), .bool true]) ∧ Hid (∃ F, FIs w' W.heap.size P ⟨q, ds.map DR.r, g⟩ F ∧ Below w.heap.size w w' ∧ w.heap.size ≤ W.heap.size)) fun e w' hx => by
          rcases hx.r with ⟨_, P, F, rfl, hf⟩ | ⟨hn, _⟩
          · exact ⟨P, rfl, Lib.hid ⟨F, hf, h1.trans (hx.b.mono h1.size), h1.size⟩⟩
          · exact absurd hr hn)
        have KRI := Lib.hid (fun W (h1 : Below w.heap.size w W) => (refRightC q g a cap ds W (HR.out.below h1) hl hil).mono (R' := fun e w' => e = .returned (.bool true) ∧ Hid (Below W.heap.size W w')) fun e w' hx => by
          rcases hx.r with ⟨_, rfl⟩ | ⟨hn, _⟩
          · exact ⟨rfl, Lib.hid hx.b⟩
          · exact absurd hr hn)
        have HOK : Hid (OkS 40 ⟨q, ds.map DR.r, g⟩) := Lib.hid (by
          obtain ⟨g1, g2⟩ := hr.good (fun r hr => by obtain ⟨d, hd, rfl⟩ := List.mem_map.1 hr; exact (wf_i64 (HR.out.wf d hd)).2)
          exact ⟨g1, g2, ⟨by simp; omega, fun r hr => by obtain ⟨d, hd, rfl⟩ := List.mem_map.1 hr; exact hil d hd⟩⟩)
        clear hst hil HT hr
        go_wp2_with (first | (go_at_call 23; (with_reducible refine KB.out.mono ?_); rintro e wA ⟨a', c', rfl, hA⟩; have HA := Lib.hid hA; clear hA) | (go_at_call 22; (with_reducible refine (KLO.out _ _ _ HA.out.2 HA.out.1).mono ?_); rintro e wB ⟨P, rfl, hB⟩; have HBW := Lib.hid hB.out.choose_spec.2.1) | (go_at_call 24; (with_reducible refine (KRI.out _ HBW.out).mono ?_); rintro e wC ⟨rfl, hC⟩))
        have HT0 : Hid (TwoR w P wC.heap.size ⟨q, ds.map DR.r, g⟩ ⟨q, ds.map DR.r, g⟩ [] (wC.alloc (refO q a ds.length cap g))) := Lib.hid (two_loaded (HBW.out.trans (hC.out.mono HBW.out.size)) HR.out hB.out.choose_spec.2.2 (hB.out.choose_spec.1.below hC.out))
        obtain ⟨V, hV⟩ : ∃ V, V = wC.heap.size := ⟨_, rfl⟩
        rw [← hV] at HT0
        have HVV := Lib.hid hV
        clear hV hB hC HBW HA KB KLO KRI
        rw [← HVV.out]
        go_loopg [11] 20 (fun gk i wr => ∃ (k : Nat) (s : Fl.St), k ≤ 20 ∧ gk = 20 - k ∧ i = .int .i64 (k : Int) ∧ Hid (TwoR w P V s s [] wr ∧ OkS (40 + k) s))
        case atStart => exact ⟨0, _, by omega, rfl, rfl, Lib.hid ⟨HT0.out, HOK.out⟩⟩
        case round =>
          obtain ⟨k, s, hk, rfl, rfl, hst⟩ := hrel
          clear HT0 HOK
          by_cases hlt : k < 20
          · obtain ⟨ar, cr, es, hr⟩ := hst.out.1.ref
            obtain ⟨c0, c1, c2⟩ := hr.cs
            have w0 : (Lit.int .i64 0).wf = true := by decide
            have KS := Lib.hid ((sameC ar cr es wr hst.out.1 hst.out.2 (by omega) hr).mono (R' := fun e w' => e = .returned (.bool true) ∧ Hid (TwoR w P V s s [] w')) fun e w' hx => ⟨hx.e, Lib.hid (hst.out.1.below hx.b)⟩)
            have KD := Lib.hid (fun W (hW : TwoR w P V s s [] W) => doesC ⟨1, 0, 0, 0, 0⟩ W hW hst.out.2 (by omega) w0 w0)
            have HKA := Lib.hid (hst.out.2.act ⟨1, 0, 0, 0, 0⟩ w0 w0)
            generalize s.act ⟨1, 0, 0, 0, 0⟩ = s' at *
            dsimp only at KD
            generalize s.q = sq at *
            generalize s.g = sg at *
            generalize es.length = EN at *
            clear hst hr w0
            go_wp2_with (first | (go_at_call 10; (with_reducible refine KS.out.mono ?_); rintro e wS ⟨rfl, hS⟩) | (go_at_call 9; (with_reducible refine (KD.out _ hS.out).mono ?_); rintro e wD ⟨rfl, hD⟩; have HE := Lib.hid (And.intro hD HKA.out); clear hD))
            go_roundg (20 - (k + 1))
            case rel => exact ⟨k + 1, s', by omega, rfl, by go_num, HE⟩
            case measure => omega
          · obtain rfl : k = 20 := by omega
            have HE := Lib.hid hst.out.1.b
            clear hst
            go_wp2_with (go_at_call 8; (with_reducible refine (KL.out _).mono ?_); rintro e wL ⟨rfl, hL⟩)
            go_ret
            exact ⟨rfl, HE.out.trans (hL.mono HE.out.size)⟩
      · have KLO := Lib.hid (fun a' c' W (h1 : Below w.heap.size w W) (h2 : eltR.View W a' ds) => (HT.out a' c' W h1 h2).1.mono (R' := fun e w' => e = .returned (.tuple #[.pointer none, .bool false]) ∧ Hid (Below w.heap.size w w')) fun e w' hx => by
          rcases hx.r with ⟨hy, _⟩ | ⟨_, rfl⟩
          · exact absurd hy hr
          · exact ⟨rfl, Lib.hid (h1.trans (hx.b.mono h1.size))⟩)
        have KRI := Lib.hid (fun W (h1 : Below w.heap.size w W) => (refRightC q g a cap ds W (HR.out.below h1) hl hil).mono (R' := fun e w' => e = .returned (.bool false) ∧ Hid (Below w.heap.size w w')) fun e w' hx => by
          rcases hx.r with ⟨hy, _⟩ | ⟨_, rfl⟩
          · exact absurd hy hr
          · exact ⟨rfl, Lib.hid (h1.trans (hx.b.mono h1.size))⟩)
        clear hst hil HT hr
        go_wp2_with (first | (go_at_call 23; (with_reducible refine KB.out.mono ?_); rintro e wA ⟨a', c', rfl, hA⟩; have HA := Lib.hid hA; clear hA) | (go_at_call 22; (with_reducible refine (KLO.out _ _ _ HA.out.2 HA.out.1).mono ?_); rintro e wB ⟨rfl, hB⟩) | (go_at_call 24; (with_reducible refine (KRI.out _ hB.out).mono ?_); rintro e wC ⟨rfl, hC⟩) | (go_at_call 8; (with_reducible refine (KL.out _).mono ?_); rintro e wL ⟨rfl, hL⟩))
        go_ret
        exact ⟨rfl, hC.out.trans (hL.mono hC.out.size)⟩
theorem flowLoads_walk (q : Int) (a : Option Addr) (len cap : Nat) (g : Bool) (w : World) (_ : (Lit.int .i64 q).wf = true) (h : ∃ ds : List DR, len = ds.length ∧ RowsIn w a cap ds) : Calls Try.prog 6 #[.int .i64 q, .slice a len cap, .bool g] w (Ret (.bool true) w) := by
  obtain ⟨ds, rfl, hr⟩ := h
  by_cases h1 : 20 < ds.length
  · exact loads_many q a _ cap g w h1
  · exact loads_at q a cap g ds w hr (by omega)
end Go.Proofs.Ytgeoebodlcbebaa
