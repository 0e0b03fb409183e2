/-
  The chapter's example, by the wheel's contracts.
-/
import Derived.Test.YtmglpjbikknjgaaWhL
namespace Go.Proofs.Ytmglpjbikknjgaa
open Go.RowKit
set_option linter.unusedVariables false

/-- a wheel alone -/
structure Solo (Is : WS) (w0 : World) (B P : Nat) (n : Int) (l : List Wh.E) (w : World) : Prop where
  s : ∃ F, Is w B P n l F
  b : Below B w0 w
  z : B ≤ w.heap.size
theorem Solo.below {Is : WS} (K : WheelC Is) {w0 : World} {B P : Nat} {n : Int} {l : List Wh.E} {w w' : World} (h : Solo Is w0 B P n l w) (hb : Below w.heap.size w w') : Solo Is w0 B P n l w' := by
  obtain ⟨F, h1⟩ := h.s
  exact ⟨⟨F, K.keep h1 hb.size (fun k hk => hb.block k (K.lt h1 k hk).2)⟩, h.b.trans (hb.mono h.z), Nat.le_trans h.z hb.size⟩
theorem solo_do {Is : WS} (K : WheelC Is) {w0 : World} {B P : Nat} {n n' : Int} {l l' : List Wh.E} {f : FuncId} {args : Array Value} {r : Value}
    (hc : ∀ w F, Is w B P n l F → Calls Try.prog f args w (RetW Is r B P n' l' F w)) (w : World) (h : Solo Is w0 B P n l w) : Calls Try.prog f args w fun e w' => e = .returned r ∧ Solo Is w0 B P n' l' w' := by
  obtain ⟨F, h1⟩ := h.s
  refine (hc w F h1).mono fun e w' hr => ?_
  obtain ⟨F', g1, g2⟩ := hr.s
  exact ⟨hr.r, ⟨F', g1⟩, h.b.trans (hr.c.below (fun k hk => (K.lt h1 k hk).1) h.z), Nat.le_trans h.z hr.c.size⟩
theorem solo_turn {Is : WS} (K : WheelC Is) {w0 : World} {B P : Nat} {n : Int} {l : List Wh.E} (tm : Int) (ht : (Lit.int .u64 tm).wf = true) (hn : (l.map (·.1)).Nodup) (hl : l.length ≤ 1000) (w : World) (h : Solo Is w0 B P n l w) :
    Calls Try.prog 14 #[.pointer (some ⟨P, 0, none⟩), .int .u64 tm] w fun e w' => (∃ a cap, e = .returned (.slice a (Wh.turned l tm).length cap) ∧ ViewO w' a (Wh.turned l tm)) ∧ Solo Is w0 B P (later n tm) (Wh.rest l tm) w' := by
  obtain ⟨F, h1⟩ := h.s
  refine (K.turn tm w B P n l F ht hn hl h1).mono fun e w' hr => ?_
  obtain ⟨F', g1, g2⟩ := hr.s
  obtain ⟨a, cap, e1, e2, _⟩ := hr.r
  exact ⟨⟨a, cap, e1, e2⟩, ⟨F', g1⟩, h.b.trans (hr.c.below (fun k hk => (K.lt h1 k hk).1) h.z), Nat.le_trans h.z hr.c.size⟩
theorem solo_new {Is : WS} (K : WheelC Is) (w0 : World) (now : Int) (hw : (Lit.int .u64 now).wf = true) (w : World) (hb : Below w0.heap.size w0 w) : Calls Try.prog 7 #[.int .u64 now] w fun e w' => ∃ P, e = .returned (.pointer (some ⟨P, 0, none⟩)) ∧ Solo Is w0 w0.heap.size P now [] w' := by
  refine (K.new now w w0.heap.size hw hb.size).mono fun e w' hr => ?_
  obtain ⟨P, F, e1, e2, e3, e4⟩ := hr
  exact ⟨P, e1, ⟨F, e2⟩, hb.trans (e3.mono hb.size), Nat.le_trans hb.size e3.size⟩

theorem live_turned : Wh.turned [(3, 20), (1, 20), (2, 5)] 20 = [(2, 5), (1, 20), (3, 20)] := by decide
theorem live_rest : Wh.rest [(3, 20), (1, 20), (2, 5)] 20 = [] := by decide
theorem live_later : later 0 20 = 20 := by decide
theorem live_1 : Wh.putErr [] 3 = 0 ∧ Wh.putL [] 3 20 = [(3, 20)] := by decide
theorem live_2 : Wh.putErr [(3, 20)] 1 = 0 ∧ Wh.putL [(3, 20)] 1 20 = [(3, 20), (1, 20)] := by decide
theorem live_3 : Wh.putErr [(3, 20), (1, 20)] 2 = 0 ∧ Wh.putL [(3, 20), (1, 20)] 2 5 = [(3, 20), (1, 20), (2, 5)] := by decide
theorem solo_put {Is : WS} (K : WheelC Is) {w0 : World} {B P : Nat} {n : Int} {l l' : List Wh.E} {id a r : Int} (h1 : (Lit.int .i64 id).wf = true) (h2 : (Lit.int .u64 a).wf = true) (hn : (l.map (·.1)).Nodup) (hl : l.length ≤ 1000) (he : Wh.putErr l id = r ∧ Wh.putL l id a = l') (w : World) (h : Solo Is w0 B P n l w) :
    Calls Try.prog 9 #[.pointer (some ⟨P, 0, none⟩), .int .i64 id, .int .u64 a] w fun e w' => e = .returned (.int .i64 r) ∧ Solo Is w0 B P n l' w' := by
  have := solo_do K (w0 := w0) (fun w F h => K.put id a w B P n l F h1 h2 hn hl h) w h
  rwa [he.1, he.2] at this

set_option maxRecDepth 100000 in
set_option maxHeartbeats 8000000 in
theorem liveOk {Is : WS} (K : WheelC Is) (w : World) : Calls Try.prog 6 #[] w (Ret (.bool true) w) := by
  have K0 := Lib.hid (fun W hb => solo_new K w 0 (by decide) W hb)
  have K1 := Lib.hid (fun P W h => solo_put K (w0 := w) (B := w.heap.size) (P := P) (n := 0) (l := []) (id := 3) (a := 20) (by decide) (by decide) (by decide) (by decide) live_1 W h)
  have K2 := Lib.hid (fun P W h => solo_put K (w0 := w) (B := w.heap.size) (P := P) (n := 0) (l := [(3, 20)]) (id := 1) (a := 20) (by decide) (by decide) (by decide) (by decide) live_2 W h)
  have K3 := Lib.hid (fun P W h => solo_put K (w0 := w) (B := w.heap.size) (P := P) (n := 0) (l := [(3, 20), (1, 20)]) (id := 2) (a := 5) (by decide) (by decide) (by decide) (by decide) live_3 W h)
  have k4 := fun P W (h : Solo Is w w.heap.size P 0 [(3, 20), (1, 20), (2, 5)] W) => solo_turn K 20 (by decide) (by decide) (by decide) W h
  rw [live_turned, live_rest, live_later] at k4
  have K4 := Lib.hid k4; clear k4
  have K5 := Lib.hid (fun P W h => solo_do K (fun w' F h => K.tick w' w.heap.size P 20 [] F (by decide) (by decide) h) (w0 := w) W h)
  have K6 := Lib.hid numC
  go_enter Try.func6, Try.ntmps6
  go_upto_region 4 with (first | (go_at_call 7; (with_reducible refine (K0.out _ (Below.refl _ _)).mono ?_); rintro e wA ⟨P, rfl, hV⟩) | (go_at_call 9; (first | (with_reducible refine (K1.out _ _ hV).mono ?_) | (with_reducible refine (K2.out _ _ hV).mono ?_) | (with_reducible refine (K3.out _ _ hV).mono ?_)); rintro e wA ⟨rfl, hT⟩; replace hV := hT; clear hT) | (go_at_call 14; (with_reducible refine (K4.out _ _ hV).mono ?_); rintro e wA ⟨⟨a, cap, rfl, hvw⟩, hT⟩; replace hV := hT; clear hT; obtain ⟨g, off, rfl, hg, hc⟩ := hvw.is (by decide); have d0 := (hc 0 (by decide)).2.1; have d1 := (hc 1 (by decide)).2.1; have d2 := (hc 2 (by decide)).2.1; clear hc; simp at d0 d1 d2) | (go_at_call 8; (with_reducible refine (K6.out _ _).mono ?_); rintro e wA ⟨rfl, rfl⟩) | (go_at_call 19; (with_reducible refine (K5.out _ _ hV).mono ?_); rintro e wA ⟨rfl, hT⟩; replace hV := hT; clear hT))
  clear hvw K0 K1 K2 K3 K4
  have HV := Lib.hid hV; clear hV
  go_wp2_with (first | (go_at_call 8; (with_reducible refine (K6.out _ _).mono ?_); rintro e wA ⟨rfl, rfl⟩) | (go_at_call 19; (with_reducible refine (K5.out _ _ HV.out).mono ?_); rintro e wA ⟨rfl, hT⟩; replace HV := Lib.hid hT; clear hT))
  go_ret
  exact ⟨rfl, HV.out.b⟩
end Go.Proofs.Ytmglpjbikknjgaa
