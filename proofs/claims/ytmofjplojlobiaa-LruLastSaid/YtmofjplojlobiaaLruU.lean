/-
  Two rows of strings compared; a table alone; the chapter's example.
-/
import Derived.Test.YtmofjplojlobiaaLruT
namespace Go.Proofs.Ytmofjplojlobiaa
open Go.RowKit
set_option linter.unusedVariables false

theorem strs_at {w : World} {a : Option Addr} {l : List ByteArray} (h : eltS.Flat w a l) (h0 : 0 < l.length) : ∃ g, a = some ⟨g, 0, none⟩ ∧ g < w.heap.size ∧ ∀ j (hj : j < l.length), w.cell? ⟨g, j, none⟩ = some (.string l[j]) := by
  obtain ⟨g, ha, hg, hc⟩ := h.is h0
  refine ⟨g, ha, hg, fun j hj => ?_⟩
  have := hc j hj 0 _ rfl
  simpa [eltS] using this
set_option maxRecDepth 100000 in
set_option maxHeartbeats 1000000 in
theorem textsC (a b : Option Addr) (ca cb : Nat) (l : List ByteArray) (w : World) (hl : l.length ≤ 1000000) (ha : eltS.Flat w a l) (hb : eltS.Flat w b l) :
    Calls Try.prog 9 #[.slice a l.length ca, .slice b l.length cb] w (Ret (.bool true) w) := by
  have HA := Lib.hid ha
  have HB := Lib.hid hb
  clear ha hb
  go_enter Try.func9, Try.ntmps9
  go_wp2
  go_loopw [5] (fun s wr => ∃ j : Nat, j ≤ l.length ∧ s = .int .i64 (j : Int) ∧ Hid (Below w.heap.size w wr)) (fun s _ => l.length - (intOf s).toNat)
  case atStart => exact ⟨0, by omega, rfl, Lib.hid (Below.refl _ _)⟩
  case round =>
    obtain ⟨j, hj, rfl, hn⟩ := hrel
    by_cases hlt : j < l.length
    · obtain ⟨g, rfl, hg, hc⟩ := strs_at HA.out (by omega)
      obtain ⟨g2, rfl, hg2, hc2⟩ := strs_at HB.out (by omega)
      have d0 := (hn.out.cell (p := ⟨g, j, none⟩) hg).trans (hc j hlt)
      have d1 := (hn.out.cell (p := ⟨g2, j, none⟩) hg2).trans (hc2 j hlt)
      clear hc hc2
      generalize l[j] = x at *
      have t1 := eq_yesS x
      have HD := Lib.hid (fun q => below_drewN hn.out q)
      go_wp2
      go_quiet (fail)
      go_wp2
      go_roundw
      case rel => exact ⟨j + 1, by omega, by go_num, Lib.hid (HD.out _)⟩
      case measure => simp [intOf]; omega
    · obtain rfl : j = l.length := by omega
      go_wp2
      go_ret
      exact ⟨rfl, hn.out⟩

/-- a table alone -/
structure Solo (w0 : World) (B P : Nat) (room : Int) (l : List Lr.E) (w : World) : Prop where
  s : ∃ F, TIs w B P room l F
  b : Below B w0 w
  z : B ≤ w.heap.size
theorem Solo.below {w0 : World} {B P : Nat} {room : Int} {l : List Lr.E} {w w' : World} (h : Solo w0 B P room l w) (hb : Below w.heap.size w w') : Solo w0 B P room l w' := by
  obtain ⟨F, h1⟩ := h.s
  exact ⟨⟨F, h1.keep (fun k hk => hb.block k (h1.lt k hk).2)⟩, h.b.trans (hb.mono h.z), Nat.le_trans h.z hb.size⟩
theorem Solo.did {w0 : World} {B P : Nat} {room : Int} {l l' : List Lr.E} {r : Value} {F : Nat → Prop} {w w' : World} {e : Ending} (h : Solo w0 B P room l w) (h1 : TIs w B P room l F) (hr : RetT r B P room l' F w e w') : e = .returned r ∧ Solo w0 B P room l' w' := by
  obtain ⟨F', g1, g2⟩ := hr.s
  exact ⟨hr.r, ⟨F', g1⟩, h.b.trans (hr.c.below (fun k hk => (h1.lt k hk).1) h.z), Nat.le_trans h.z hr.c.size⟩
theorem solo_new (room : Int) (hr : ¬ room < 1) (w0 w : World) (hb : Below w0.heap.size w0 w) : Calls Try.prog 6 #[.int .i64 room] w fun e w' => ∃ P, e = .returned (.pointer (some ⟨P, 0, none⟩)) ∧ Solo w0 w0.heap.size P room [] w' := by
  refine (newC room w hr).mono fun e w' h => ?_
  obtain ⟨P, F, rfl, h1, h2⟩ := h
  obtain ⟨m, r, ns, g1, g2, g3, g4⟩ := h1
  exact ⟨P, rfl, ⟨F, m, r, ns, g1, g2, g3, fun k hk => Nat.le_trans hb.size (g4 k hk)⟩, hb.trans (h2.mono hb.size), Nat.le_trans hb.size h2.size⟩
theorem solo_put {w0 : World} {B P : Nat} {room : Int} {l : List Lr.E} (key : ByteArray) (v : Int) (w : World) (hk : key.size ≤ 140737488351232) (hl : l.length ≤ 1000000) (hr : (l.length : Int) ≤ room) (h : Solo w0 B P room l w) :
    Calls Try.prog 13 #[.pointer (some ⟨P, 0, none⟩), .string key, .int .i64 v] w fun e w' => e = .returned (goneV (Lr.put room l key v).2) ∧ Solo w0 B P room (Lr.put room l key v).1 w' := by
  obtain ⟨F, h1⟩ := h.s
  exact (putC B P room l F key v w h1 hk hl hr h.z).mono fun e w' hr => h.did h1 hr
theorem solo_get {w0 : World} {B P : Nat} {room : Int} {l : List Lr.E} (key : ByteArray) (w : World) (hk : key.size ≤ 140737488351232) (h : Solo w0 B P room l w) :
    Calls Try.prog 14 #[.pointer (some ⟨P, 0, none⟩), .string key] w fun e w' => e = .returned (gotV (Lr.find l key)) ∧ Solo w0 B P room (Lr.get l key) w' := by
  obtain ⟨F, h1⟩ := h.s
  exact (getC B P room l F key w h1 hk).mono fun e w' hr => h.did h1 hr
theorem solo_peek {w0 : World} {B P : Nat} {room : Int} {l : List Lr.E} (key : ByteArray) (w : World) (hk : key.size ≤ 140737488351232) (h : Solo w0 B P room l w) :
    Calls Try.prog 15 #[.pointer (some ⟨P, 0, none⟩), .string key] w (Same (gotV (Lr.find l key)) w) := by
  obtain ⟨F, h1⟩ := h.s
  exact peekC B P room l F key w h1 hk
/-- the keys: a row of one's own -/
theorem solo_keys {w0 : World} {B P : Nat} {room : Int} {l : List Lr.E} (w : World) (hl : l.length ≤ 1000000) (h : Solo w0 B P room l w) :
    Calls Try.prog 10 #[.pointer (some ⟨P, 0, none⟩)] w fun e w' => ∃ a cap, e = .returned (.slice a (Lr.keys l).length cap) ∧ Hid (eltS.Flat w' a (Lr.keys l) ∧ Below w.heap.size w w' ∧ Solo w0 B P room l w') := by
  obtain ⟨F, h1⟩ := h.s
  refine (keysC B P room l F w h1 hl).mono fun e w' hr => ?_
  obtain ⟨v, rfl, h2⟩ := hr.r
  obtain ⟨a, cap, rfl, hf⟩ := h2.flat
  exact ⟨a, cap, rfl, Lib.hid ⟨hf, hr.b, h.below hr.b⟩⟩

theorem live_1 : Lr.put 2 [] ⟨#[97]⟩ 1 = ([(⟨#[97]⟩, 1)], none) := by decide
theorem live_2 : Lr.put 2 [(⟨#[97]⟩, 1)] ⟨#[98]⟩ 2 = ([(⟨#[98]⟩, 2), (⟨#[97]⟩, 1)], none) := by decide
theorem live_3 : Lr.get [(⟨#[98]⟩, 2), (⟨#[97]⟩, 1)] ⟨#[97]⟩ = [(⟨#[97]⟩, 1), (⟨#[98]⟩, 2)] ∧ Lr.find [(⟨#[98]⟩, 2), (⟨#[97]⟩, 1)] ⟨#[97]⟩ = some 1 := by decide
theorem live_4 : Lr.put 2 [(⟨#[97]⟩, 1), (⟨#[98]⟩, 2)] ⟨#[99]⟩ 3 = ([(⟨#[99]⟩, 3), (⟨#[97]⟩, 1)], some ⟨#[98]⟩) := by decide
theorem live_texts {w : World} {a : Option Addr} {cap : Nat} (h : eltS.Flat w a (Lr.keys [(⟨#[99]⟩, 3), (⟨#[97]⟩, 1)])) :
    Calls Try.prog 9 #[.slice a (Lr.keys [(⟨#[99]⟩, 3), (⟨#[97]⟩, 1)]).length cap, .slice (some ⟨w.heap.size, 0, none⟩) 2 2] (w.alloc (.cells #[.string ⟨#[99]⟩, .string ⟨#[97]⟩] 9)) (Ret (.bool true) (w.alloc (.cells #[.string ⟨#[99]⟩, .string ⟨#[97]⟩] 9))) := by
  have hm := Elt.Row.made (E := eltS) w w.heap.size (Nat.le_refl _) (Lr.keys [(⟨#[99]⟩, 3), (⟨#[97]⟩, 1)]) (by decide) #[.string ⟨#[99]⟩, .string ⟨#[97]⟩] 2 rfl rfl
  obtain ⟨a', c', e, hf⟩ := hm.flat
  cases e
  exact textsC a _ cap 2 (Lr.keys [(⟨#[99]⟩, 3), (⟨#[97]⟩, 1)]) _ (by decide) (h.below ((Below.refl _ _).alloc (Nat.le_refl _) _)) hf
set_option maxRecDepth 100000 in
set_option maxHeartbeats 8000000 in
theorem liveOk (w : World) : Calls Try.prog 7 #[] w (Ret (.bool true) w) := by
  have K0 := Lib.hid (fun W hb => solo_new 2 (by decide) w W hb)
  have K1 := Lib.hid (fun P W (h : Solo w w.heap.size P 2 [] W) => by
    have := solo_put ⟨#[97]⟩ 1 W (by decide) (by decide) (by decide) h
    rw [live_1] at this
    exact this)
  have K2 := Lib.hid (fun P W (h : Solo w w.heap.size P 2 [(⟨#[97]⟩, 1)] W) => by
    have := solo_put ⟨#[98]⟩ 2 W (by decide) (by decide) (by decide) h
    rw [live_2] at this
    exact this)
  have K3 := Lib.hid (fun P W (h : Solo w w.heap.size P 2 [(⟨#[98]⟩, 2), (⟨#[97]⟩, 1)] W) => by
    have := solo_get ⟨#[97]⟩ W (by decide) h
    rw [live_3.1, live_3.2] at this
    exact this)
  have K4 := Lib.hid (fun P W (h : Solo w w.heap.size P 2 [(⟨#[97]⟩, 1), (⟨#[98]⟩, 2)] W) => by
    have := solo_put ⟨#[99]⟩ 3 W (by decide) (by decide) (by decide) h
    rw [live_4] at this
    exact this)
  have K5 := Lib.hid (fun P W (h : Solo w w.heap.size P 2 [(⟨#[99]⟩, 3), (⟨#[97]⟩, 1)] W) => solo_keys W (by decide) h)
  unfold goneV at K1 K2 K4
  unfold gotV at K3
  go_enter Try.func7, Try.ntmps7
  go_wp2_with (first | (go_at_call 6; (with_reducible refine (K0.out _ (Below.refl _ _)).mono ?_); rintro e wA ⟨P, rfl, hT⟩; have HV := Lib.hid hT; clear hT) | (go_at_call 13; (first | (with_reducible refine (K1.out _ _ HV.out).mono ?_) | (with_reducible refine (K2.out _ _ HV.out).mono ?_) | (with_reducible refine (K4.out _ _ HV.out).mono ?_)); rintro e wA ⟨rfl, hT⟩; replace HV := Lib.hid hT; clear hT) | (go_at_call 14; (with_reducible refine (K3.out _ _ HV.out).mono ?_); rintro e wA ⟨rfl, hT⟩; replace HV := Lib.hid hT; clear hT) | (go_at_call 10; (with_reducible refine (K5.out _ _ HV.out).mono ?_); rintro e wA ⟨a, cap, rfl, hT⟩; have HTX := Lib.hid (live_texts (cap := cap) hT.out.1); have HB := Lib.hid hT.out.2.2.b; clear hT HV) | (go_at_call 9; (with_reducible refine HTX.out.mono ?_); rintro e wB ⟨rfl, hbB⟩))
  go_ret
  exact ⟨rfl, (HB.out.alloc HB.out.size _).trans (hbB.mono (by have := HB.out.size; simp; omega))⟩
end Go.Proofs.Ytmofjplojlobiaa
