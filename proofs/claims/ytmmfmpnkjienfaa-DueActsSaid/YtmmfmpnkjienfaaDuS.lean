/-
  The document's set of timers: least, Next, without.
-/
import Derived.Test.YtmmfmpnkjienfaaDuR
import Derived.Deep.RegionHeld3
namespace Go.Proofs.Ytmmfmpnkjienfaa
open Go.RowKit
set_option linter.unusedVariables false

/-- the place of the first, or -1 -/
structure RetLeast (l : List Wh.E) (w : World) (e : Ending) (w' : World) : Prop where
  r : ∃ r : Int, e = .returned (.int .i64 r) ∧ ((r = -1 ∧ l = []) ∨ ∃ j : Nat, r = (j : Int) ∧ Wh.Least l j)
  b : Below w.heap.size w w'
set_option maxRecDepth 100000 in
set_option maxHeartbeats 4000000 in
theorem refLeastC (now : Int) (a : Option Addr) (cap : Nat) (l : List Wh.E) (w : World) (hl : l.length ≤ 1000000) (h : ViewD w a l) :
    Calls Try.prog 29 #[.agg #[.int .u64 now, .slice a l.length cap]] w (RetLeast l w) := by
  have KB := Lib.hid (fun a b c d e f W => beforeC a b c d e f W)
  have hbx : Below w.heap.size w (w.alloc (.cells #[.int .u64 now, .slice a l.length cap] 30)) := (Below.refl _ _).alloc (Nat.le_refl _) _
  have hq : (w.alloc (.cells #[.int .u64 now, .slice a l.length cap] 30)).cell? ⟨w.heap.size, 1, none⟩ = some (.slice a l.length cap) := World.cell?_alloc_at _ _ _ 1 rfl
  have hsz : w.heap.size < (w.alloc (.cells #[.int .u64 now, .slice a l.length cap] 30)).heap.size := alloc_lt _ _
  have HV := Lib.hid h; clear h
  go_enter Try.func29, Try.ntmps29
  go_wp2
  go_loopw [3, 4] (fun s3 s4 wr => ∃ (j : Nat) (kk : Int), j ≤ l.length ∧ s4 = .int .i64 (j : Int) ∧ s3 = .int .i64 kk ∧ wr.cell? ⟨w.heap.size, 1, none⟩ = some (.slice a l.length cap) ∧ Hid (w.heap.size < wr.heap.size ∧ Below w.heap.size w wr) ∧ Hid ((j = 0 ∧ kk = -1) ∨ ∃ p : Nat, p < j ∧ kk = (p : Int) ∧ ∃ hp : p < l.length, ∀ q (h : q < l.length), q < j → ¬ Wh.less l[q] l[p])) (fun _ s4 _ => l.length - (intOf s4).toNat)
  case atStart => exact ⟨0, -1, by omega, rfl, rfl, hq, Lib.hid ⟨hsz, hbx⟩, Lib.hid (Or.inl ⟨rfl, rfl⟩)⟩
  case round =>
    obtain ⟨j, kk, hj, rfl, rfl, c1, hb, hI⟩ := hrel
    clear hbx hq hsz
    by_cases hlt : j < l.length
    · by_cases hj0 : j = 0
      · have hkk : kk = -1 := by
          rcases hI.out with ⟨_, h⟩ | ⟨p, hp, _⟩
          · exact h
          · omega
        have hnext : Hid ((j + 1 = 0 ∧ (j : Int) = -1) ∨ ∃ p : Nat, p < j + 1 ∧ (j : Int) = (p : Int) ∧ ∃ hp : p < l.length, ∀ q (h : q < l.length), q < j + 1 → ¬ Wh.less l[q] l[p]) := Lib.hid (Or.inr ⟨j, by omega, rfl, hlt, fun q h h2 => by
          have : q = j := by omega
          subst this
          exact Wh.less_irr⟩)
        subst hkk hj0
        clear hI
        have hb2 := Lib.hid (show w.heap.size < wr.drew.heap.size ∧ Below w.heap.size w wr.drew from ⟨hb.out.1, hb.out.2.drew⟩)
        go_wp2
        go_quiet (fail)
        go_wp2
        go_roundw
        case rel => exact ⟨1, 0, by omega, by go_num, rfl, c1, Lib.hid ⟨hb.out.1, below_drewN hb.out.2 _⟩, hnext⟩
        case measure => simp [intOf]; omega
      · obtain ⟨p, hp, rfl, hpl, hall⟩ : ∃ p : Nat, p < j ∧ kk = (p : Int) ∧ ∃ hp : p < l.length, ∀ q (h : q < l.length), q < j → ¬ Wh.less l[q] l[p] := by
          rcases hI.out with ⟨h, _⟩ | h
          · exact absurd h hj0
          · exact h
        obtain ⟨g, rfl, hg, hc⟩ := HV.out.is (by omega)
        obtain ⟨c10, c11, c12⟩ := hc j hlt
        obtain ⟨c20, c21, c22⟩ := hc p hpl
        have hcell : ∀ {i : Nat} {v : Value}, w.cell? ⟨g, i, none⟩ = some v → wr.cell? ⟨g, i, none⟩ = some v := fun {i v} hx => (hb.out.2.cell (p := ⟨g, i, none⟩) hg).trans hx
        replace c10 := hcell c10
        replace c11 := hcell c11
        replace c12 := hcell c12
        replace c20 := hcell c20
        replace c21 := hcell c21
        replace c22 := hcell c22
        have hgw : g < wr.heap.size := Nat.lt_of_lt_of_le hg hb.out.2.size
        have hbf := befB_less l[j] l[p]
        have hyes : befB (Wh.kd l[j]) (Wh.nm l[j]) l[j].2 (Wh.kd l[p]) (Wh.nm l[p]) l[p].2 = true → Hid ((j + 1 = 0 ∧ (j : Int) = -1) ∨ ∃ p : Nat, p < j + 1 ∧ (j : Int) = (p : Int) ∧ ∃ hp : p < l.length, ∀ q (h : q < l.length), q < j + 1 → ¬ Wh.less l[q] l[p]) := fun hbt => Lib.hid (Or.inr ⟨j, by omega, rfl, hlt, fun q h h2 hlq => by
          have hjp := hbf.1 hbt
          by_cases e : q = j
          · subst e; exact Wh.less_irr hlq
          · exact hall q h (by omega) (Wh.less_trans hlq hjp)⟩)
        have hno : befB (Wh.kd l[j]) (Wh.nm l[j]) l[j].2 (Wh.kd l[p]) (Wh.nm l[p]) l[p].2 = false → Hid ((j + 1 = 0 ∧ (p : Int) = -1) ∨ ∃ p' : Nat, p' < j + 1 ∧ (p : Int) = (p' : Int) ∧ ∃ hp : p' < l.length, ∀ q (h : q < l.length), q < j + 1 → ¬ Wh.less l[q] l[p']) := fun hbt => Lib.hid (Or.inr ⟨p, by omega, rfl, hpl, fun q h h2 hlq => by
          by_cases e : q = j
          · subst e
            have := hbf.2 hlq
            rw [hbt] at this
            cases this
          · exact hall q h (by omega) hlq⟩)
        have HYES := Lib.hid hyes
        have HNO := Lib.hid hno
        have kb := fun W => KB.out (Wh.kd l[j]) (Wh.nm l[j]) l[j].2 (Wh.kd l[p]) (Wh.nm l[p]) l[p].2 W
        have HKB := Lib.hid kb
        clear hyes hno kb hbf hall hI hc hcell
        generalize befB (Wh.kd l[j]) (Wh.nm l[j]) l[j].2 (Wh.kd l[p]) (Wh.nm l[p]) l[p].2 = bb at *
        generalize Wh.kd l[j] = x0 at *
        generalize Wh.nm l[j] = x1 at *
        generalize l[j].2 = x2 at *
        generalize Wh.kd l[p] = y0 at *
        generalize Wh.nm l[p] = y1 at *
        generalize l[p].2 = y2 at *
        have hkeep : ∀ wA, Below wr.drew.heap.size wr.drew wA → wA.cell? ⟨w.heap.size, 1, none⟩ = some (.slice (some ⟨g, 0, none⟩) l.length cap) ∧ wA.cell? ⟨g, j * 3, none⟩ = some (.int .i64 x0) ∧ wA.cell? ⟨g, j * 3 + 1, none⟩ = some (.int .i64 x1) ∧ wA.cell? ⟨g, j * 3 + 2, none⟩ = some (.int .u64 x2) ∧ wA.cell? ⟨g, p * 3, none⟩ = some (.int .i64 y0) ∧ wA.cell? ⟨g, p * 3 + 1, none⟩ = some (.int .i64 y1) ∧ wA.cell? ⟨g, p * 3 + 2, none⟩ = some (.int .u64 y2) := fun wA h =>
          ⟨(h.cell (p := ⟨w.heap.size, _, none⟩) hb.out.1).trans c1, (h.cell (p := ⟨g, _, none⟩) hgw).trans c10, (h.cell (p := ⟨g, _, none⟩) hgw).trans c11, (h.cell (p := ⟨g, _, none⟩) hgw).trans c12, (h.cell (p := ⟨g, _, none⟩) hgw).trans c20, (h.cell (p := ⟨g, _, none⟩) hgw).trans c21, (h.cell (p := ⟨g, _, none⟩) hgw).trans c22⟩
        have HKEEP := Lib.hid hkeep
        clear hkeep hgw
        have t1 : decide ((p : Int) < 0) = false := decide_eq_false (by omega)
        go_upto_region 5 with fail
        go_region_held3 (fun w' => w'.cell? ⟨w.heap.size, 1, none⟩ = some (.slice (some ⟨g, 0, none⟩) l.length cap) ∧ w'.cell? ⟨g, j * 3, none⟩ = some (.int .i64 x0) ∧ w'.cell? ⟨g, j * 3 + 1, none⟩ = some (.int .i64 x1) ∧ w'.cell? ⟨g, j * 3 + 2, none⟩ = some (.int .u64 x2) ∧ w'.cell? ⟨g, p * 3, none⟩ = some (.int .i64 y0) ∧ w'.cell? ⟨g, p * 3 + 1, none⟩ = some (.int .i64 y1) ∧ w'.cell? ⟨g, p * 3 + 2, none⟩ = some (.int .u64 y2)) (first | go_keep | exact HKEEP.out _ hbA) (first | (go_at_call 42; (with_reducible refine (HKB.out _).mono ?_); rintro e wA ⟨rfl, hbA⟩))
        have c1A := (HKEEP.out _ hbA).1
        have hbN := Lib.hid (show w.heap.size < wA.heap.size ∧ Below w.heap.size w wA from ⟨Nat.lt_of_lt_of_le hb.out.1 hbA.size, hb.out.2.drew.trans (hbA.mono hb.out.2.drew.size)⟩)
        clear hbA HKEEP
        cases bb with
        | true =>
          have H := HYES.out rfl
          clear HYES HNO
          go_wp2
          go_roundw
          case rel => exact ⟨j + 1, (j : Int), by omega, by go_num, rfl, c1A, hbN, H⟩
          case measure => simp [intOf]; omega
        | false =>
          have H := HNO.out rfl
          clear HYES HNO
          go_wp2
          go_roundw
          case rel => exact ⟨j + 1, (p : Int), by omega, by go_num, rfl, c1A, hbN, H⟩
          case measure => simp [intOf]; omega
    · obtain rfl : j = l.length := by omega
      go_wp2
      go_ret
      refine ⟨⟨kk, rfl, ?_⟩, hb.out.2⟩
      rcases hI.out with ⟨h1, h2⟩ | ⟨p, hp, h1, h2, h3⟩
      · exact Or.inl ⟨h2, List.length_eq_zero_iff.1 h1⟩
      · exact Or.inr ⟨p, h1, h2, fun q hq => h3 q hq hq⟩
end Go.Proofs.Ytmmfmpnkjienfaa
