/-
  The set's Go and New.
-/
import Derived.Test.YtmmfmpnkjienfaaDuL
namespace Go.Proofs.Ytmmfmpnkjienfaa
open Go.RowKit
set_option linter.unusedVariables false

/-- Next, as the set's own -/
theorem DIs.next {w : World} {B D : Nat} {now : Int} {l : List Wh.E} {G : Nat → Prop} (hl : l.length ≤ 1000) (h : DIs w B D now l G) :
    Calls Try.prog 11 #[.pointer (some ⟨D, 0, none⟩)] w fun e w' => e = .returned (atV (Wh.nextR l)) ∧ ∃ P F a cap, DQ w G B D now l (Wh.turned l now) P F a cap w' := by
  refine (dNextC w B D now l G hl h).mono fun e w' hr => ?_
  obtain ⟨F', ⟨P2, F2, a2, cap2, h2, rfl⟩, hs⟩ := hr.s
  exact ⟨hr.r, P2, F2, a2, cap2, h2, hs, hr.c⟩
set_option maxRecDepth 100000 in
set_option maxHeartbeats 2000000 in
theorem goNo (to_ : Int) (w : World) (B D : Nat) (now : Int) (l : List Wh.E) (x : Wh.E) (G : Nat → Prop) (hl : l.length ≤ 900) (h : DIs w B D now l G) (hf : Wh.firstOf l = some x) (hx : x.2 ≤ to_) :
    Calls Try.prog 17 #[.pointer (some ⟨D, 0, none⟩), .int .u64 to_] w (RetW DIs (.bool false) B D now l G w) := by
  have hnl : l.Nodup := by
    obtain ⟨P, F, a, cap, h, _⟩ := h
    exact Wh.nodup_of h.nd
  have kn := DIs.next (by omega) h
  rw [Wh.nextR_first hnl, hf, show atV (Option.map (fun x => x.2) (some x)) = .tuple #[.int .u64 x.2, .bool true] from rfl] at kn
  have KN := Lib.hid kn
  have t1 : decide (x.2 ≤ to_) = true := decide_eq_true hx
  clear kn h hf hnl hx
  generalize x.2 = y at *
  go_enter Try.func17, Try.ntmps17
  go_wp2_with (go_at_call 11; (with_reducible refine KN.out.mono ?_); rintro e w2 ⟨rfl, P, F, a, cap, hq⟩; have HQ := Lib.hid hq; clear hq)
  go_ret
  exact HQ.out.ret rfl
set_option maxRecDepth 100000 in
set_option maxHeartbeats 2000000 in
theorem goYes (to_ : Int) (w : World) (B D : Nat) (now : Int) (l : List Wh.E) (G : Nat → Prop) (hl : l.length ≤ 900) (ht : (Lit.int .u64 to_).wf = true) (h : DIs w B D now l G) (hn : ∀ e, Wh.firstOf l = some e → to_ < e.2) :
    Calls Try.prog 17 #[.pointer (some ⟨D, 0, none⟩), .int .u64 to_] w (RetW DIs (.bool true) B D (later now to_) l G w) := by
  have hnl : l.Nodup := by
    obtain ⟨P, F, a, cap, h, _⟩ := h
    exact Wh.nodup_of h.nd
  have hall : ∀ e ∈ l, to_ < e.2 := by
    intro e he
    cases hf : Wh.firstOf l with
    | none => rw [Wh.firstOf_none hf] at he; cases he
    | some x =>
      have h1 := hn x hf
      have h2 := (Wh.firstOf_is hnl hf).2 e he
      unfold Wh.less at h2
      omega
  have hr0 : Wh.rest l to_ = l := Wh.rest_all hall
  have ht0 : Wh.turned l to_ = [] := Wh.turned_none hall
  have htl : Wh.turned l (later now to_) = Wh.turned l now := by
    unfold later
    split
    · rw [ht0, Wh.turned_none (fun e he => by have := hall e he; omega)]
    · rfl
  have kn := DIs.next (by omega) h
  rw [Wh.nextR_first hnl] at kn
  have hturn : ∀ w2, (∃ P F a cap, DQ w G B D now l (Wh.turned l now) P F a cap w2) → ∃ P, w2.cell? ⟨D, 0, none⟩ = some (.pointer (some ⟨P, 0, none⟩)) ∧
      Calls Try.prog 37 #[.pointer (some ⟨P, 0, none⟩), .int .u64 to_] w2 fun e w3 => ∃ a cap, e = .returned (.slice a 0 cap) ∧ Hid (RetW DIs (.bool true) B D (later now to_) l G w (.returned (.bool true)) w3) := by
    rintro w2 ⟨P, F, a, cap, hq⟩
    refine ⟨P, hq.at_.ptr, ?_⟩
    have kt := turnC to_ w2 B P now l F ht hq.at_.nd (by omega) hq.at_.wh
    refine kt.mono fun e w3 hw => ?_
    obtain ⟨F1, a1, cap1, g1, g2, rfl, g4, g5⟩ := hw.x
    rw [hr0] at g1
    have h1 := hq.wheel g1 g2 hw.c hq.at_.nd hq.at_.good
    rw [← htl] at h1
    refine ⟨a1, cap1, by rw [ht0]; rfl, Lib.hid (h1.ret rfl)⟩
  have HT := Lib.hid hturn
  cases hf : Wh.firstOf l with
  | none =>
    rw [hf, show atV (Option.map (fun x => x.2) (none : Option Wh.E)) = .tuple #[.int .u64 0, .bool false] from rfl] at kn
    have KN := Lib.hid kn
    clear kn h hf hnl hn hall hr0 ht0 htl hturn
    go_enter Try.func17, Try.ntmps17
    go_wp2_with (first | (go_at_call 11; (with_reducible refine KN.out.mono ?_); rintro e w2 ⟨rfl, hq⟩; obtain ⟨P, c0, kt⟩ := HT.out _ hq; have KT := Lib.hid kt; clear kt hq) | (go_at_call 37; (with_reducible refine KT.out.mono ?_); rintro e w3 ⟨a3, cap3, rfl, hW⟩))
    go_ret
    exact hW.out
  | some x =>
    have hx := hn x hf
    rw [hf, show atV (Option.map (fun x => x.2) (some x)) = .tuple #[.int .u64 x.2, .bool true] from rfl] at kn
    have KN := Lib.hid kn
    have t1 : decide (x.2 ≤ to_) = false := decide_eq_false (by omega)
    clear kn h hf hnl hn hall hr0 ht0 htl hturn hx
    generalize x.2 = y at *
    go_enter Try.func17, Try.ntmps17
    go_wp2_with (first | (go_at_call 11; (with_reducible refine KN.out.mono ?_); rintro e w2 ⟨rfl, hq⟩; obtain ⟨P, c0, kt⟩ := HT.out _ hq; have KT := Lib.hid kt; clear kt hq) | (go_at_call 37; (with_reducible refine KT.out.mono ?_); rintro e w3 ⟨a3, cap3, rfl, hW⟩))
    go_ret
    exact hW.out

/-- New -/
structure RetNewD (B : Nat) (now : Int) (w : World) (e : Ending) (w' : World) : Prop where
  r : ∃ D G, e = .returned (.pointer (some ⟨D, 0, none⟩)) ∧ DIs w' B D now [] G ∧ ∀ k, G k → w.heap.size ≤ k
  b : Below w.heap.size w w'
set_option maxRecDepth 100000 in
set_option maxHeartbeats 2000000 in
theorem dNewC (now : Int) (w : World) (B : Nat) (hn : (Lit.int .u64 now).wf = true) (hB : B ≤ w.heap.size) :
    Calls Try.prog 7 #[.int .u64 now] w (RetNewD B now w) := by
  have kw := newC now w B hn hB
  have hfin : ∀ (e : Ending) (w1 : World), (∃ P F, e = .returned (.pointer (some ⟨P, 0, none⟩)) ∧ WIs w1 B P now [] F ∧ Below w.heap.size w w1 ∧ ∀ k, F k → w.heap.size ≤ k) → ∃ P, e = .returned (.pointer (some ⟨P, 0, none⟩)) ∧ Hid (RetNewD B now w (.returned (.pointer (some ⟨w1.heap.size, 0, none⟩))) (w1.alloc (.cells #[.pointer (some ⟨P, 0, none⟩), .slice none 0 0] 56))) := by
    rintro e w1 ⟨P, F, rfl, hW, hb, hF⟩
    have hb2 : Below w1.heap.size w1 (w1.alloc (.cells #[.pointer (some ⟨P, 0, none⟩), .slice none 0 0] 56)) := (Below.refl _ _).alloc (Nat.le_refl _) _
    have hs := hb.size
    refine ⟨P, rfl, Lib.hid ⟨⟨w1.heap.size, DF w1.heap.size F none, rfl, ⟨P, F, none, 0, ⟨heap_alloc_new _ _, wheelC.keep hW hb2.size (fun k hk => hb2.block k (wheelC.lt hW k hk).2), Rd.nil0 _ _, by omega, fun hf => by have := (wheelC.lt hW _ hf).2; omega, fun x hx => (by cases hx), by simp, fun e he => (by cases he)⟩, rfl⟩, fun k hk => ?_⟩, hb.trans (hb2.mono hs)⟩⟩
    rcases hk with rfl | hk | ⟨x, hx, _⟩
    · exact hs
    · exact hF k hk
    · cases hx
  have KW := Lib.hid kw
  have HF := Lib.hid hfin
  clear kw hfin
  go_enter Try.func7, Try.ntmps7
  go_wp2_with (go_at_call 21; (with_reducible refine KW.out.mono ?_); intro e w1 hw; obtain ⟨P, rfl, hN⟩ := HF.out _ _ hw; clear hw)
  go_ret
  exact hN.out
end Go.Proofs.Ytmmfmpnkjienfaa
