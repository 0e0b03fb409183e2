/-
  The program's take, the range over a slot.
-/
import Derived.Test.YtmmfmpnkjienfaaWhT2
namespace Go.Proofs.Ytmmfmpnkjienfaa
open Go.RowKit
set_option linter.unusedVariables false

/-- the range over the map b of place m is under way: xs have come -/
structure RangeS (w0 : World) (B P : Nat) (now : Int) (l : List Wh.E) (T : Nat) (sl : Nat → Option Nat) (m r b : Nat) (v : Value) (acc xs : List Wh.E) (cnt : Nat) (w : World) : Prop where
  at_ : WAt w B P now l (geP now l m) T (cutS sl m)
  rg : RangeE w b r (atP now l m) xs cnt
  row : RowE w w0.heap.size v (acc ++ xs)
  chg : Chg (WF P T sl) w0 w
  low : ∀ k, WF P T sl k → k < w0.heap.size
  hr : w0.heap.size ≤ r
  hb : b < w0.heap.size
section
variable {w0 w w1 w2 : World} {B P T m r b cnt cnt' : Nat} {now : Int} {l acc xs : List Wh.E} {sl : Nat → Option Nat} {v v' : Value} {e : Wh.E}
theorem RangeE.notOwn {t : TypeId} {size n B : Nat} {ys : List Value} (h : RangeE w b r l xs cnt) (hrow : w.ownsRow B t size v n ys) : v.ownBlock ≠ some r := by
  obtain ⟨D, left, todo, ⟨es, clock, since, seen, c0, h1, F, hs, hD, h2, rest⟩, h3⟩ := h
  obtain ⟨hl, ⟨rfl, _⟩ | ⟨g, cap, cur, rfl, hg, hc, _⟩⟩ := hrow
  · simp [Value.ownBlock]
  · intro e
    simp [Value.ownBlock] at e
    subst e
    rw [h2] at hc
    cases hc
theorem RangeS.start (h : TakeS w0 B P now l T sl m v acc w) (hm : m < 256) (hs : sl m = some b) (hR : RangeE w1 b w.heap.size (atP now l m) [] cnt) (hb : Below w.heap.size w w1) : RangeS w0 B P now l T sl m w.heap.size b v acc [] cnt w1 :=
  ⟨h.at_.below hb, hR, by rw [List.append_nil]; exact h.row.below hb, h.chg.then hb, h.low, h.chg.size, h.low b (Or.inr (Or.inr ⟨m, hm, hs⟩))⟩
theorem RangeS.next (h : RangeS w0 B P now l T sl m r b v acc xs cnt w) (hc : Chg (fun k => k = r) w w1) :
    WAt w1 B P now l (geP now l m) T (cutS sl m) ∧ RowE w1 w0.heap.size v (acc ++ xs) ∧ Chg (WF P T sl) w0 w1 := by
  have hr := h.hr
  refine ⟨h.at_.keep (fun k hk => hc.block k (h.at_.bounds k hk).2 (fun e => by have := h.low k hk.cut; omega)), own_keep h.row (fun k hk => hc.block k (World.ownsRow.lt h.row k hk).2 (fun e => h.rg.notOwn h.row (by rw [hk, e]))), h.chg.trans hc (fun k hk => Or.inr (by omega))⟩
theorem RangeS.app (h : RangeS w0 B P now l T sl m r b v acc xs cnt w) (hc : Chg (fun k => k = r) w w1) (hR : RangeE w1 b r (atP now l m) (xs ++ [e]) cnt') (hrow : w2.ownsRow w0.heap.size 39 3 v' ((acc ++ xs).length + 1) (cellsE (acc ++ xs) ++ [.int .i64 0, .int .i64 e.1, .int .u64 e.2]))
    (hb : Below w0.heap.size w1 w2) (hk : ∀ k, k < w1.heap.size → some k ≠ v.ownBlock → w2.heap[k]? = w1.heap[k]?) : RangeS w0 B P now l T sl m r b v' acc (xs ++ [e]) cnt' w2 := by
  obtain ⟨h1, h2, h3⟩ := h.next hc
  refine ⟨h1.keep (fun k hk => hb.block k (h.low k hk.cut)), hR.keep (hb.block b h.hb) (hk r hR.lt (fun e => hR.notOwn h2 e.symm)), ?_, ?_, h.low, h.hr, h.hb⟩
  · rw [← List.append_assoc]
    exact RowE.snoc hrow
  · exact ⟨hb.os.trans h3.os, hb.tape.trans h3.tape, hb.output.trans h3.output, Nat.le_trans h3.size hb.size, fun k hk hf => (hb.block k hk).trans (h3.block k hk hf)⟩
theorem RangeS.stop (h : RangeS w0 B P now l T sl m r b v acc xs cnt w) (hT : TakeS w0 B P now l T sl m v' acc w1) (hm : m < 256) (hp : xs.Perm (atP now l m)) (hw' : w2 = w.setCell ⟨P, m + 2, none⟩ (.map none)) : TakeS w0 B P now l T sl (m + 1) v (acc ++ xs) w2 :=
  hT.step hm h.at_ h.row (hp.append_left acc) h.chg hw'
theorem RangeE.len (h : RangeE w b r l xs cnt) : xs.length ≤ l.length := by
  obtain ⟨D, left, todo, _, _, _, hp, _⟩ := h
  rw [← hp.length_eq, List.length_append]
  omega
theorem TakeS.len (h : TakeS w0 B P now l T sl m v acc w) : acc.length ≤ l.length := by
  rw [h.perm.length_eq]
  exact List.length_filter_le _ _
theorem RangeS.len (h : RangeS w0 B P now l T sl m r b v acc xs cnt w) : xs.length ≤ l.length := Nat.le_trans h.rg.len (List.length_filter_le _ _)
theorem RangeS.slot (h : RangeS w0 B P now l T sl m r b v acc xs cnt w) (hm : m < 256) : w.cell? ⟨P, m + 2, none⟩ = some (.map (sl m)) := by
  rw [h.at_.slot m hm]
  simp [cutS]
end
end Go.Proofs.Ytmmfmpnkjienfaa
