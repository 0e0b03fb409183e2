/-
  The program's Show.
-/
import Derived.Test.YtmfnfjcoaijjdaaDoorPropD
import Derived.Test.YtmfnfjcoaijjdaaDoorShelf
import Derived.Lib.OthersKept
namespace Go.Proofs.YtmfnfjcoaijjdaaDoor
open Go.RowKit
set_option linter.unusedVariables false

/-- the builder at block B holds x; what was there stands -/
structure Bd (w : World) (m : Nat) (x : Pr.B) (W : World) : Prop where
  I : Lib.IsBuilderF 56 5 w.heap.size w.heap.size (Lib.byteCells x) W
  b : Below w.heap.size w W
  len : x.length ≤ m
/-- a pair's box -/
def Box (W : World) (pb : Nat) (p : Pr.Pair) : Prop := W.heap[pb]? = some (.cells #[.string (mk p.1), .string (mk p.2)] 39 (0, 0))
theorem Box.c0 {W : World} {pb : Nat} {p : Pr.Pair} (h : Box W pb p) : W.cell? ⟨pb, 0, none⟩ = some (.string (mk p.1)) := by rw [cell_of_row W pb 0 _ _ _ h]; rfl
theorem Box.c1 {W : World} {pb : Nat} {p : Pr.Pair} (h : Box W pb p) : W.cell? ⟨pb, 1, none⟩ = some (.string (mk p.2)) := by rw [cell_of_row W pb 1 _ _ _ h]; rfl
structure RetWs (w : World) (m : Nat) (x : Pr.B) (n : Nat) (pb : Nat) (p : Pr.Pair) (e : Ending) (W : World) : Prop where
  e : e = .returned (.tuple #[.int .i64 (n : Int), .nilIface])
  d : Bd w m x W
  x : Box W pb p

theorem wsC (w W : World) (m : Nat) (x : Pr.B) (s : ByteArray) (pb : Nat) (p : Pr.Pair) (h : Bd w m x W) (hm : m ≤ 1000000000) (hs : s.size ≤ 1000) (hp : Box W pb p) (hpb : w.heap.size < pb) :
    Calls Tryd.prog 27 #[.pointer (some ⟨w.heap.size, 0, none⟩), .string s] W (RetWs w (m + 1000) (x ++ bl s) s.size pb p) := by
  have hl := h.len
  refine (Tryd.Builder_WriteString_k w.heap.size w.heap.size _ s W h.I (by rw [Lib.byteCells_length]; omega) h.b.size).mono ?_
  rintro e W1 ⟨rfl, h1, h2, h3⟩
  refine ⟨rfl, ⟨?_, h.b.trans h2, by rw [List.length_append, bl_length]; omega⟩, ?_⟩
  · rw [Lib.byteCells_append]; exact Or.inr h1
  · exact h3 pb _ hp (by simp; omega) (fun c fz hc => by cases hc)

theorem bd_start (w : World) : Bd w 0 [] (w.alloc (.cells #[.pointer none, .slice none 0 0] 56)) :=
  ⟨Lib.IsBuilderF.of (Lib.fresh_isBuilder 56 5 w), (Below.refl _ w).alloc (Nat.le_refl _) _, by simp⟩
theorem Bd.alloc {w W : World} {m : Nat} {x : Pr.B} (h : Bd w m x W) (o : Obj) : Bd w m x (W.alloc o) := ⟨h.I.alloc o, h.b.alloc h.b.size o, h.len⟩
theorem Bd.cast {w W : World} {m n : Nat} {x y : Pr.B} (h : Bd w m x W) (e : x = y) (hm : m ≤ n) : Bd w n y W := by
  subst e
  exact ⟨h.I, h.b, Nat.le_trans h.len hm⟩
theorem box_new (W : World) (p : Pr.Pair) : Box (W.alloc (.cells #[.string (mk p.1), .string (mk p.2)] 39)) W.heap.size p := heap_alloc_new W _

set_option maxHeartbeats 4000000 in
set_option maxRecDepth 1000000 in
theorem showC (a : Option Addr) (cap : Nat) (l : List Pr.Pair) (w : World) (hV : View w a l) (hl : l.length ≤ 6) (hok : ∀ p ∈ l, Pr.okP p = true) :
    Calls Tryd.prog 13 #[.slice a l.length cap] w (Ret (.string (mk (Pr.showL l))) w) := by
  have hgo := Lib.hid (Pr.showGo_true l)
  generalize Pr.showL l = R at *
  have HV := Lib.hid hV; clear hV
  have HOK := Lib.hid hok; clear hok
  have hb0 := bd_start w
  go_enter Tryd.func13, Tryd.ntmps13
  go_wp2
  go_loopw [8] (fun i wr => ∃ (x : Pr.B) (k : Nat), k ≤ l.length ∧ i = .int .i64 (k : Int) ∧ Bd w (4000 * k) x wr ∧ w.heap.size < wr.heap.size ∧ Hid (x ++ Pr.showGo (decide (k = 0)) (l.drop k) = R)) (fun i _ => l.length - (intOf i).toNat)
  case atStart => exact ⟨[], 0, by omega, rfl, hb0, by simp, Lib.hid (by simpa using hgo.out)⟩
  case round =>
    obtain ⟨x, k, hk, rfl, hbd, hgt, hx⟩ := hrel
    clear hb0
    by_cases hlt : k < l.length
    · obtain ⟨g, rfl, hg, hc⟩ := HV.out.is (by omega)
      have c0 := (hbd.b.cell (p := ⟨g, k * 2, none⟩) hg).trans (hc k hlt).1
      have c1 := (hbd.b.cell (p := ⟨g, k * 2 + 1, none⟩) hg).trans (hc k hlt).2
      have hok := Pr.okP_short (HOK.out l[k] (List.getElem_mem hlt))
      have hx2 := hx.out
      rw [Pr.showGo_at l k hlt] at hx2
      generalize l[k] = p at *
      have z1 : (mk p.1).size ≤ 1000 := by rw [size_mk']; omega
      have z2 : (mk p.2).size ≤ 1000 := by rw [size_mk']; omega
      have hS := hbd.alloc (.cells #[.string (mk p.1), .string (mk p.2)] 39)
      have hX := box_new wr p
      clear hc hx hok hbd
      by_cases h0 : k = 0
      · subst h0
        have hx3 : Hid ((x ++ p.1 ++ [61] ++ p.2) ++ Pr.showGo (decide (0 + 1 = 0)) (l.drop (0 + 1)) = R) := by show _ = _; rw [← hx2]; simp
        clear hx2
        go_wp2_with (go_at_call 27; (with_reducible refine (wsC w _ _ _ _ wr.heap.size p hS (by omega) (by first | exact z1 | exact z2 | decide) hX hgt).mono ?_); rintro e W1 ⟨rfl, hS, hX⟩; have k0 := hX.c0; have k1 := hX.c1)
        have hS2 : Bd w (4000 * (0 + 1)) (x ++ p.1 ++ [61] ++ p.2) _ := hS.cast (by rw [bl_mk', bl_mk']; rfl) (by omega)
        have hsz := hS2.b.size
        have hlb := lt_block hX
        go_roundw
        case rel => exact ⟨_, 0 + 1, by omega, by go_num, hS2, by omega, hx3⟩
        case measure => simp [intOf]; omega
      · have hx3 : Hid ((x ++ [44] ++ p.1 ++ [61] ++ p.2) ++ Pr.showGo (decide (k + 1 = 0)) (l.drop (k + 1)) = R) := by show _ = _; rw [← hx2]; simp [h0]
        have hk0 : (0 : Int) < (k : Int) := by omega
        clear hx2
        go_wp2_with (go_at_call 27; (with_reducible refine (wsC w _ _ _ _ wr.heap.size p hS (by omega) (by first | exact z1 | exact z2 | decide) hX hgt).mono ?_); rintro e W1 ⟨rfl, hS, hX⟩; have k0 := hX.c0; have k1 := hX.c1)
        have hS2 : Bd w (4000 * (k + 1)) (x ++ [44] ++ p.1 ++ [61] ++ p.2) _ := hS.cast (by rw [bl_mk', bl_mk']; rfl) (by omega)
        have hsz := hS2.b.size
        have hlb := lt_block hX
        go_roundw
        case rel => exact ⟨_, k + 1, by omega, by go_num, hS2, by omega, hx3⟩
        case measure => simp [intOf]; omega
    · obtain rfl : k = l.length := by omega
      have hR : R = x := by rw [← hx.out, List.drop_length]; simp [Pr.showGo]
      subst hR
      clear hx hgo
      go_wp2_with (go_at_call 28; (refine (Tryd.Builder_String_any_k w.heap.size w.heap.size _ _ hbd.I hbd.b.size).mono ?_); rintro e W1 ⟨rfl, _, h2, _⟩)
      go_ret
      exact ⟨rfl, hbd.b.trans h2⟩
end Go.Proofs.YtmfnfjcoaijjdaaDoor
