/-
  Place and Of: where there is no answer.
-/
import Derived.Test.YtmdpfinadffcaaaQuB
namespace Go.Proofs.Ytmdpfinadffcaaa
open Go.RowKit Go.Shelf
set_option linter.unusedVariables false

/-- Place's boxes: the histogram, the percentage, the two results -/
structure PlQ (w0 : World) (l : List Int) (p r : Int) (f : Bool) (w : World) : Prop where
  h : Bx w w0.heap.size l
  p : w.cell? ⟨w0.heap.size + 1, 0, none⟩ = some (.int .i64 p)
  r : w.cell? ⟨w0.heap.size + 1 + 1, 0, none⟩ = some (.int .i64 r)
  fr : w.frozen? ⟨w0.heap.size + 1 + 1, 0, none⟩ = false
  o : w.cell? ⟨w0.heap.size + 1 + 1 + 1, 0, none⟩ = some (.bool f)
  fo : w.frozen? ⟨w0.heap.size + 1 + 1 + 1, 0, none⟩ = false
  b : Below w0.heap.size w0 w
  n : w0.heap.size + 4 ≤ w.heap.size
section
variable {w0 w w' : World} {l : List Int} {p r : Int} {f : Bool}
theorem PlQ.near (q : PlQ w0 l p r f w) (hb : Below (w0.heap.size + 4) w w') : PlQ w0 l p r f w' := by
  have hn := q.n
  obtain ⟨c1, _⟩ := below_cells hb (w0.heap.size + 1) (by omega)
  obtain ⟨c2, f2⟩ := below_cells hb (w0.heap.size + 1 + 1) (by omega)
  obtain ⟨c3, f3⟩ := below_cells hb (w0.heap.size + 1 + 1 + 1) (by omega)
  exact ⟨⟨q.h.n, (hb.block _ (by omega)).trans q.h.h⟩, (c1 0).trans q.p, (c2 0).trans q.r, (f2 0).trans q.fr, (c3 0).trans q.o, (f3 0).trans q.fo, q.b.trans (hb.mono (by omega)), Nat.le_trans hn hb.size⟩
theorem PlQ.next (q : PlQ w0 l p r f w) (hb : Below w.heap.size w w') : PlQ w0 l p r f w' := q.near (hb.mono q.n)
theorem PlQ.setR (q : PlQ w0 l p r f w) (r' : Int) : PlQ w0 l p r' f (w.setCell ⟨w0.heap.size + 1 + 1, 0, none⟩ (.int .i64 r')) := by
  refine ⟨q.h.setO _ _ _ (by omega), ?_, ?_, by rw [World.frozen?_setCell]; exact q.fr, ?_, by rw [World.frozen?_setCell]; exact q.fo, q.b.setCell (p := ⟨w0.heap.size + 1 + 1, 0, none⟩) (by show w0.heap.size ≤ w0.heap.size + 1 + 1; omega) _, by simpa using q.n⟩
  · rw [World.cell?_of_block (Below.heap_setCell _ _ _ _ (by simp))]; exact q.p
  · exact World.cell?_setCell_same' _ _ _ (by rw [q.r]; rfl)
  · rw [World.cell?_of_block (Below.heap_setCell _ _ _ _ (by simp))]; exact q.o
theorem PlQ.setO (q : PlQ w0 l p r f w) (f' : Bool) : PlQ w0 l p r f' (w.setCell ⟨w0.heap.size + 1 + 1 + 1, 0, none⟩ (.bool f')) := by
  refine ⟨q.h.setO _ _ _ (by omega), ?_, ?_, by rw [World.frozen?_setCell]; exact q.fr, ?_, by rw [World.frozen?_setCell]; exact q.fo, q.b.setCell (p := ⟨w0.heap.size + 1 + 1 + 1, 0, none⟩) (by show w0.heap.size ≤ w0.heap.size + 1 + 1 + 1; omega) _, by simpa using q.n⟩
  · rw [World.cell?_of_block (Below.heap_setCell _ _ _ _ (by simp))]; exact q.p
  · rw [World.cell?_of_block (Below.heap_setCell _ _ _ _ (by simp))]; exact q.r
  · exact World.cell?_setCell_same' _ _ _ (by rw [q.o]; rfl)
theorem PlQ.alloc (q : PlQ w0 l p r f w) (o : Obj) : PlQ w0 l p r f (w.alloc o) := q.next ((Below.refl _ _).alloc (Nat.le_refl _) _)
/-- a cell beyond the four -/
theorem PlQ.set (q : PlQ w0 l p r f w) (g : Nat) (hg : w0.heap.size + 4 ≤ g) (v : Value) : PlQ w0 l p r f (w.setCell ⟨g, 0, none⟩ v) := by
  refine ⟨q.h.setO _ _ _ (by omega), ?_, ?_, by rw [World.frozen?_setCell]; exact q.fr, ?_, by rw [World.frozen?_setCell]; exact q.fo, q.b.setCell (p := ⟨g, 0, none⟩) (by show w0.heap.size ≤ g; omega) _, by simpa using q.n⟩
  · rw [World.cell?_of_block (Below.heap_setCell _ _ _ _ (by show w0.heap.size + 1 ≠ g; omega))]; exact q.p
  · rw [World.cell?_of_block (Below.heap_setCell _ _ _ _ (by show w0.heap.size + 1 + 1 ≠ g; omega))]; exact q.r
  · rw [World.cell?_of_block (Below.heap_setCell _ _ _ _ (by show w0.heap.size + 1 + 1 + 1 ≠ g; omega))]; exact q.o
end
theorem PlQ.new {l : List Int} (hl : l.length = 16) (p : Int) (w : World) : PlQ w l p 0 false ((((w.alloc (boxH l)).alloc (.cells #[.int .i64 p] 3)).alloc (.cells #[.int .i64 0] 3)).alloc (.cells #[.bool false] 4)) := by
  refine ⟨(((Bx.new w hl).old _).old _).old _, ?_, ?_, ?_, ?_, ?_, ((((Below.refl w.heap.size w).alloc (Nat.le_refl _) _).alloc (by simp) _).alloc (by simp; omega) _).alloc (by simp; omega) _, by simp⟩
  all_goals go_simp

set_option maxRecDepth 100000 in
set_option maxHeartbeats 1000000 in
theorem placeNo (l : List Int) (hl : l.length = 16) (p : Int) (h : ¬ Qu.Good l p) (w : World) :
    Calls Try.prog 48 #[.agg (Hi.cells l), .int .i64 p] w (Ret (.tuple #[.int .i64 0, .bool false]) w) := by
  have Q0 := Lib.hid (PlQ.new hl p w)
  have CR := Lib.hid (fun W => rightC l hl W)
  cases ho : Hi.ok l with
  | false =>
    rw [ho] at CR
    clear h ho
    go_enter Try.func48, Try.ntmps48
    go_wp2_with (first
      | (refine loadB Q0.out.h _ rfl rfl rfl ?_)
      | (go_at_call 38; (with_reducible refine (CR.out _).mono ?_); rintro e w1 ⟨rfl, hb1⟩; replace Q0 := Lib.hid (Q0.out.next hb1); clear hb1; have c1 := Q0.out.r; have c2 := Q0.out.fr; have c3 := Q0.out.o; have c4 := Q0.out.fo))
    have Q1 := (Q0.out.setR 0).setO false
    have r1 := Q1.r
    have r2 := Q1.o
    refine bodyPost_ret (v := .tuple #[.int .i64 0, .bool false]) ?_ rfl ⟨rfl, Q1.b⟩
    simp [results, Try.f48, go_sem, r1, r2]
  | true =>
    rw [ho] at CR
    by_cases h1 : p < 1
    · clear h ho
      go_enter Try.func48, Try.ntmps48
      go_wp2_with (first
        | (refine loadB Q0.out.h _ rfl rfl rfl ?_)
        | (go_at_call 38; (with_reducible refine (CR.out _).mono ?_); rintro e w1 ⟨rfl, hb1⟩; replace Q0 := Lib.hid (Q0.out.next hb1); clear hb1; have c0 := Q0.out.p; have c1 := Q0.out.r; have c2 := Q0.out.fr; have c3 := Q0.out.o; have c4 := Q0.out.fo))
      have Q1 := (Q0.out.setR 0).setO false
      have r1 := Q1.r
      have r2 := Q1.o
      refine bodyPost_ret (v := .tuple #[.int .i64 0, .bool false]) ?_ rfl ⟨rfl, Q1.b⟩
      simp [results, Try.f48, go_sem, r1, r2]
    · by_cases h2 : 100 < p
      · clear h ho
        go_enter Try.func48, Try.ntmps48
        go_wp2_with (first
          | (refine loadB Q0.out.h _ rfl rfl rfl ?_)
          | (go_at_call 38; (with_reducible refine (CR.out _).mono ?_); rintro e w1 ⟨rfl, hb1⟩; replace Q0 := Lib.hid (Q0.out.next hb1); clear hb1; have c0 := Q0.out.p; have c1 := Q0.out.r; have c2 := Q0.out.fr; have c3 := Q0.out.o; have c4 := Q0.out.fo))
        have Q1 := (Q0.out.setR 0).setO false
        have r1 := Q1.r
        have r2 := Q1.o
        refine bodyPost_ret (v := .tuple #[.int .i64 0, .bool false]) ?_ rfl ⟨rfl, Q1.b⟩
        simp [results, Try.f48, go_sem, r1, r2]
      · have h3 : Hi.tot l = 0 := Classical.byContradiction fun h0 => h ⟨ho, h0, by omega, by omega⟩
        have CT := Lib.hid (fun W => totalC l hl (Hi.small.wide (Hi.ok_iff.1 ho).1) W)
        rw [h3] at CT
        clear h h3 ho
        go_enter Try.func48, Try.ntmps48
        go_wp2_with (first
          | (refine loadB Q0.out.h _ rfl rfl rfl ?_)
          | (go_at_call 38; (with_reducible refine (CR.out _).mono ?_); rintro e w1 ⟨rfl, hb1⟩; replace Q0 := Lib.hid (Q0.out.next hb1); clear hb1; have c0 := Q0.out.p; have c1 := Q0.out.r; have c2 := Q0.out.fr; have c3 := Q0.out.o; have c4 := Q0.out.fo)
          | (go_at_call 39; (with_reducible refine (CT.out _).mono ?_); rintro e w2 ⟨rfl, hb1⟩; clear c0 c1 c2 c3 c4; replace Q0 := Lib.hid ((Q0.out.next hb1).alloc (.cells #[.int .i64 0] 3)); clear hb1; have c0 := Q0.out.p; have c1 := Q0.out.r; have c2 := Q0.out.fr; have c3 := Q0.out.o; have c4 := Q0.out.fo))
        have Q1 := (Q0.out.setR 0).setO false
        have r1 := Q1.r
        have r2 := Q1.o
        refine bodyPost_ret (v := .tuple #[.int .i64 0, .bool false]) ?_ rfl ⟨rfl, Q1.b⟩
        simp [results, Try.f48, go_sem, r1, r2]

set_option maxRecDepth 100000 in
theorem ofNo (l : List Int) (hl : l.length = 16) (p : Int) (h : ¬ Qu.Good l p) (w : World) :
    Calls Try.prog 28 #[.agg (Hi.cells l), .int .i64 p] w (Ret (.tuple #[.int .u64 0, .bool false]) w) := by
  have B0 := Lib.hid (Bx.new w hl)
  have W0 := Lib.hid ((Below.refl w.heap.size w).alloc (Nat.le_refl _) (boxH l))
  have CP := Lib.hid (fun W => placeNo l hl p h W)
  clear h
  go_enter Try.func28, Try.ntmps28
  go_wp2_with (first
    | (refine loadB B0.out _ rfl rfl rfl ?_)
    | (go_at_call 48; (with_reducible refine (CP.out _).mono ?_); rintro e w1 ⟨rfl, hb1⟩; replace W0 := Lib.hid (W0.out.trans (hb1.mono W0.out.size)); clear hb1))
  go_ret2
  exact ⟨rfl, W0.out⟩
end Go.Proofs.Ytmdpfinadffcaaa
