/-
  A history: rows as they came in; Load.
-/
import Derived.Test.YtmdpfinadffcaaaHyF
namespace Go.Proofs.Ytmdpfinadffcaaa
open Go.RowKit
set_option linter.unusedVariables false

/-- rows that lie in the cells of a slice -/
def RowsAt (w : World) (a : Option Addr) (R : List Lr.E) : Prop := eltR.View w a R
theorem RowsAt.below {w w' : World} {a : Option Addr} {R : List Lr.E} (h : RowsAt w a R) (hb : Below w.heap.size w w') : RowsAt w' a R := Elt.View.below h hb
theorem RowsAt.cell {w : World} {a : Option Addr} {R : List Lr.E} (h : RowsAt w a R) {j : Nat} (hj : j < R.length) : ∃ g off, a = some ⟨g, off, none⟩ ∧ g < w.heap.size ∧ ∀ i u, (entC R[j].1 R[j].2)[i]? = some u → w.cell? ⟨g, off + j * 17 + i, none⟩ = some u := by
  obtain ⟨g, off, ha, hg, hc⟩ := h.is (by omega)
  exact ⟨g, off, ha, hg, fun i u hu => hc j hj i u (by simpa [eltR] using hu)⟩
/-- the load of a row -/
theorem loadRowM {ops : Array Oper} {rest : List Oper} {o : Oper} {a : Act} {w : World} {Q : Exit → Act → World → Prop} {g off : Nat} {k : ByteArray} {v : Lr.V} (h : ∀ j u, (entC k v)[j]? = some u → w.cell? ⟨g, off + j, none⟩ = some u) (x : Operand) (ho : o.op = .load 58 x) (hw : Region.wanted o (yielded ops a.tmps) = true)
    (hx : a.eval x = .pointer (some ⟨g, off, none⟩)) (hK : wpList Try.prog ops Q rest (a.put o.dst (.agg (entC k v))) w) : wpList Try.prog ops Q (o :: rest) a w :=
  BigFrame.wpList_want hw fun _ hK' => wp_load_mid (P := Try.prog) 58 x ho g off hx (entC k v).toList _ (fun j u hu => h j u (by simpa using hu)) Try.underlying58 rfl (by rw [infoR, Array.length_toList, entC_size]) (hK' _ _ (by simpa using hK))
abbrev zr : Obj := .cells #[.string { data := #[] }, .int .i64 0, .int .i64 0, .int .i64 0, .int .i64 0, .int .i64 0, .int .i64 0, .int .i64 0, .int .i64 0, .int .i64 0, .int .i64 0, .int .i64 0, .int .i64 0, .int .i64 0, .int .i64 0, .int .i64 0, .int .i64 0] 58
theorem zr_is : zr = rowO .empty Lr.zero := rfl
/-- a row stored into its box -/
theorem storeRow {ops : Array Oper} {rest : List Oper} {o : Oper} {a : Act} {w : World} {Q : Exit → Act → World → Prop} {g : Nat} {k0 : ByteArray} {v0 : Lr.V} (h : w.heap[g]? = some (rowO k0 v0)) (k : ByteArray) (v : Lr.V) (hgd : o.guard = none) (x y : Operand) (ho : o.op = .store 58 x y)
    (hx : a.eval x = .pointer (some ⟨g, 0, none⟩)) (hy : a.eval y = .agg (entC k v)) (hK : wpList Try.prog ops Q rest (a.put o.dst undef) (w.setRow g (entC k v))) : wpList Try.prog ops Q (o :: rest) a w :=
  wpList_store_row hgd 58 x y ho g (entC k v) hx hy 58 (entC k0 v0) h (by rw [infoR, entC_size]) (by rw [entC_size, entC_size]) (all_oneCell_toArray (cs := (entC k v).toList) (entC_one k v) |> fun h => by simpa using h) hK

/-- a history alone, since a call began -/
structure HySolo (w0 : World) (B T : Nat) (room : Int) (l : List Lr.E) (w : World) : Prop where
  s : ∃ F, HIs w B T room l F
  b : Below B w0 w
  z : B ≤ w.heap.size
theorem HySolo.below {w0 : World} {B T : Nat} {room : Int} {l : List Lr.E} {w w' : World} (h : HySolo w0 B T room l w) (hb : Below w.heap.size w w') : HySolo w0 B T room l w' := by
  obtain ⟨F, h1⟩ := h.s
  exact ⟨⟨F, h1.below hb⟩, h.b.trans (hb.mono h.z), Nat.le_trans h.z hb.size⟩
theorem HySolo.did {w0 : World} {B T : Nat} {room : Int} {l l' : List Lr.E} {r : Value} {F : Nat → Prop} {w w' : World} {e : Ending} (h : HySolo w0 B T room l w) (h1 : HIs w B T room l F) (hr : RetHy r B T room l' F w e w') : e = .returned r ∧ HySolo w0 B T room l' w' := by
  obtain ⟨F', g1, g2⟩ := hr.s
  exact ⟨hr.r, ⟨F', g1⟩, h.b.trans (hr.c.below (fun k hk => (h1.lt k hk).1) h.z), Nat.le_trans h.z hr.c.size⟩

/-- what Load returns -/
structure LoadR (room : Int) (R : List Lr.E) (w : World) (e : Ending) (w' : World) : Prop where
  no : ¬ (1 ≤ room ∧ (R.length : Int) ≤ room ∧ Hy.Fine R R.length) → e = .returned (.tuple #[.pointer none, .bool false])
  yes : 1 ≤ room ∧ (R.length : Int) ≤ room ∧ Hy.Fine R R.length → ∃ T, e = .returned (.tuple #[.pointer (some ⟨T, 0, none⟩), .bool true]) ∧ HySolo w w.heap.size T room R.reverse w'
  b : Below w.heap.size w w'
set_option maxRecDepth 100000 in
theorem loadBad (room : Int) (R : List Lr.E) (a : Option Addr) (cap : Nat) (w : World) (h : room < 1) :
    Calls Try.prog 11 #[.int .i64 room, .slice a R.length cap] w (LoadR room R w) := by
  have K := Lib.hid (fun W => newHBad room W h)
  have HF : Hid (LoadR room R w (.returned (.tuple #[.pointer none, .bool false])) w) := Lib.hid ⟨fun _ => rfl, fun hy => by omega, Below.refl _ _⟩
  clear h
  generalize R.length = n at *
  go_enter Try.func11, Try.ntmps11
  go_wp2_with (go_at_call 6; (with_reducible refine (K.out _).mono ?_); rintro e wA ⟨rfl, rfl⟩)
  go_ret2
  exact HF.out
set_option maxRecDepth 100000 in
set_option maxHeartbeats 4000000 in
theorem loadC (room : Int) (R : List Lr.E) (a : Option Addr) (cap : Nat) (w : World) (hn : R.length ≤ 100000) (hR : RowsAt w a R) (hs : ∀ e ∈ R, e.1.size ≤ 140737488351232) :
    Calls Try.prog 11 #[.int .i64 room, .slice a R.length cap] w (LoadR room R w) := by
  by_cases h : room < 1
  · exact loadBad room R a cap w h
  have K := Lib.hid ((newHC room w h).mono (R' := fun e wA => ∃ T, e = .returned (.pointer (some ⟨T, 0, none⟩)) ∧ HySolo w w.heap.size T room [] wA) fun e wA hr => by
    obtain ⟨T, F, rfl, h1, h2⟩ := hr
    exact ⟨T, rfl, ⟨F, h1⟩, h2, h2.size⟩)
  by_cases hrm : (R.length : Int) ≤ room
  · have HRM := Lib.hid hrm
    have t1 : decide ((R.length : Int) > room) = false := decide_eq_false (by omega)
    have HH := Lib.hid h
    have HV := Lib.hid hR
    have HS := Lib.hid hs
    clear h hrm hR hs
    go_enter Try.func11, Try.ntmps11
    go_wp2_with (go_at_call 6; (with_reducible refine K.out.mono ?_); rintro e wA ⟨T, rfl, hA⟩; have HA := Lib.hid hA; clear hA)
    go_loopw [21] (fun s wr => ∃ j : Nat, j ≤ R.length ∧ s = .int .i64 (j : Int) ∧ Hid (Hy.Fine R j) ∧ Hid (HySolo w w.heap.size T room (R.take j).reverse wr)) (fun s _ => R.length - (intOf s).toNat)
    case atStart => exact ⟨0, Nat.zero_le _, rfl, Lib.hid (Hy.fine_zero R), HA⟩
    case round =>
      obtain ⟨j, hj, rfl, HF, HY⟩ := hrel
      clear K HA
      by_cases hlt : j < R.length
      · obtain ⟨g, off, rfl, hg, hc⟩ := (HV.out.below (HY.out.b)).cell hlt
        have hks := HS.out _ (List.getElem_mem hlt)
        have HC := Lib.hid hc
        by_cases hcn : Lr.find (R.take j).reverse R[j].1 = none ∧ Hy.okE (R[j].1, R[j].2) = true
        · have K2 := Lib.hid (fun W (q : HySolo w w.heap.size T room (R.take j).reverse W) => by
            obtain ⟨F, h1⟩ := q.s
            exact (addRowC w.heap.size T room (R.take j).reverse F R[j].1 R[j].2 W h1 hks (by simp; omega) (by simp; have := HRM.out; omega) q.z).mono (R' := fun e w' => e = .returned (.bool true) ∧ Hid (Hy.Fine R (j + 1) ∧ HySolo w w.heap.size T room (R.take (j + 1)).reverse w')) fun e w' hr => by
              obtain ⟨e1, e2⟩ := q.did h1 (hr.yes hcn)
              rw [Hy.put_take hlt (by have := HRM.out; omega) hcn.1] at e2
              exact ⟨e1, Lib.hid ⟨HF.out.step hlt hcn.2 ((Hy.take_find hlt).1 hcn.1), e2⟩⟩)
          have HZ := Lib.hid (show (wr.alloc zr).heap[wr.heap.size]? = some (rowO .empty Lr.zero) from heap_alloc_new _ _)
          have HNX : Hid (∀ k v, HySolo w w.heap.size T room (R.take j).reverse ((wr.alloc zr).setRow wr.heap.size (entC k v))) := Lib.hid (fun k v => HY.out.below (below_row ((Below.refl _ _).alloc (Nat.le_refl _) _) (Nat.le_refl _) _))
          clear hc hks hcn
          generalize R[j].1 = key at *
          generalize R[j].2 = v at *
          have HBX : Hid (((wr.alloc zr).setRow wr.heap.size (entC key v)).heap[wr.heap.size]? = some (rowO key v)) := Lib.hid (setRow_heap _ _ _ _ _ _ HZ.out)
          have HBR : Hid (∀ i u, (entC key v)[i]? = some u → ((wr.alloc zr).setRow wr.heap.size (entC key v)).cell? ⟨wr.heap.size, 0 + i, none⟩ = some u) := Lib.hid (fun i u hu => by rw [Nat.zero_add, cell_of_row _ _ _ _ _ _ HBX.out]; exact hu)
          clear HBX
          go_wp2_with (first
            | (refine loadRowM HC.out _ rfl rfl rfl ?_)
            | (refine storeRow HZ.out key v rfl _ _ rfl rfl rfl ?_)
            | (refine loadRowM (g := wr.heap.size) (off := 0) HBR.out _ rfl rfl rfl ?_)
            | (go_at_call 25; (with_reducible refine (K2.out _ (HNX.out key v)).mono ?_); rintro e wB ⟨rfl, hB⟩))
          go_roundw
          case rel => exact ⟨j + 1, by omega, by go_num, Lib.hid hB.out.1, Lib.hid hB.out.2⟩
          case measure => simp [intOf]; omega
        · have K2 := Lib.hid (fun W (q : HySolo w w.heap.size T room (R.take j).reverse W) => by
            obtain ⟨F, h1⟩ := q.s
            exact (addRowC w.heap.size T room (R.take j).reverse F R[j].1 R[j].2 W h1 hks (by simp; omega) (by simp; have := HRM.out; omega) q.z).mono (R' := fun e w' => e = .returned (.bool false) ∧ Hid (¬ Hy.Fine R R.length ∧ Below w.heap.size w w')) fun e w' hr => by
              obtain ⟨e1, e2⟩ := q.did h1 (hr.no hcn)
              exact ⟨e1, Lib.hid ⟨fun hf => hcn ⟨(Hy.take_find hlt).2 (fun i hi hij => hf.ne j i hlt hi hlt hij), hf.ok j hlt hlt⟩, e2.b⟩⟩)
          have HZ := Lib.hid (show (wr.alloc zr).heap[wr.heap.size]? = some (rowO .empty Lr.zero) from heap_alloc_new _ _)
          have HNX : Hid (∀ k v, HySolo w w.heap.size T room (R.take j).reverse ((wr.alloc zr).setRow wr.heap.size (entC k v))) := Lib.hid (fun k v => HY.out.below (below_row ((Below.refl _ _).alloc (Nat.le_refl _) _) (Nat.le_refl _) _))
          clear hc hks hcn
          generalize R[j].1 = key at *
          generalize R[j].2 = v at *
          have HBX : Hid (((wr.alloc zr).setRow wr.heap.size (entC key v)).heap[wr.heap.size]? = some (rowO key v)) := Lib.hid (setRow_heap _ _ _ _ _ _ HZ.out)
          have HBR : Hid (∀ i u, (entC key v)[i]? = some u → ((wr.alloc zr).setRow wr.heap.size (entC key v)).cell? ⟨wr.heap.size, 0 + i, none⟩ = some u) := Lib.hid (fun i u hu => by rw [Nat.zero_add, cell_of_row _ _ _ _ _ _ HBX.out]; exact hu)
          clear HBX
          go_wp2_with (first
            | (refine loadRowM HC.out _ rfl rfl rfl ?_)
            | (refine storeRow HZ.out key v rfl _ _ rfl rfl rfl ?_)
            | (refine loadRowM (g := wr.heap.size) (off := 0) HBR.out _ rfl rfl rfl ?_)
            | (go_at_call 25; (with_reducible refine (K2.out _ (HNX.out key v)).mono ?_); rintro e wB ⟨rfl, hB⟩))
          go_ret2
          exact ⟨fun _ => rfl, fun hy => absurd hy.2.2 hB.out.1, hB.out.2⟩
      · obtain rfl : j = R.length := by omega
        have HFIN : Hid (LoadR room R w (.returned (.tuple #[.pointer (some ⟨T, 0, none⟩), .bool true])) wr) := Lib.hid ⟨fun hn => absurd ⟨by have := HH.out; omega, HRM.out, HF.out⟩ hn, fun _ => ⟨T, rfl, by have := HY.out; rwa [List.take_length] at this⟩, HY.out.b⟩
        clear HF HY
        go_wp2
        go_ret2
        exact HFIN.out
  · have t1 : decide ((R.length : Int) > room) = true := decide_eq_true (by omega)
    have HF : Hid (∀ wA, Below w.heap.size w wA → LoadR room R w (.returned (.tuple #[.pointer none, .bool false])) wA) := Lib.hid (fun wA hb => ⟨fun _ => rfl, fun hy => absurd hy.2.1 hrm, hb⟩)
    clear hrm h hR hs
    generalize R.length = n at *
    go_enter Try.func11, Try.ntmps11
    go_wp2_with (go_at_call 6; (with_reducible refine K.out.mono ?_); rintro e wA ⟨T, rfl, hA⟩; have HA := Lib.hid hA; clear hA)
    go_ret2
    exact HF.out _ HA.out.b
end Go.Proofs.Ytmdpfinadffcaaa
