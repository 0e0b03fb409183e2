/-
  The document's ring: how it lies; Find; a row in the place of another.
  The document's ring: a row in the place of another.
  The document's ring: Drop.
  The document's ring: Push.
  The document's ring: Push of a new flow.
  The document's ring: Pick, its states.
-/
import Derived.Test.YtgeoebodlcbebaaFlT
import Derived.Test.YtgeoebodlcbebaaFifoRS
import Derived.Deep.CutRange
import Derived.Test.YtgeoebodlcbebaaFlS
import Derived.Deep.LoopGhost
import Derived.Deep.QuietTactic
namespace Fl
/-- the place of a flow, or -1 -/
def pl (l : List Rw) (f : Int) : Int := match row l f with | none => -1 | some _ => (l.findIdx (fun r => r.f == f) : Int)
theorem pl_no {l : List Rw} {f : Int} (h : row l f = none) : pl l f = -1 := by unfold pl; rw [h]
theorem pl_yes {a b : List Rw} {r : Rw} {f : Int} (hf : r.f = f) (ha : ∀ x ∈ a, x.f ≠ f) : pl (a ++ r :: b) f = (a.length : Int) := by
  have hr : row (a ++ r :: b) f = some r := by
    unfold row
    rw [List.find?_append]
    have : a.find? (fun r => r.f == f) = none := List.find?_eq_none.2 (fun x hx => by simpa using ha x hx)
    rw [this]
    simp [hf]
  unfold pl
  rw [hr]
  dsimp only
  congr 1
  rw [List.findIdx_append]
  have h1 : a.findIdx (fun r => r.f == f) = a.length := List.findIdx_eq_length.2 (fun x hx => by simpa using ha x hx)
  rw [h1]
  simp [hf, List.findIdx_cons]
end Fl
namespace Go.Proofs.Ytgeoebodlcbebaa
open Go.RowKit
set_option linter.unusedVariables false

def eltD : Elt Try.prog DR where
  st := 27
  e := 37
  z := .agg #[.int .i64 0, .int .i64 0, .int .i64 0, .slice none 0 0]
  size := 4
  bytes := 48
  pv := fun d => [.int .i64 d.r.f, .int .i64 d.r.w, .int .i64 d.r.d, .slice d.a d.r.its.length d.cap]
  ht := Try.underlying27
  info := by kernel_rfl
  hz := rfl
  pos := by decide
  le := by decide
  len := fun _ => rfl
  one := fun s u hu => by simp at hu; rcases hu with rfl | rfl | rfl | rfl <;> rfl
theorem rows_at {w : World} {a : Option Addr} {l : List DR} (h : eltD.View w a l) (h0 : 0 < l.length) : ∃ g off, a = some ⟨g, off, none⟩ ∧ g < w.heap.size ∧ ∀ j (hj : j < l.length), w.cell? ⟨g, off + j * 4, none⟩ = some (.int .i64 l[j].r.f) ∧ w.cell? ⟨g, off + j * 4 + 1, none⟩ = some (.int .i64 l[j].r.w) ∧ w.cell? ⟨g, off + j * 4 + 2, none⟩ = some (.int .i64 l[j].r.d) ∧ w.cell? ⟨g, off + j * 4 + 3, none⟩ = some (.slice l[j].a l[j].r.its.length l[j].cap) := by
  obtain ⟨g, off, ha, hg, hc⟩ := h.is h0
  exact ⟨g, off, ha, hg, fun j hj => ⟨hc j hj 0 _ rfl, hc j hj 1 _ rfl, hc j hj 2 _ rfl, hc j hj 3 _ rfl⟩⟩
abbrev refO (q : Int) (a : Option Addr) (n cap : Nat) (g : Bool) : Obj := .cells #[.int .i64 q, .slice a n cap, .bool g] 29
/-- the blocks of rows -/
def rfB (a : Option Addr) (ds : List DR) (k : Nat) : Prop := (0 < ds.length ∧ ∃ off sp, a = some ⟨k, off, sp⟩) ∨ ∃ d ∈ ds, 0 < d.r.its.length ∧ ∃ off sp, d.a = some ⟨k, off, sp⟩
/-- the document's ring in block V -/
structure RfAt (w : World) (V : Nat) (s : Fl.St) (a : Option Addr) (cap : Nat) (ds : List DR) : Prop where
  o : w.heap[V]? = some (refO s.q a ds.length cap s.g)
  v : eltD.View w a ds
  l : ds.map DR.r = s.l
  d : ∀ d ∈ ds, DOk w d
  z : a = none → cap = 0
  le : ds.length ≤ cap
  nv : ∀ k, rfB a ds k → k ≠ V
/-- its blocks -/
def rfD (V : Nat) (a : Option Addr) (ds : List DR) (k : Nat) : Prop := k = V ∨ rfB a ds k
theorem Elt.Row.le {α : Type} {E : Elt Try.prog α} {w : World} {B n cap : Nat} {a : Option Addr} {l : List α} (h : E.Row w B (.slice a n cap) l) : l.length ≤ cap := by
  obtain ⟨_, ⟨hv, h0⟩ | ⟨g, c2, cur, hv, hg, hc, hn, hm, hs, hx⟩⟩ := h
  · cases hv; omega
  · cases hv; exact hn
theorem View.keep {α : Type} {E : Elt Try.prog α} {w w' : World} {a : Option Addr} {l : List α} (h : E.View w a l) (hz : w.heap.size ≤ w'.heap.size) (hk : 0 < l.length → ∀ g off sp, a = some ⟨g, off, sp⟩ → w'.heap[g]? = w.heap[g]?) : E.View w' a l := by
  refine ⟨fun h0 => ?_⟩
  obtain ⟨g, off, ha, hg, hc⟩ := h.is h0
  exact ⟨g, off, ha, by omega, fun j hj i u hu => (cell_eq' (hk h0 g off none ha) _).trans (hc j hj i u hu)⟩
section
variable {w w' : World} {V : Nat} {s : Fl.St} {a : Option Addr} {cap : Nat} {ds : List DR}
theorem RfAt.keep (h : RfAt w V s a cap ds) (hz : w.heap.size ≤ w'.heap.size) (hk : ∀ k, rfD V a ds k → w'.heap[k]? = w.heap[k]?) : RfAt w' V s a cap ds :=
  ⟨(hk V (Or.inl rfl)).trans h.o, View.keep h.v hz (fun h0 g off sp ha => hk g (Or.inr (Or.inl ⟨h0, off, sp, ha⟩))), h.l, fun d hd => ⟨View.keep (h.d d hd).v hz (fun h0 g off sp ha => hk g (Or.inr (Or.inr ⟨d, hd, h0, off, sp, ha⟩))), (h.d d hd).z⟩, h.z, h.le, h.nv⟩
theorem RfAt.lt (h : RfAt w V s a cap ds) : ∀ k, rfD V a ds k → k < w.heap.size := by
  rintro k (e | ⟨h0, off, sp, ha⟩ | ⟨d, hd, h0, off, sp, ha⟩)
  · subst e; exact lt_block h.o
  · obtain ⟨g, off', ha', hg, _⟩ := h.v.is h0
    rw [ha] at ha'; cases ha'; exact hg
  · obtain ⟨g, off', ha', hg, _⟩ := (h.d d hd).v.is h0
    rw [ha] at ha'; cases ha'; exact hg
theorem RfAt.below (h : RfAt w V s a cap ds) (hb : Below w.heap.size w w') : RfAt w' V s a cap ds := h.keep hb.size (fun k hk => hb.block k (h.lt k hk))
theorem RfAt.cs (h : RfAt w V s a cap ds) : w.cell? ⟨V, 0, none⟩ = some (.int .i64 s.q) ∧ w.cell? ⟨V, 1, none⟩ = some (.slice a ds.length cap) ∧ w.cell? ⟨V, 2, none⟩ = some (.bool s.g) := by
  have := h.o
  exact ⟨by rw [cell_of_row w _ _ _ _ _ this]; rfl, by rw [cell_of_row w _ _ _ _ _ this]; rfl, by rw [cell_of_row w _ _ _ _ _ this]; rfl⟩
theorem RfAt.fr (h : RfAt w V s a cap ds) (i : Nat) : w.frozen? ⟨V, i, none⟩ = false := frozen_of w V i _ _ h.o
end
set_option maxRecDepth 100000 in
set_option maxHeartbeats 1000000 in
theorem refFindFC (q : Int) (g0 : Bool) (f : Int) (a : Option Addr) (cap : Nat) (ds : List DR) (w : World) (hl : ds.length ≤ 1000000) (h : eltD.View w a ds) :
    Calls Try.prog 11 #[.agg #[.int .i64 q, .slice a ds.length cap, .bool g0], .int .i64 f] w (Ret (.int .i64 (Fl.pl (ds.map DR.r) f)) w) := by
  have hbx : Below w.heap.size w (w.alloc (refO q a ds.length cap g0)) := (Below.refl _ _).alloc (Nat.le_refl _) _
  have HV := Lib.hid (h.below hbx)
  have HB := Lib.hid hbx
  clear h hbx
  go_enter Try.func11, Try.ntmps11
  go_wp2
  go_loop [5] (fun s => ∃ j : Nat, j ≤ ds.length ∧ s = .int .i64 (j : Int) ∧ Hid (∀ x ∈ (ds.take j).map DR.r, x.f ≠ f)) (fun s => ds.length - (intOf s).toNat)
  case atStart => exact ⟨0, by omega, rfl, Lib.hid (by simp)⟩
  case round =>
    obtain ⟨j, hj, rfl, hn⟩ := hrel
    by_cases hlt : j < ds.length
    · obtain ⟨g, off, rfl, hg, hc⟩ := rows_at HV.out (by omega)
      obtain ⟨c0, _⟩ := hc j hlt
      have htk := take_snoc hlt
      have hdr : ds = ds.take j ++ ds[j] :: ds.drop (j + 1) := by rw [List.getElem_cons_drop, List.take_append_drop]
      have hyes : ds[j].r.f = f → Fl.pl (ds.map DR.r) f = (j : Int) := fun he => by
        have := Fl.pl_yes (a := (ds.take j).map DR.r) (b := (ds.drop (j + 1)).map DR.r) (r := ds[j].r) he hn.out
        rw [← List.map_cons, ← List.map_append, ← hdr] at this
        rw [this]
        simp; omega
      have hno : ds[j].r.f ≠ f → ∀ x ∈ (ds.take (j + 1)).map DR.r, x.f ≠ f := fun he x hx => by
        rw [htk, List.map_append] at hx
        rcases List.mem_append.1 hx with h | h
        · exact hn.out x h
        · obtain rfl : x = ds[j].r := by simpa using h
          exact he
      have HY := Lib.hid hyes
      have HN := Lib.hid hno
      clear hc htk hdr hyes hno hn
      generalize ds[j].r.f = x at *
      by_cases e1 : x = f
      · have H := Lib.hid (HY.out e1)
        have t1 : (f == f) = true := by simp
        subst e1
        clear HN HY
        go_wp2
        go_ret
        exact ⟨by rw [H.out]; rfl, HB.out⟩
      · have t1 : (x == f) = false := by simpa using e1
        have H := Lib.hid (HN.out e1)
        clear e1 HN HY
        go_wp2
        go_round
        case rel => exact ⟨j + 1, by omega, by go_num, H⟩
        case measure => simp [intOf]; omega
    · obtain rfl : j = ds.length := by omega
      have H : Hid (Fl.pl (ds.map DR.r) f = -1) := Lib.hid (Fl.pl_no (Fl.row_none.2 (fun x hx => hn.out x (by rw [List.take_length]; exact hx))))
      clear hn
      go_wp2
      go_ret
      exact ⟨by rw [H.out]; rfl, HB.out⟩
end Go.Proofs.Ytgeoebodlcbebaa

namespace Go.Proofs.Ytgeoebodlcbebaa
open Go.RowKit
set_option linter.unusedVariables false

abbrev drO (x : DR) : Obj := .cells #[.int .i64 x.r.f, .int .i64 x.r.w, .int .i64 x.r.d, .slice x.a x.r.its.length x.cap] 37
def xs (x : DR) : List DR := if x.r.its = [] then [] else [x]
/-- the rows so far -/
def acc (A B : List DR) (x : DR) (k : Nat) : List DR := if k ≤ A.length then A.take k else A ++ xs x ++ B.take (k - A.length - 1)
theorem acc_lt {A B : List DR} {o x : DR} {k : Nat} (h : k < A.length) (hk : k < (A ++ o :: B).length) : acc A B x (k + 1) = acc A B x k ++ [(A ++ o :: B)[k]] := by
  unfold acc
  rw [if_pos (by omega), if_pos (by omega), take_snoc h, List.getElem_append_left h]
theorem acc_at {A B : List DR} {x : DR} : acc A B x (A.length + 1) = acc A B x A.length ++ xs x := by
  unfold acc
  rw [if_neg (by omega), if_pos (by omega)]
  simp
set_option maxRecDepth 4000 in
theorem acc_gt {A B : List DR} {o x : DR} {k : Nat} (h : A.length < k) (hk : k < (A ++ o :: B).length) : acc A B x (k + 1) = acc A B x k ++ [(A ++ o :: B)[k]] := by
  unfold acc
  have hj : k - A.length - 1 < B.length := by simp at hk; omega
  rw [if_neg (by omega), if_neg (by omega), show k + 1 - A.length - 1 = (k - A.length - 1) + 1 by omega, take_snoc hj, ← List.append_assoc]
  congr 2
  rw [List.getElem_append_right (by omega)]
  obtain ⟨j, hj2⟩ : ∃ j, k - A.length = j + 1 := ⟨k - A.length - 1, by omega⟩
  simp only [hj2, Nat.add_sub_cancel, List.getElem_cons_succ]
theorem acc_end {A B : List DR} {o x : DR} : acc A B x (A ++ o :: B).length = A ++ xs x ++ B := by
  unfold acc
  rw [if_neg (by simp), List.take_of_length_le (by simp)]
theorem acc_len (A B : List DR) (x : DR) (k : Nat) : (acc A B x k).length ≤ A.length + B.length + 1 := by
  unfold acc xs
  split
  · simp; omega
  · split <;> simp <;> omega
theorem acc_mem {A B : List DR} {o x : DR} {k : Nat} {d : DR} (h : d ∈ acc A B x k) : d ∈ A ++ o :: B ∨ (d = x ∧ x.r.its ≠ []) := by
  unfold acc xs at h
  split at h
  · left; simp [List.mem_of_mem_take h]
  · split at h
    · simp at h
      rcases h with h | h
      · left; simp [h]
      · left; simp [List.mem_of_mem_take h]
    · rename_i hx
      simp at h
      rcases h with h | h | h
      · left; simp [h]
      · right; exact ⟨h, hx⟩
      · left; simp [List.mem_of_mem_take h]
structure RetWi (V : Nat) (s : Fl.St) (a : Option Addr) (ds : List DR) (x : DR) (w : World) (e : Ending) (w' : World) : Prop where
  e : e = .returned (.tuple #[])
  s : ∃ a' cap' ds', RfAt w' V (s.with x.r) a' cap' ds' ∧ ∀ k, rfD V a' ds' k → rfD V a ds k ∨ (0 < x.r.its.length ∧ ∃ off sp, x.a = some ⟨k, off, sp⟩) ∨ w.heap.size ≤ k
  c : Chg (fun k => k = V) w w'
theorem dr_cells {w : World} {X : Nat} {x : DR} (h : w.heap[X]? = some (drO x)) : w.cell? ⟨X, 0, none⟩ = some (.int .i64 x.r.f) ∧ w.cell? ⟨X, 1, none⟩ = some (.int .i64 x.r.w) ∧ w.cell? ⟨X, 2, none⟩ = some (.int .i64 x.r.d) ∧ w.cell? ⟨X, 3, none⟩ = some (.slice x.a x.r.its.length x.cap) :=
  ⟨by rw [cell_of_row w _ _ _ _ _ h]; rfl, by rw [cell_of_row w _ _ _ _ _ h]; rfl, by rw [cell_of_row w _ _ _ _ _ h]; rfl, by rw [cell_of_row w _ _ _ _ _ h]; rfl⟩
set_option maxRecDepth 100000 in
set_option maxHeartbeats 8000000 in
theorem withC (V : Nat) (s : Fl.St) (a : Option Addr) (cap : Nat) (A B : List DR) (o x : DR) (w : World) (hl : (A ++ o :: B).length ≤ 1000000) (h : RfAt w V s a cap (A ++ o :: B)) (hx : DOk w x) (hxv : 0 < x.r.its.length → ∀ g off sp, x.a = some ⟨g, off, sp⟩ → g ≠ V) (hf : o.r.f = x.r.f) (hnd : (s.l.map (·.f)).Nodup) (hxl : x.r.its.length ≤ 1000000) :
    Calls Try.prog 51 #[.pointer (some ⟨V, 0, none⟩), .int .i64 ((A.length : Nat) : Int), .agg #[.int .i64 x.r.f, .int .i64 x.r.w, .int .i64 x.r.d, .slice x.a x.r.its.length x.cap]] w (RetWi V s a (A ++ o :: B) x w) := by
  obtain ⟨w1, hw1⟩ : ∃ w1, w1 = w.alloc (drO x) := ⟨_, rfl⟩
  have hz1 : w1.heap.size = w.heap.size + 1 := by rw [hw1]; simp
  have hb1 : Below w.heap.size w w1 := by rw [hw1]; exact (Below.refl _ _).alloc (Nat.le_refl _) _
  have hX1 : w1.heap[w.heap.size]? = some (drO x) := by rw [hw1]; exact heap_alloc_new _ _
  have hrow0 : eltD.Row (w1.alloc (.cells #[] 37)) (w.heap.size + 1) (.slice (some ⟨w.heap.size + 1, 0, none⟩) 0 0) [] := by
    have := Elt.Row.lit (E := eltD) w1 (w.heap.size + 1) (by omega)
    rwa [hz1] at this
  have hb2 : Below (w.heap.size + 1) w1 (w1.alloc (.cells #[] 37)) := (Below.refl _ _).alloc (by omega) _
  have h1 := h.below hb1
  have hlt := h1.lt
  have hst : ∀ W, Below (w.heap.size + 1) w1 W → RfAt W V s a cap (A ++ o :: B) ∧ W.heap[w.heap.size]? = some (drO x) ∧ DOk W x := fun W hW => by
    refine ⟨h1.below (hW.mono (by omega)), (hW.block _ (by omega)).trans hX1, (hx.below hb1).below (hW.mono (by omega))⟩
  have hend : ∀ W u c0, Below (w.heap.size + 1) w1 W → eltD.Row W (w.heap.size + 1) (.slice u (A ++ xs x ++ B).length c0) (A ++ xs x ++ B) → ∀ W2, W2 = ((W.setCell ⟨V, 1, none⟩ (.slice u (A ++ xs x ++ B).length c0))) ∧ ¬ (A.length = 0 ∧ x.r.its.length = 0) ∨ W2 = ((W.setCell ⟨V, 2, none⟩ (.bool false)).setCell ⟨V, 1, none⟩ (.slice u (A ++ xs x ++ B).length c0)) ∧ (A.length = 0 ∧ x.r.its.length = 0) → RetWi V s a (A ++ o :: B) x w (.returned (.tuple #[])) W2 := fun W u c0 hW hrow W2 hW2 => by
    obtain ⟨k1, k2, k3⟩ := hst W hW
    have hVl : V < w.heap.size := lt_block h.o
    have hchg : Chg (fun k => k = V) w W2 := by
      have hbw : Below w.heap.size w W := hb1.trans (hW.mono (by omega))
      rcases hW2 with ⟨e, _⟩ | ⟨e, _⟩ <;> rw [e]
      · exact (Chg.of_below (F := fun k => k = V) hbw).setCell (p := ⟨V, 1, none⟩) (Or.inl rfl) _
      · exact ((Chg.of_below (F := fun k => k = V) hbw).setCell (p := ⟨V, 2, none⟩) (Or.inl rfl) _).setCell (p := ⟨V, 1, none⟩) (Or.inl rfl) _
    have hoth : ∀ k, k ≠ V → W2.heap[k]? = W.heap[k]? := fun k hk => by
      rcases hW2 with ⟨e, _⟩ | ⟨e, _⟩ <;> rw [e]
      · exact Below.heap_setCell _ _ _ _ hk
      · exact (Below.heap_setCell _ _ _ _ hk).trans (Below.heap_setCell _ _ _ _ hk)
    have hz2 : W2.heap.size = W.heap.size := by rcases hW2 with ⟨e, _⟩ | ⟨e, _⟩ <;> rw [e] <;> simp [World.setCell]
    obtain ⟨a3, c3, e3, hfl, hz3⟩ := hrow.flat0
    obtain ⟨rfl, rfl⟩ : u = a3 ∧ c0 = c3 := by injection e3 with e1 e2 e3; exact ⟨e1, e3⟩
    clear e3
    have hnV : ∀ g off sp, u = some ⟨g, off, sp⟩ → w.heap.size < g := fun g off sp ha => by
      have := hrow.lt g (by rw [ha]; rfl)
      omega
    have hmem : ∀ d ∈ A ++ xs x ++ B, d ∈ A ++ o :: B ∨ d = x := fun d hd => by
      unfold xs at hd
      split at hd
      · simp at hd
        rcases hd with h | h
        · left; simp [h]
        · left; simp [h]
      · simp at hd
        rcases hd with h | h | h
        · left; simp [h]
        · exact Or.inr h
        · left; simp [h]
    have hnd' : ∀ d ∈ A ++ xs x ++ B, 0 < d.r.its.length → ∀ g off sp, d.a = some ⟨g, off, sp⟩ → g ≠ V := fun d hd h0 g off sp ha => by
      rcases hmem d hd with e | e
      · exact h.nv g (Or.inr ⟨d, e, h0, off, sp, ha⟩)
      · subst e; exact hxv h0 g off sp ha
    have hsl : s.l = A.map DR.r ++ o.r :: B.map DR.r := by rw [← h.l]; simp
    obtain ⟨p1, p2⟩ := Fl.with_split (x := x.r) hnd hsl hf
    refine ⟨rfl, ⟨u, c0, A ++ xs x ++ B, ⟨?_, View.keep hfl.view (by omega) (fun h0 g off sp ha => hoth g (by have := hnV g off sp ha; omega)), ?_, fun d hd => ?_, hz3, hrow.le, ?_⟩, fun k hk => ?_⟩, hchg⟩
    · have hVo := k1.o
      have hq : (s.with x.r).q = s.q := rfl
      have hlen : (A ++ xs x ++ B).length = (A ++ xs x ++ B).length := rfl
      rw [hq, p2]
      rcases hW2 with ⟨e, he⟩ | ⟨e, he⟩ <;> rw [e]
      · have : (if x.r.its = [] ∧ A.map DR.r = [] then false else s.g) = s.g := by
          rw [if_neg]
          rintro ⟨q1, q2⟩
          exact he ⟨by simpa using q2, by rw [q1]; rfl⟩
        rw [this]
        exact setCell_block W V 1 _ _ _ hVo
      · have : (if x.r.its = [] ∧ A.map DR.r = [] then false else s.g) = false := by
          rw [if_pos]
          exact ⟨List.length_eq_zero_iff.1 he.2, by simpa using he.1⟩
        rw [this]
        exact setCell_block _ V 1 _ _ _ (setCell_block W V 2 _ _ _ hVo)
    · rw [p1]
      unfold xs
      by_cases hi : x.r.its = []
      · rw [if_pos hi, if_pos hi]; simp
      · rw [if_neg hi, if_neg hi]; simp
    · have hd' : DOk W d := by
        rcases hmem d hd with e | e
        · exact k1.d d e
        · subst e; exact k3
      exact ⟨View.keep hd'.v (by omega) (fun h0 g off sp ha => hoth g (hnd' d hd h0 g off sp ha)), hd'.z⟩
    · rintro k (⟨h0, off, sp, ha⟩ | ⟨d, hd, h0, off, sp, ha⟩)
      · have := hnV k off sp ha; omega
      · exact hnd' d hd h0 k off sp ha
    · rcases hk with e | ⟨h0, off, sp, ha⟩ | ⟨d, hd, h0, off, sp, ha⟩
      · exact Or.inl (Or.inl e)
      · have := hnV k off sp ha; right; right; omega
      · rcases hmem d hd with e | e
        · exact Or.inl (Or.inr (Or.inr ⟨d, e, h0, off, sp, ha⟩))
        · subst e; exact Or.inr (Or.inl ⟨h0, off, sp, ha⟩)
  have hN1 : (A ++ o :: B).length = A.length + B.length + 1 := by simp; omega
  have hIN : A.length < (A ++ o :: B).length := by simp
  have hacl := acc_len A B x
  have h_lt := fun k (h : k < A.length) (hk : k < (A ++ o :: B).length) => acc_lt (x := x) h hk
  have h_at := acc_at (A := A) (B := B) (x := x)
  have h_gt := fun k (h : A.length < k) (hk : k < (A ++ o :: B).length) => acc_gt (x := x) h hk
  have h_end := acc_end (A := A) (B := B) (o := o) (x := x)
  have h_0 : acc A B x 0 = [] := by simp [acc]
  generalize hds : (A ++ o :: B) = ds at *
  generalize hds2 : A ++ xs x ++ B = ds2 at *
  generalize hI : A.length = I at *
  clear hds2 hI
  have HST := Lib.hid hst
  have HEND := Lib.hid hend
  have HROW := Lib.hid hrow0
  have HB2 := Lib.hid hb2
  have HW1 := Lib.hid hw1
  have H0 := Lib.hid h_0
  have HLT := Lib.hid h_lt
  have HAT := Lib.hid h_at
  have HGT := Lib.hid h_gt
  have HE := Lib.hid h_end
  have HACL : Hid (∀ k, (acc A B x k).length ≤ 1000000) := Lib.hid (fun k => by have := hacl k; omega)
  generalize hac : acc A B x = ac at *
  clear hst hend hrow0 hb2 hw1 h_0 h_lt h_at h_gt h_end hN1 hacl h hx hf hnd h1 hlt hX1 hb1 hds hac hxv
  go_enter Try.func51, Try.ntmps51
  go_wp2
  rw [← HW1.out]
  go_loopg [6, 7] ds.length (fun gk u i wr => ∃ k : Nat, k ≤ ds.length ∧ gk = ds.length - k ∧ i = .int .i64 ((k : Nat) : Int) ∧ Hid (Below (w.heap.size + 1) w1 wr ∧ eltD.Row wr (w.heap.size + 1) u (ac k)))
  case atStart => exact ⟨0, by omega, by omega, rfl, Lib.hid ⟨HB2.out, by rw [H0.out]; exact HROW.out⟩⟩
  case round =>
    obtain ⟨k, hk, rfl, rfl, hst⟩ := hrel
    clear HROW HB2 H0
    obtain ⟨hb, hrow⟩ := hst.out
    obtain ⟨ad, cp, rfl⟩ := hrow.slice
    obtain ⟨hR, hXb, hxk⟩ := HST.out _ hb
    obtain ⟨_, c1, _⟩ := hR.cs
    obtain ⟨b0, b1, b2, b3⟩ := dr_cells hXb
    have hB := hb.size
    have hBz : w.heap.size + 1 ≤ wr.heap.size := by omega
    have hacl := HACL.out k
    by_cases hlt : k < ds.length
    · obtain ⟨g, off, rfl, hg, hc⟩ := rows_at hR.v (by omega)
      obtain ⟨d0, d1, d2, d3⟩ := hc k hlt
      by_cases hki : k = I
      · subst hki
        have t0 : (((k : Nat) : Int) != ((k : Nat) : Int)) = false := by simp
        have hAT := HAT.out
        unfold xs at hAT
        by_cases hi : x.r.its = []
        · rw [if_pos hi, List.append_nil] at hAT
          have HN := Lib.hid hAT
          have HBR := Lib.hid (And.intro hb hrow)
          have hn0 : x.r.its.length = 0 := by rw [hi]; rfl
          rw [hn0] at b3
          clear hAT hst hb hrow hR hXb hxk hc hi HLT HGT d0 d1 d2 d3 hn0
          go_wp2
          go_roundg (ds.length - (k + 1))
          case rel => exact ⟨k + 1, by omega, rfl, by go_num, Lib.hid ⟨HBR.out.1, by rw [HN.out]; exact HBR.out.2⟩⟩
          case measure => omega
        · rw [if_neg hi] at hAT
          have HN := Lib.hid hAT
          have hp : 0 < x.r.its.length := List.length_pos_iff.2 hi
          have HBR := Lib.hid hrow
          have HB3 := Lib.hid hb
          have e1 : eltD.pv x = [.int .i64 x.r.f, .int .i64 x.r.w, .int .i64 x.r.d, .slice x.a x.r.its.length x.cap] := rfl
          have HE1 := Lib.hid e1
          clear hAT hst hb hrow hR hXb hxk hc hi HLT HGT d0 d1 d2 d3 e1
          generalize x.r.its.length = NX at *
          go_wp2_with (at_builtin; (refine eltD.wpApp wr rfl _ _ rfl (w.heap.size + 1) (.slice ad (ac k).length cp) (ac k) rfl HBR.out #[.int .i64 x.r.f, .int .i64 x.r.w, .int .i64 x.r.d, .slice x.a NX x.cap] _ rfl x HE1.out.symm (by omega) hBz ?_); intro v' w2 hown hb2 hkeep hlies)
          have HR2 := Lib.hid (show Below (w.heap.size + 1) w1 w2 ∧ eltD.Row w2 (w.heap.size + 1) v' (ac (k + 1)) from ⟨HB3.out.trans hb2, by rw [HN.out]; exact hown⟩)
          go_roundg (ds.length - (k + 1))
          case rel => exact ⟨k + 1, by omega, rfl, by go_num, HR2⟩
          case measure => omega
      · have t0 : (((k : Nat) : Int) != ((I : Nat) : Int)) = true := by simp; omega
        have hN : ac (k + 1) = ac k ++ [ds[k]] := by
          rcases Nat.lt_or_gt_of_ne hki with h | h
          · exact HLT.out k h hlt
          · exact HGT.out k h hlt
        have HN := Lib.hid hN
        have HBR := Lib.hid hrow
        have HB3 := Lib.hid hb
        generalize ds[k] = y at *
        have e1 : eltD.pv y = [.int .i64 y.r.f, .int .i64 y.r.w, .int .i64 y.r.d, .slice y.a y.r.its.length y.cap] := rfl
        have HE1 := Lib.hid e1
        clear hst hb hrow hR hXb hxk hc HLT HGT hki hN e1 HAT b0 b1 b2 b3
        generalize y.r.its.length = NY at *
        go_wp2_with (at_builtin; (refine eltD.wpApp wr rfl _ _ rfl (w.heap.size + 1) (.slice ad (ac k).length cp) (ac k) rfl HBR.out #[.int .i64 y.r.f, .int .i64 y.r.w, .int .i64 y.r.d, .slice y.a NY y.cap] _ rfl y HE1.out.symm (by omega) hBz ?_); intro v' w2 hown hb2 hkeep hlies)
        have HR2 := Lib.hid (show Below (w.heap.size + 1) w1 w2 ∧ eltD.Row w2 (w.heap.size + 1) v' (ac (k + 1)) from ⟨HB3.out.trans hb2, by rw [HN.out]; exact hown⟩)
        go_roundg (ds.length - (k + 1))
        case rel => exact ⟨k + 1, by omega, rfl, by go_num, HR2⟩
        case measure => omega
    · obtain rfl : k = ds.length := by omega
      rw [HE.out] at hrow ⊢
      have f1 := hR.fr 1
      have f2 := hR.fr 2
      obtain ⟨_, _, c2⟩ := hR.cs
      have HBR := Lib.hid (And.intro hb hrow)
      clear hst hb hrow hR hXb hxk HLT HGT HAT HACL hacl
      by_cases hI0 : I = 0
      · subst hI0
        by_cases hn : x.r.its.length = 0
        · have HF := Lib.hid (HEND.out wr ad cp HBR.out.1 HBR.out.2 _ (Or.inr ⟨rfl, rfl, hn⟩))
          clear HEND
          rw [hn] at b3
          clear hn
          go_wp2
          go_end0
          exact HF.out
        · have HF := Lib.hid (HEND.out wr ad cp HBR.out.1 HBR.out.2 _ (Or.inl ⟨rfl, fun e => hn e.2⟩))
          have hp : 0 < x.r.its.length := by omega
          have t1 : (((x.r.its.length : Nat) : Int) == 0) = false := beq_eq_false_iff_ne.2 (by omega)
          clear HEND
          generalize x.r.its.length = NX at *
          go_wp2
          go_end0
          exact HF.out
      · have HF := Lib.hid (HEND.out wr ad cp HBR.out.1 HBR.out.2 _ (Or.inl ⟨rfl, fun e => hI0 e.1⟩))
        have t1 : (((I : Nat) : Int) == 0) = false := by simp; omega
        clear HEND
        generalize x.r.its.length = NX at *
        go_wp2
        go_end0
        exact HF.out
end Go.Proofs.Ytgeoebodlcbebaa

namespace Go.Proofs.Ytgeoebodlcbebaa
open Go.RowKit
set_option linter.unusedVariables false

def RfIs (w : World) (V : Nat) (s : Fl.St) (D : Nat → Prop) : Prop := ∃ a cap ds, RfAt w V s a cap ds ∧ ∀ k, D k ↔ rfD V a ds k
structure RetRf (r : Value) (V : Nat) (s' : Fl.St) (D : Nat → Prop) (w : World) (e : Ending) (w' : World) : Prop where
  r : e = .returned r
  s : ∃ D', RfIs w' V s' D' ∧ ∀ k, D' k → D k ∨ w.heap.size ≤ k
  c : Chg (fun k => k = V) w w'
theorem RfAt.same {w w' : World} {V : Nat} {s : Fl.St} {a : Option Addr} {cap : Nat} {ds : List DR} {D : Nat → Prop} (h : RfAt w V s a cap ds) (hD : ∀ k, D k ↔ rfD V a ds k) (hb : Below w.heap.size w w') (r : Value) : RetRf r V s D w (.returned r) w' :=
  ⟨rfl, ⟨D, ⟨a, cap, ds, h.below hb, hD⟩, fun k hk => Or.inl hk⟩, Chg.of_below hb⟩
/-- the place of a flow in the rows -/
theorem split_ds {ds : List DR} {l : List Fl.Rw} {f : Int} {r : Fl.Rw} (hl : ds.map DR.r = l) (h : Fl.row l f = some r) : ∃ A o B, ds = A ++ o :: B ∧ o.r = r ∧ r.f = f ∧ Fl.pl l f = ((A.length : Nat) : Int) := by
  obtain ⟨a, b, e, hf, ha⟩ := Fl.row_split h
  rw [e] at hl
  obtain ⟨A, T, e1, e2, e3⟩ := List.map_eq_append_iff.1 hl
  cases T with
  | nil => cases e3
  | cons o B =>
    rw [List.map_cons] at e3
    obtain ⟨e4, e5⟩ := List.cons.inj e3
    refine ⟨A, o, B, e1, e4, hf, ?_⟩
    rw [e, Fl.pl_yes hf ha, ← e2]; simp
theorem mid_get {α : Type} {A B : List α} {o : α} (h : A.length < (A ++ o :: B).length) : (A ++ o :: B)[A.length] = o := by simp
/-- with, on a state -/
theorem RfAt.withR {w0 w w' : World} {V : Nat} {s : Fl.St} {a : Option Addr} {ds : List DR} {x : DR} {D : Nat → Prop} {e : Ending} (hD : ∀ k, D k ↔ rfD V a ds k) (h : RetWi V s a ds x w e w') (hc : Chg (fun k => k = V) w0 w) (hx : ∀ g off sp, x.a = some ⟨g, off, sp⟩ → 0 < x.r.its.length → D g ∨ w0.heap.size ≤ g) (r : Value) {s' : Fl.St} (hs : s.with x.r = s') : RetRf r V s' D w0 (.returned r) w' := by
  obtain ⟨a', cap', ds', h1, h2⟩ := h.s
  refine ⟨rfl, ⟨rfD V a' ds', ⟨a', cap', ds', by rw [← hs]; exact h1, fun k => Iff.rfl⟩, fun k hk => ?_⟩, hc.trans h.c (fun k hk => Or.inl hk)⟩
  rcases h2 k hk with e | ⟨h0, off, sp, ha⟩ | e
  · exact Or.inl ((hD k).2 e)
  · exact hx k off sp ha h0
  · right; have := hc.size; omega
set_option maxRecDepth 100000 in
set_option maxHeartbeats 8000000 in
theorem refDropFC (V : Nat) (s : Fl.St) (D : Nat → Prop) (f id : Int) (w : World) (h : RfIs w V s D) (hG : Fl.Good s) (hS : Fl.Small 90000 s) :
    Calls Try.prog 29 #[.pointer (some ⟨V, 0, none⟩), .int .i64 f, .int .i64 id] w (RetRf (.bool (s.dropB f id)) V (s.drop f id) D w) := by
  obtain ⟨a, cap, ds, h1, hD⟩ := h
  have hdl : ds.length ≤ 90000 := by have := hS.l; rw [← h1.l] at this; simpa using this
  obtain ⟨c0, c1, c2⟩ := h1.cs
  have KF := Lib.hid (refFindFC s.q s.g f a cap ds w (by omega) h1.v)
  rw [h1.l] at KF
  cases hr : Fl.row s.l f with
  | none =>
    have hd : s.dropB f id = false := by unfold Fl.St.dropB; rw [hr]
    rw [hd, Fl.drop_no hd]
    rw [Fl.pl_no hr] at KF
    have HF := Lib.hid (fun W (hW : Below w.heap.size w W) => h1.same hD hW (.bool false))
    clear h1 hD hdl hr hd hG hS
    go_enter Try.func29, Try.ntmps29
    go_wp2_with (go_at_call 11; (with_reducible refine KF.out.mono ?_); rintro e wA ⟨rfl, hA⟩)
    go_ret
    exact HF.out _ hA
  | some r =>
    obtain ⟨A, o, B, rfl, rfl, rfl, hpl⟩ := split_ds h1.l hr
    rw [hpl] at KF
    have hom : o ∈ A ++ o :: B := by simp
    have hmem : o.r ∈ s.l := (Fl.row_mem hr).1
    have hli := hS.its _ hmem
    have hIl : A.length < (A ++ o :: B).length := by simp
    obtain ⟨g, off, rfl, hg, hc⟩ := rows_at h1.v (by omega)
    obtain ⟨d0, d1, d2, d3⟩ := hc A.length hIl
    rw [mid_get hIl] at d0 d1 d2 d3
    have KP := Lib.hid (fun W (hW : Below w.heap.size w W) => refFindC id o.a o.cap o.r.its W (by omega) ((h1.d o hom).v.below hW))
    have hcell : ∀ W, Below w.heap.size w W → W.cell? ⟨V, 0, none⟩ = some (.int .i64 s.q) ∧ W.cell? ⟨V, 1, none⟩ = some (.slice (some ⟨g, off, none⟩) (A ++ o :: B).length cap) ∧ W.cell? ⟨g, off + A.length * 4, none⟩ = some (.int .i64 o.r.f) ∧ W.cell? ⟨g, off + A.length * 4 + 1, none⟩ = some (.int .i64 o.r.w) ∧ W.cell? ⟨g, off + A.length * 4 + 2, none⟩ = some (.int .i64 o.r.d) ∧ W.cell? ⟨g, off + A.length * 4 + 3, none⟩ = some (.slice o.a o.r.its.length o.cap) := fun W hW =>
      ⟨(h1.below hW).cs.1, (h1.below hW).cs.2.1, (hW.cell (p := ⟨g, _, none⟩) hg).trans d0, (hW.cell (p := ⟨g, _, none⟩) hg).trans d1, (hW.cell (p := ⟨g, _, none⟩) hg).trans d2, (hW.cell (p := ⟨g, _, none⟩) hg).trans d3⟩
    clear hc
    cases hh : Ff.has o.r.its id with
    | false =>
      have hd : s.dropB o.r.f id = false := by unfold Fl.St.dropB; rw [hr]; exact hh
      rw [hd, Fl.drop_no hd]
      have hpl2 : Ff.place o.r.its id = -1 := Ff.place_no (Ff.has_no.1 hh)
      rw [hpl2] at KP
      have HF := Lib.hid (fun W (hW : Below w.heap.size w W) => h1.same hD hW (.bool false))
      have HCL := Lib.hid hcell
      generalize (A ++ o :: B).length = N at *
      generalize A.length = I at *
      generalize o.r.its.length = M at *
      have hIl' : I < N := hIl
      clear h1 hD hdl hr hd hG hS hh hpl hpl2 hcell hom hmem hli
      go_enter Try.func29, Try.ntmps29
      go_wp2_with (first | (go_at_call 11; (with_reducible refine KF.out.mono ?_); rintro e wA ⟨rfl, hA⟩; obtain ⟨x0, x1, x2, x3, x4, x5⟩ := HCL.out _ hA) | (go_at_call 53; (with_reducible refine (KP.out _ hA).mono ?_); rintro e wB ⟨rfl, rfl⟩))
      go_ret
      exact HF.out _ hA
    | true =>
      have hd : s.dropB o.r.f id = true := by unfold Fl.St.dropB; rw [hr]; exact hh
      obtain ⟨r2, hr2, _, hdd⟩ := Fl.drop_yes hd
      rw [hr] at hr2
      cases hr2
      rw [hd]
      have t9 : decide (Ff.place o.r.its id < 0) = false := decide_eq_false (by have := (Ff.place_ge o.r.its id).2 hh; omega)
      have hdl2 := Ff.drop_length o.r.its id
      have hKD : ∀ WA, Below w.heap.size w WA → Calls Try.prog 52 #[.slice o.a o.r.its.length o.cap, .int .i64 id] (WA.alloc (.cells #[.int .i64 o.r.f, .int .i64 o.r.w, .int .i64 o.r.d, .slice o.a o.r.its.length o.cap] 37)) fun e W' => ∃ a' cap', e = .returned (.slice a' (Ff.drop o.r.its id).length cap') ∧ (W'.cell? ⟨WA.heap.size, 0, none⟩ = some (.int .i64 o.r.f) ∧ W'.cell? ⟨WA.heap.size, 1, none⟩ = some (.int .i64 o.r.w) ∧ W'.cell? ⟨WA.heap.size, 2, none⟩ = some (.int .i64 o.r.d) ∧ W'.cell? ⟨WA.heap.size, 3, none⟩ = some (.slice o.a o.r.its.length o.cap)) ∧ W'.frozen? ⟨WA.heap.size, 3, none⟩ = false ∧ Hid (Calls Try.prog 51 #[.pointer (some ⟨V, 0, none⟩), .int .i64 ((A.length : Nat) : Int), .agg #[.int .i64 o.r.f, .int .i64 o.r.w, .int .i64 o.r.d, .slice a' (Ff.drop o.r.its id).length cap']] (W'.setCell ⟨WA.heap.size, 3, none⟩ (.slice a' (Ff.drop o.r.its id).length cap')) fun e W'' => e = .returned (.tuple #[]) ∧ Hid (RetRf (.bool true) V (s.drop o.r.f id) D w (.returned (.bool true)) W'')) := fun WA hA => by
        have hbx : Below WA.heap.size WA (WA.alloc (drO o)) := (Below.refl _ _).alloc (Nat.le_refl _) _
        have hv1 : eltI.View (WA.alloc (drO o)) o.a o.r.its := ((h1.d o hom).v.below hA).below hbx
        refine (refDropC id o.a o.cap o.r.its _ (by omega) hv1).mono fun e W' hr => ?_
        obtain ⟨a', cap', rfl, hrow⟩ := hr.s
        have hX : W'.heap[WA.heap.size]? = some (drO o) := (hr.b.block _ (by simp)).trans (heap_alloc_new _ _)
        have hbw : Below w.heap.size w W' := hA.trans ((hbx.trans (hr.b.mono (by simp))).mono hA.size)
        obtain ⟨ad, cd, e3, hfl, hz⟩ := hrow.flat0
        obtain ⟨rfl, rfl⟩ : a' = ad ∧ cap' = cd := by injection e3 with e1 e2 e3; exact ⟨e1, e3⟩
        have hne : ∀ g off sp, a' = some ⟨g, off, sp⟩ → WA.heap.size < g ∧ g < W'.heap.size := fun g off sp ha => by
          have := hrow.lt g (by rw [ha]; rfl)
          simp at this
          omega
        have hVl : V < w.heap.size := lt_block h1.o
        have hc2 : Chg (fun k => k = V) w (W'.setCell ⟨WA.heap.size, 3, none⟩ (.slice a' (Ff.drop o.r.its id).length cap')) := (Chg.of_below (F := fun k => k = V) hbw).setCell (p := ⟨WA.heap.size, 3, none⟩) (Or.inr hA.size) _
        have hoth : ∀ k, k ≠ WA.heap.size → (W'.setCell ⟨WA.heap.size, 3, none⟩ (.slice a' (Ff.drop o.r.its id).length cap')).heap[k]? = W'.heap[k]? := fun k hk => Below.heap_setCell _ _ _ _ hk
        have hat : RfAt (W'.setCell ⟨WA.heap.size, 3, none⟩ (.slice a' (Ff.drop o.r.its id).length cap')) V s (some ⟨g, off, none⟩) cap (A ++ o :: B) := (h1.below hbw).keep (by simp [World.setCell]) (fun k hk => hoth k (fun e => by have := h1.lt k hk; have := hA.size; omega))
        have hw := withC V s _ cap A B o ⟨{ o.r with its := Ff.drop o.r.its id }, a', cap'⟩ _ (by omega) hat ⟨View.keep hfl.view (by simp [World.setCell]) (fun h0 g' off' sp ha => hoth g' (by have := hne g' off' sp ha; omega)), hz⟩ (fun h0 g' off' sp ha => by have := hne g' off' sp ha; have := hA.size; omega) rfl hG.nd (by show (Ff.drop o.r.its id).length ≤ 1000000; omega)
        refine ⟨a', cap', rfl, dr_cells hX, frozen_of _ _ _ _ _ hX, Lib.hid (hw.mono fun e W'' hr2 => ⟨hr2.e, Lib.hid ?_⟩)⟩
        exact RfAt.withR hD hr2 hc2 (fun g' off' sp ha h0 => Or.inr (by have := hne g' off' sp ha; have := hA.size; omega)) _ hdd.symm
      have KD := Lib.hid hKD
      have HCL := Lib.hid hcell
      generalize (A ++ o :: B).length = N at *
      generalize A.length = I at *
      generalize o.r.its.length = M at *
      generalize (Ff.drop o.r.its id).length = L at *
      generalize Ff.place o.r.its id = pp at *
      have hIl' : I < N := hIl
      clear h1 hD hdl hr hd hG hS hh hpl hcell hom hmem hli hKD hdd hdl2
      go_enter Try.func29, Try.ntmps29
      go_wp2_with (first | (go_at_call 11; (with_reducible refine KF.out.mono ?_); rintro e wA ⟨rfl, hA⟩; obtain ⟨x0, x1, x2, x3, x4, x5⟩ := HCL.out _ hA) | (go_at_call 53; (with_reducible refine (KP.out _ hA).mono ?_); rintro e wB ⟨rfl, rfl⟩) | (go_at_call 52; (with_reducible refine (KD.out _ hA).mono ?_); rintro e wC ⟨a', cap', rfl, ⟨y0, y1, y2, y3⟩, y4, hC⟩) | (go_at_call 51; (with_reducible refine hC.out.mono ?_); rintro e wD ⟨rfl, hE⟩))
      go_ret
      exact hE.out
end Go.Proofs.Ytgeoebodlcbebaa

namespace Go.Proofs.Ytgeoebodlcbebaa
open Go.RowKit
set_option linter.unusedVariables false

/-- 'append(own, x...)' at a step of a region that draws its order, x any slice, not nil -/
theorem Elt.stepAppS {P : Program} {α : Type} (E : Elt P α) (w : World) {ops : Array Oper} {o : Oper} {a : Act} {K : Act → World → Prop} {Q : Exit → Act → World → Prop} {Z : Prop} (hgd : o.guard = none) (s x : Operand)
    (ho : o.op = .call { callee := .builtin .append, args := #[s, x], argTypes := #[E.st, E.st] })
    (B : Nat) (v : Value) (l : List α) (hs : a.eval s = v) (hown : E.Row w B v l) (hv : v ≠ .slice none 0 0)
    (ad : Addr) (T : List α) (c : Nat) (hx : a.eval x = .slice (some ad) T.length c) (hT : E.View w (some ad) T) (hl : l.length + T.length ≤ 1000000) (hB : B ≤ w.heap.size)
    (hK : ∀ v' w', v' ≠ .slice none 0 0 → E.Row w' B v' (l ++ T) → Below B w w' → (∀ k, k < w.heap.size → some k ≠ v.ownBlock → w'.heap[k]? = w.heap[k]?) → K (a.put o.dst v') w') :
    if Region.wanted o (yielded ops a.tmps) = true then Oper.wp P o a w K Q else Z := by
  obtain ⟨i, hi, hz0, hz1, hz2⟩ := info_parts E.info
  by_cases h0 : 0 < T.length
  · obtain ⟨g, off, e, hg, hc⟩ := hT.is h0
    cases e
    refine step_append_lies _ hgd s x _ ho B E.e i E.z E.size E.bytes E.ht hi hz0 hz1 hz2 E.hz E.pos v l.length (E.cells l) hs hown ⟨g, off, none⟩ T.length c (E.cells T) hx (E.cells_length T) (Elt.View.cells hc) (E.cells_all T) h0 (by unfold maxLen; omega) (Nat.le_trans (Nat.mul_le_mul hl E.le) (by decide)) hB _ rfl ?_
    intro g2 cap w' h2 h3 h4 h5
    refine hK _ w' (fun h => by cases h) ?_ ?_ ?_
    · unfold Elt.Row
      rw [List.length_append, E.cells_append]
      exact h2
    · exact (Below.refl B w).grown h3 hB (fun k hk => (World.ownsRow.lt hown k hk).1)
    · exact fun k hk hne => h3.block k hk hne
  · have hT0 : T = [] := List.length_eq_zero_iff.1 (by omega)
    subst hT0
    have hfin := hK v w hv (by rw [List.append_nil]; exact hown) (Below.refl _ _) (fun _ _ _ => rfl)
    have hw : Region.wanted o (yielded ops a.tmps) = true := by simp [Region.wanted, hgd]
    rw [if_pos hw]
    have hrun := run_append_none (P := P) (w := w) B E.st o.type E.e i E.size E.ht hi v l.length (E.cells l) hown hv ad c
    have hx' : a.eval x = .slice (some ad) 0 c := hx
    unfold Oper.wp
    simp [execOp, ho, resolve, invoke, builtin, hs, hx', hrun, Result.andThen]
    exact hfin
/-- the document's Push of a queue, whatever comes -/
theorem refPushAny (id co : Int) (a : Option Addr) (cap : Nat) (l : List Ff.E) (w : World) (hl : l.length ≤ 100000) (ha : a = none → cap = 0) (h : eltI.View w a l) :
    Calls Try.prog 50 #[.slice a l.length cap, .agg #[.int .i64 id, .int .i64 co]] w fun e W' => ∃ a' cap', e = .returned (.tuple #[.slice a' (Ff.pushL l id co).length cap', .int .i64 (Ff.pushE l id co)]) ∧ Hid (eltI.View W' a' (Ff.pushL l id co) ∧ (a' = none → cap' = 0) ∧ (∀ g off sp, a' = some ⟨g, off, sp⟩ → a' = a ∧ Ff.pushL l id co = l ∨ w.heap.size ≤ g) ∧ Below w.heap.size w W') := by
  unfold Ff.pushL Ff.pushE
  cases hb : Ff.bad id co with
  | true => exact (refPushBad id co a cap l w hb).mono fun e W' hr => ⟨a, cap, hr.e, Lib.hid ⟨h.below hr.b, ha, fun g off sp e => Or.inl ⟨rfl, rfl⟩, hr.b⟩⟩
  | false =>
    cases hh : Ff.has l id with
    | true => exact (refPushThere id co a cap l w (by omega) h hb hh).mono fun e W' hr => ⟨a, cap, hr.e, Lib.hid ⟨h.below hr.b, ha, fun g off sp e => Or.inl ⟨rfl, rfl⟩, hr.b⟩⟩
    | false =>
      refine (refPushNew id co a cap l w (by omega) ha h hb hh).mono fun e W' hr => ?_
      obtain ⟨a', cap', he, hrow⟩ := hr.s
      obtain ⟨ad, cd, e3, hf, hz⟩ := hrow.flat0
      obtain ⟨rfl, rfl⟩ : a' = ad ∧ cap' = cd := by injection e3 with e1 e2 e3; exact ⟨e1, e3⟩
      exact ⟨a', cap', he, Lib.hid ⟨hf.view, hz, fun g off sp e => Or.inr (hrow.lt g (by rw [e]; rfl)).1, hr.b⟩⟩
set_option maxRecDepth 100000 in
set_option maxHeartbeats 8000000 in
theorem refPushBadC (V : Nat) (s : Fl.St) (D : Nat → Prop) (f wt id co : Int) (w : World) (h : RfIs w V s D) (hS : Fl.Small 90000 s) (hb : (f < 0 ∨ wt < 1 ∨ wt > 16) ∨ ∃ r, Fl.row s.l f = some r ∧ r.w ≠ wt) :
    Calls Try.prog 26 #[.pointer (some ⟨V, 0, none⟩), .int .i64 f, .int .i64 wt, .agg #[.int .i64 id, .int .i64 co]] w (RetRf (.int .i64 1) V s D w) := by
  obtain ⟨a, cap, ds, h1, hD⟩ := h
  have hdl : ds.length ≤ 90000 := by have := hS.l; rw [← h1.l] at this; simpa using this
  have hbx : Below w.heap.size w (w.alloc (itO id co)) := (Below.refl _ _).alloc (Nat.le_refl _) _
  have hw1 := h1.below hbx
  obtain ⟨c0, c1, c2⟩ := hw1.cs
  have KF := Lib.hid (refFindFC s.q s.g f a cap ds _ (by omega) hw1.v)
  have HF := Lib.hid (fun W (hW : Below (w.alloc (itO id co)).heap.size (w.alloc (itO id co)) W) => h1.same hD (hbx.trans (hW.mono (by simp))) (.int .i64 1))
  by_cases h0 : f < 0 ∨ wt < 1 ∨ wt > 16
  · generalize Fl.pl (ds.map DR.r) f = pp at *
    clear h1 hD hdl hS hb hbx hw1
    by_cases e1 : f < 0
    · clear h0
      go_enter Try.func26, Try.ntmps26
      go_wp2_with (go_at_call 11; (with_reducible refine KF.out.mono ?_); rintro e wA ⟨rfl, hA⟩)
      go_ret
      exact HF.out _ hA
    · by_cases e2 : wt < 1
      · clear h0
        go_enter Try.func26, Try.ntmps26
        go_wp2_with (go_at_call 11; (with_reducible refine KF.out.mono ?_); rintro e wA ⟨rfl, hA⟩)
        go_ret
        exact HF.out _ hA
      · have e3 : wt > 16 := by omega
        clear h0
        go_enter Try.func26, Try.ntmps26
        go_wp2_with (go_at_call 11; (with_reducible refine KF.out.mono ?_); rintro e wA ⟨rfl, hA⟩)
        go_ret
        exact HF.out _ hA
  · obtain ⟨r, hr, hw⟩ : ∃ r, Fl.row s.l f = some r ∧ r.w ≠ wt := by
      rcases hb with hb | hb
      · exact absurd hb h0
      · exact hb
    obtain ⟨A, o, B, rfl, rfl, rfl, hpl⟩ := split_ds h1.l hr
    rw [h1.l, hpl] at KF
    have hIl : A.length < (A ++ o :: B).length := by simp
    obtain ⟨g, off, rfl, hg, hc⟩ := rows_at hw1.v (by omega)
    have d1 := (hc A.length hIl).2.1
    rw [mid_get hIl] at d1
    have hcell : ∀ W, Below (w.alloc (itO id co)).heap.size (w.alloc (itO id co)) W → W.cell? ⟨V, 1, none⟩ = some (.slice (some ⟨g, off, none⟩) (A ++ o :: B).length cap) ∧ W.cell? ⟨g, off + A.length * 4 + 1, none⟩ = some (.int .i64 o.r.w) := fun W hW =>
      ⟨(hw1.below hW).cs.2.1, (hW.cell (p := ⟨g, _, none⟩) hg).trans d1⟩
    have HCL := Lib.hid hcell
    have t1 : (o.r.w != wt) = true := by simpa using hw
    have e1 : ¬ o.r.f < 0 := by omega
    have e2 : ¬ wt < 1 := by omega
    have e3 : ¬ wt > 16 := by omega
    clear hc
    generalize (A ++ o :: B).length = N at *
    generalize A.length = I at *
    generalize o.r.w = ow at *
    generalize o.r.f = f at *
    have hIl' : I < N := hIl
    clear h1 hD hdl hS hb hbx hw1 h0 hr hpl hcell hw
    go_enter Try.func26, Try.ntmps26
    go_wp2_with (go_at_call 11; (with_reducible refine KF.out.mono ?_); rintro e wA ⟨rfl, hA⟩; obtain ⟨x1, x2⟩ := HCL.out _ hA)
    go_ret
    exact HF.out _ hA
set_option maxRecDepth 100000 in
set_option maxHeartbeats 8000000 in
theorem refPushThereC (V : Nat) (s : Fl.St) (D : Nat → Prop) (f wt id co : Int) (w : World) (h : RfIs w V s D) (hG : Fl.Good s) (hS : Fl.Small 90000 s) (hok : ¬ (f < 0 ∨ wt < 1 ∨ wt > 16)) (r : Fl.Rw) (hr : Fl.row s.l f = some r) (hw : r.w = wt) :
    Calls Try.prog 26 #[.pointer (some ⟨V, 0, none⟩), .int .i64 f, .int .i64 wt, .agg #[.int .i64 id, .int .i64 co]] w (RetRf (.int .i64 (s.pushE f wt id co)) V (s.push f wt id co) D w) := by
  obtain ⟨p1, p2⟩ := Fl.push_there (id := id) (c := co) hok hr hw
  rw [p1, p2]
  obtain ⟨a, cap, ds, h1, hD⟩ := h
  have hdl : ds.length ≤ 90000 := by have := hS.l; rw [← h1.l] at this; simpa using this
  have hbx : Below w.heap.size w (w.alloc (itO id co)) := (Below.refl _ _).alloc (Nat.le_refl _) _
  have hw1 := h1.below hbx
  obtain ⟨c0, c1, c2⟩ := hw1.cs
  have KF := Lib.hid (refFindFC s.q s.g f a cap ds _ (by omega) hw1.v)
  obtain ⟨A, o, B, rfl, rfl, rfl, hpl⟩ := split_ds h1.l hr
  subst hw
  obtain ⟨S1, hS1⟩ : ∃ S1 : Fl.St, S1 = { s with l := Fl.put s.l { o.r with its := Ff.pushL o.r.its id co } } := ⟨_, rfl⟩
  rw [← hS1]
  rw [h1.l, hpl] at KF
  have hom : o ∈ A ++ o :: B := by simp
  have hmem : o.r ∈ s.l := (Fl.row_mem hr).1
  have hli := hS.its _ hmem
  have hne := (hG.ok _ hmem).ne
  have hpn : Ff.pushL o.r.its id co ≠ [] := by
    unfold Ff.pushL
    split
    · exact hne
    · split
      · exact hne
      · simp
  have hpll : (Ff.pushL o.r.its id co).length ≤ 90001 := by have := Fl.length_pushL' o.r.its id co; omega
  have hIl : A.length < (A ++ o :: B).length := by simp
  obtain ⟨g, off, rfl, hg, hc⟩ := rows_at hw1.v (by omega)
  have d0 := (hc A.length hIl).1
  have d1 := (hc A.length hIl).2.1
  have d2 := (hc A.length hIl).2.2.1
  have d3 := (hc A.length hIl).2.2.2
  rw [mid_get hIl] at d0 d1 d2 d3
  have hX0 : (w.alloc (itO id co)).heap[w.heap.size]? = some (itO id co) := heap_alloc_new _ _
  have hcell : ∀ W, Below (w.alloc (itO id co)).heap.size (w.alloc (itO id co)) W → W.cell? ⟨V, 1, none⟩ = some (.slice (some ⟨g, off, none⟩) (A ++ o :: B).length cap) ∧ W.cell? ⟨g, off + A.length * 4, none⟩ = some (.int .i64 o.r.f) ∧ W.cell? ⟨g, off + A.length * 4 + 1, none⟩ = some (.int .i64 o.r.w) ∧ W.cell? ⟨g, off + A.length * 4 + 2, none⟩ = some (.int .i64 o.r.d) ∧ W.cell? ⟨g, off + A.length * 4 + 3, none⟩ = some (.slice o.a o.r.its.length o.cap) ∧ (W.alloc (.cells #[.int .i64 o.r.f, .int .i64 o.r.w, .int .i64 o.r.d, .slice o.a o.r.its.length o.cap] 37)).cell? ⟨w.heap.size, 0, none⟩ = some (.int .i64 id) ∧ (W.alloc (.cells #[.int .i64 o.r.f, .int .i64 o.r.w, .int .i64 o.r.d, .slice o.a o.r.its.length o.cap] 37)).cell? ⟨w.heap.size, 1, none⟩ = some (.int .i64 co) := fun W hW => by
    have hX : W.heap[w.heap.size]? = some (itO id co) := (hW.block _ (by simp)).trans hX0
    obtain ⟨i0, i1⟩ := it_cells ((Lib.alloc_old W (drO o) _ (lt_block hX)).trans hX)
    exact ⟨(hw1.below hW).cs.2.1, (hW.cell (p := ⟨g, _, none⟩) hg).trans d0, (hW.cell (p := ⟨g, _, none⟩) hg).trans d1, (hW.cell (p := ⟨g, _, none⟩) hg).trans d2, (hW.cell (p := ⟨g, _, none⟩) hg).trans d3, i0, i1⟩
  have hs' : s.with { o.r with its := Ff.pushL o.r.its id co } = S1 := (Fl.put_its hpn).symm.trans hS1.symm
  have hKD : ∀ WA, Below (w.alloc (itO id co)).heap.size (w.alloc (itO id co)) WA → Calls Try.prog 50 #[.slice o.a o.r.its.length o.cap, .agg #[.int .i64 id, .int .i64 co]] (WA.alloc (.cells #[.int .i64 o.r.f, .int .i64 o.r.w, .int .i64 o.r.d, .slice o.a o.r.its.length o.cap] 37)) fun e W' => ∃ a' cap', e = .returned (.tuple #[.slice a' (Ff.pushL o.r.its id co).length cap', .int .i64 (Ff.pushE o.r.its id co)]) ∧ (W'.cell? ⟨WA.heap.size, 0, none⟩ = some (.int .i64 o.r.f) ∧ W'.cell? ⟨WA.heap.size, 1, none⟩ = some (.int .i64 o.r.w) ∧ W'.cell? ⟨WA.heap.size, 2, none⟩ = some (.int .i64 o.r.d) ∧ W'.cell? ⟨WA.heap.size, 3, none⟩ = some (.slice o.a o.r.its.length o.cap)) ∧ W'.frozen? ⟨WA.heap.size, 3, none⟩ = false ∧ Hid (Calls Try.prog 51 #[.pointer (some ⟨V, 0, none⟩), .int .i64 ((A.length : Nat) : Int), .agg #[.int .i64 o.r.f, .int .i64 o.r.w, .int .i64 o.r.d, .slice a' (Ff.pushL o.r.its id co).length cap']] (W'.setCell ⟨WA.heap.size, 3, none⟩ (.slice a' (Ff.pushL o.r.its id co).length cap')) fun e W'' => e = .returned (.tuple #[]) ∧ Hid (RetRf (.int .i64 (Ff.pushE o.r.its id co)) V S1 D w (.returned (.int .i64 (Ff.pushE o.r.its id co))) W'')) := fun WA hA0 => by
    have hA : Below w.heap.size w WA := hbx.trans (hA0.mono (by simp))
    have hx2 : Below WA.heap.size WA (WA.alloc (drO o)) := (Below.refl _ _).alloc (Nat.le_refl _) _
    have hv1 : eltI.View (WA.alloc (drO o)) o.a o.r.its := ((h1.d o hom).v.below hA).below hx2
    refine (refPushAny id co o.a o.cap o.r.its _ (by omega) (h1.d o hom).z hv1).mono fun e W' hr => ?_
    obtain ⟨a', cap', rfl, hv, hz, hfr, hbp⟩ : ∃ a' cap', e = .returned (.tuple #[.slice a' (Ff.pushL o.r.its id co).length cap', .int .i64 (Ff.pushE o.r.its id co)]) ∧ eltI.View W' a' (Ff.pushL o.r.its id co) ∧ (a' = none → cap' = 0) ∧ (∀ g off sp, a' = some ⟨g, off, sp⟩ → a' = o.a ∧ Ff.pushL o.r.its id co = o.r.its ∨ (WA.alloc (drO o)).heap.size ≤ g) ∧ Below (WA.alloc (drO o)).heap.size (WA.alloc (drO o)) W' := by
      obtain ⟨a', cap', he, hh⟩ := hr
      exact ⟨a', cap', he, hh.out⟩
    have hX : W'.heap[WA.heap.size]? = some (drO o) := (hbp.block _ (by simp)).trans (heap_alloc_new _ _)
    have hbw : Below w.heap.size w W' := hA.trans ((hx2.trans (hbp.mono (by simp))).mono hA.size)
    have hVl : V < w.heap.size := lt_block h1.o
    have hplen : 0 < o.r.its.length := List.length_pos_iff.2 hne
    have hcase : ∀ g off sp, a' = some ⟨g, off, sp⟩ → (o.a = some ⟨g, off, sp⟩ ∧ g < w.heap.size ∧ g ≠ V) ∨ WA.heap.size < g := fun g off sp ha => by
      rcases hfr g off sp ha with ⟨e1, e2⟩ | e1
      · have hoa : o.a = some ⟨g, off, sp⟩ := by rw [← e1]; exact ha
        exact Or.inl ⟨hoa, h1.lt g (Or.inr (Or.inr ⟨o, hom, hplen, off, sp, hoa⟩)), h1.nv g (Or.inr ⟨o, hom, hplen, off, sp, hoa⟩)⟩
      · right; simp at e1; omega
    have hc2 : Chg (fun k => k = V) w (W'.setCell ⟨WA.heap.size, 3, none⟩ (.slice a' (Ff.pushL o.r.its id co).length cap')) := (Chg.of_below (F := fun k => k = V) hbw).setCell (p := ⟨WA.heap.size, 3, none⟩) (Or.inr hA.size) _
    have hoth : ∀ k, k ≠ WA.heap.size → (W'.setCell ⟨WA.heap.size, 3, none⟩ (.slice a' (Ff.pushL o.r.its id co).length cap')).heap[k]? = W'.heap[k]? := fun k hk => Below.heap_setCell _ _ _ _ hk
    have hat : RfAt (W'.setCell ⟨WA.heap.size, 3, none⟩ (.slice a' (Ff.pushL o.r.its id co).length cap')) V s (some ⟨g, off, none⟩) cap (A ++ o :: B) := (h1.below hbw).keep (by simp [World.setCell]) (fun k hk => hoth k (fun e => by have := h1.lt k hk; have := hA.size; omega))
    have hw := withC V s _ cap A B o ⟨{ o.r with its := Ff.pushL o.r.its id co }, a', cap'⟩ _ (by omega) hat ⟨View.keep hv (by simp [World.setCell]) (fun h0 g' off' sp ha => hoth g' (by have := hA.size; rcases hcase g' off' sp ha with ⟨_, e, _⟩ | e <;> omega)), hz⟩ (fun h0 g' off' sp ha => by
      have := hA.size
      rcases hcase g' off' sp ha with ⟨_, _, e⟩ | e
      · exact e
      · omega) rfl hG.nd (by show (Ff.pushL o.r.its id co).length ≤ 1000000; omega)
    refine ⟨a', cap', rfl, dr_cells hX, frozen_of _ _ _ _ _ hX, Lib.hid (hw.mono fun e W'' hr2 => ⟨hr2.e, Lib.hid ?_⟩)⟩
    exact RfAt.withR hD hr2 hc2 (fun g' off' sp ha h0 => by
      have := hA.size
      rcases hcase g' off' sp ha with ⟨e, _, _⟩ | e
      · exact Or.inl ((hD g').2 (Or.inr (Or.inr ⟨o, hom, hplen, off', sp, e⟩)))
      · right; omega) _ hs'
  have KD := Lib.hid hKD
  have HCL := Lib.hid hcell
  have t1 : (o.r.w != o.r.w) = false := by simp
  have e1 : ¬ o.r.f < 0 := by omega
  have e2 : ¬ o.r.w < 1 := by omega
  have e3 : ¬ o.r.w > 16 := by omega
  clear hc d0 d1 d2 d3
  generalize (A ++ o :: B).length = N at *
  generalize A.length = I at *
  generalize (Ff.pushL o.r.its id co).length = L at *
  generalize Ff.pushE o.r.its id co = pe at *
  have hIl' : I < N := hIl
  clear h1 hD hdl hbx hw1 hok hr hpl hcell hom hmem hli hne hpn hpll hKD hs' hX0 hG hS p1 p2 hS1
  generalize o.r.its.length = M at *
  generalize o.r.w = ow at *
  generalize o.r.d = od at *
  go_enter Try.func26, Try.ntmps26
  go_wp2_with (first | (go_at_call 11; (with_reducible refine KF.out.mono ?_); rintro e wA ⟨rfl, hA⟩; obtain ⟨x1, x2, x3, x4, x5, x6, x7⟩ := HCL.out _ hA) | (go_at_call 50; (with_reducible refine (KD.out _ hA).mono ?_); rintro e wC ⟨a', cap', rfl, ⟨y0, y1, y2, y3⟩, y4, hC⟩) | (go_at_call 51; (with_reducible refine hC.out.mono ?_); rintro e wD ⟨rfl, hE⟩))
  go_ret
  exact hE.out
end Go.Proofs.Ytgeoebodlcbebaa

namespace Go.Proofs.Ytgeoebodlcbebaa
open Go.RowKit
set_option linter.unusedVariables false

/-- the rows in another slice of one's own, with one more -/
theorem RfAt.grown {w W : World} {V : Nat} {s s' : Fl.St} {a : Option Addr} {cap : Nat} {ds ds' : List DR} {u : Option Addr} {c : Nat} {B : Nat} (h : RfAt w V s a cap ds) (hb : Below w.heap.size w W) (hB : w.heap.size ≤ B) (hrow : eltD.Row W B (.slice u ds'.length c) ds') (hl : ds'.map DR.r = s'.l) (hq : s'.q = s.q) (hg : s'.g = s.g)
    (hd : ∀ d ∈ ds', d ∈ ds ∨ (DOk W d ∧ ∀ g off sp, d.a = some ⟨g, off, sp⟩ → w.heap.size ≤ g)) {D : Nat → Prop} (hD : ∀ k, D k ↔ rfD V a ds k) (r : Value) : RetRf r V s' D w (.returned r) (W.setCell ⟨V, 1, none⟩ (.slice u ds'.length c)) := by
  have hVl := lt_block h.o
  obtain ⟨u2, c2, e3, hfl, hz⟩ := hrow.flat0
  obtain ⟨rfl, rfl⟩ : u = u2 ∧ c = c2 := by injection e3 with e1 e2 e3; exact ⟨e1, e3⟩
  have hu : ∀ g off sp, u = some ⟨g, off, sp⟩ → w.heap.size ≤ g := fun g off sp ha => by
    have := (hrow.lt g (by rw [ha]; rfl)).1
    omega
  have hoth : ∀ k, k ≠ V → (W.setCell ⟨V, 1, none⟩ (.slice u ds'.length c)).heap[k]? = W.heap[k]? := fun k hk => Below.heap_setCell _ _ _ _ hk
  have hW := h.below hb
  have hnv : ∀ d ∈ ds', 0 < d.r.its.length → ∀ g off sp, d.a = some ⟨g, off, sp⟩ → g ≠ V := fun d hd' h0 g off sp ha => by
    rcases hd d hd' with e | ⟨_, e⟩
    · exact h.nv g (Or.inr ⟨d, e, h0, off, sp, ha⟩)
    · have := e g off sp ha; omega
  refine ⟨rfl, ⟨rfD V u ds', ⟨u, c, ds', ⟨?_, View.keep hfl.view (by simp [World.setCell]) (fun h0 g off sp ha => hoth g (by have := hu g off sp ha; omega)), hl, fun d hd' => ?_, hz, hrow.le, ?_⟩, fun k => Iff.rfl⟩, fun k hk => ?_⟩, (Chg.of_below (F := fun k => k = V) hb).setCell (p := ⟨V, 1, none⟩) (Or.inl rfl) _⟩
  · rw [hq, hg]
    exact setCell_block W V 1 _ _ _ hW.o
  · have hok : DOk W d := by
      rcases hd d hd' with e | ⟨e, _⟩
      · exact hW.d d e
      · exact e
    exact ⟨View.keep hok.v (by simp [World.setCell]) (fun h0 g off sp ha => hoth g (hnv d hd' h0 g off sp ha)), hok.z⟩
  · rintro k (⟨h0, off, sp, ha⟩ | ⟨d, hd', h0, off, sp, ha⟩)
    · have := hu k off sp ha; omega
    · exact hnv d hd' h0 k off sp ha
  · rcases hk with e | ⟨h0, off, sp, ha⟩ | ⟨d, hd', h0, off, sp, ha⟩
    · exact Or.inl ((hD k).2 (Or.inl e))
    · exact Or.inr (hu k off sp ha)
    · rcases hd d hd' with e | ⟨_, e⟩
      · exact Or.inl ((hD k).2 (Or.inr (Or.inr ⟨d, e, h0, off, sp, ha⟩)))
      · exact Or.inr (e k off sp ha)
set_option maxRecDepth 100000 in
set_option maxHeartbeats 8000000 in
theorem refPushNewC (V : Nat) (s : Fl.St) (D : Nat → Prop) (f wt id co : Int) (w : World) (h : RfIs w V s D) (hS : Fl.Small 90000 s) (hok : ¬ (f < 0 ∨ wt < 1 ∨ wt > 16)) (hr : Fl.row s.l f = none) :
    Calls Try.prog 26 #[.pointer (some ⟨V, 0, none⟩), .int .i64 f, .int .i64 wt, .agg #[.int .i64 id, .int .i64 co]] w (RetRf (.int .i64 (s.pushE f wt id co)) V (s.push f wt id co) D w) := by
  obtain ⟨p1, p2⟩ := Fl.push_new (id := id) (c := co) hok hr
  rw [p1, p2]
  obtain ⟨a, cap, ds, h1, hD⟩ := h
  have hdl : ds.length ≤ 90000 := by have := hS.l; rw [← h1.l] at this; simpa using this
  have hbx : Below w.heap.size w (w.alloc (itO id co)) := (Below.refl _ _).alloc (Nat.le_refl _) _
  have hw1 := h1.below hbx
  obtain ⟨c0, c1, c2⟩ := hw1.cs
  have KF := Lib.hid (refFindFC s.q s.g f a cap ds _ (by omega) hw1.v)
  rw [h1.l, Fl.pl_no hr] at KF
  have hX0 : (w.alloc (itO id co)).heap[w.heap.size]? = some (itO id co) := heap_alloc_new _ _
  have hcell : ∀ W, Below (w.alloc (itO id co)).heap.size (w.alloc (itO id co)) W → W.cell? ⟨w.heap.size, 0, none⟩ = some (.int .i64 id) ∧ W.cell? ⟨w.heap.size, 1, none⟩ = some (.int .i64 co) := fun W hW => it_cells ((hW.block _ (by simp)).trans hX0)
  have HCL := Lib.hid hcell
  have e1 : ¬ f < 0 := by omega
  have e2 : ¬ wt < 1 := by omega
  have e3 : ¬ wt > 16 := by omega
  have KP := fun W => refPushAny id co none 0 [] W (by decide) (fun _ => rfl) ⟨fun h0 => by simp at h0⟩
  by_cases he : Ff.pushE [] id co = 0
  · obtain ⟨q1, q2, q3⟩ := Fl.pushE_zero he
    rw [if_pos he, he]
    rw [he, q3] at KP
    have hKP : ∀ WA, Below (w.alloc (itO id co)).heap.size (w.alloc (itO id co)) WA → Calls Try.prog 50 #[.slice none 0 0, .agg #[.int .i64 id, .int .i64 co]] WA fun e WC => ∃ a' cap', e = .returned (.tuple #[.slice a' 1 cap', .int .i64 0]) ∧ WC.cell? ⟨V, 1, none⟩ = some (.slice a ds.length cap) ∧ (WC.alloc (.cells #[] 37)).cell? ⟨V, 1, none⟩ = some (.slice a ds.length cap) ∧ Hid (Below w.heap.size w WC ∧ DOk WC ⟨⟨f, wt, 0, [] ++ [(id, co)]⟩, a', cap'⟩ ∧ (∀ g off sp, a' = some ⟨g, off, sp⟩ → w.heap.size ≤ g) ∧ eltD.Row (WC.alloc (.cells #[] 37)) WC.heap.size (.slice (some ⟨WC.heap.size, 0, none⟩) 0 0) [] ∧ eltD.View (WC.alloc (.cells #[] 37)) a ds) := fun WA hA0 => (KP WA).mono fun e WC hr => by
      obtain ⟨a', cap', he', hh⟩ := hr
      obtain ⟨hv, hz, hfr, hb⟩ := hh.out
      have hA : Below w.heap.size w WA := hbx.trans (hA0.mono (by simp))
      have hC : Below w.heap.size w WC := hA.trans (hb.mono hA.size)
      have hlb : Below WC.heap.size WC (WC.alloc (.cells #[] 37)) := (Below.refl _ _).alloc (Nat.le_refl _) _
      refine ⟨a', cap', by simpa using he', (h1.below hC).cs.2.1, ((h1.below hC).below hlb).cs.2.1, Lib.hid ⟨hC, ⟨hv, hz⟩, fun g off sp ha => ?_, Elt.Row.lit WC _ (Nat.le_refl _), ((h1.below hC).below hlb).v⟩⟩
      rcases hfr g off sp ha with ⟨e, _⟩ | e
      · rw [e] at ha; cases ha
      · have := hA.size; omega
    have KPP := Lib.hid hKP
    have hfin : ∀ WC w3 a' cap' u c3, Below w.heap.size w WC → DOk WC ⟨⟨f, wt, 0, [] ++ [(id, co)]⟩, a', cap'⟩ → (∀ g off sp, a' = some ⟨g, off, sp⟩ → w.heap.size ≤ g) → Below WC.heap.size WC w3 → eltD.Row w3 WC.heap.size (.slice u (ds ++ [(⟨⟨f, wt, 0, [] ++ [(id, co)]⟩, a', cap'⟩ : DR)]).length c3) (ds ++ [⟨⟨f, wt, 0, [] ++ [(id, co)]⟩, a', cap'⟩]) → RetRf (.int .i64 0) V { s with l := s.l ++ [⟨f, wt, 0, [(id, co)]⟩] } D w (.returned (.int .i64 0)) (w3.setCell ⟨V, 1, none⟩ (.slice u (ds ++ [(⟨⟨f, wt, 0, [] ++ [(id, co)]⟩, a', cap'⟩ : DR)]).length c3)) := fun WC w3 a' cap' u c3 hC hd hfr hb hrow => by
      refine h1.grown (s' := { s with l := s.l ++ [⟨f, wt, 0, [(id, co)]⟩] }) (hC.trans (hb.mono hC.size)) hC.size hrow (by rw [List.map_append, h1.l]; rfl) rfl rfl (fun d hd' => ?_) hD _
      rcases List.mem_append.1 hd' with e | e
      · exact Or.inl e
      · obtain rfl : d = ⟨⟨f, wt, 0, [] ++ [(id, co)]⟩, a', cap'⟩ := by simpa using e
        exact Or.inr ⟨hd.below hb, hfr⟩
    have HFIN := Lib.hid hfin
    have hcV : ∀ WC w3, Below w.heap.size w WC → Below WC.heap.size WC w3 → w3.cell? ⟨V, 1, none⟩ = some (.slice a ds.length cap) ∧ w3.frozen? ⟨V, 1, none⟩ = false := fun WC w3 hC hb => ⟨((h1.below hC).below hb).cs.2.1, ((h1.below hC).below hb).fr 1⟩
    have HCV := Lib.hid hcV
    have HZ := Lib.hid h1.z
    clear hKP hfin KP hX0 hcell hw1 hbx h1 hD hS hok hr p1 p2 q1 q2 q3 he hcV
    go_enter Try.func26, Try.ntmps26
    go_wp2_with (first | (go_at_call 11; (with_reducible refine KF.out.mono ?_); rintro e wA ⟨rfl, hA⟩; obtain ⟨x6, x7⟩ := HCL.out _ hA) | (go_at_call 50; (with_reducible refine (KPP.out _ hA).mono ?_); rintro e wC ⟨a', cap', rfl, y0, y1, hC⟩) | (at_builtin; (refine eltD.wpAppS _ rfl _ _ rfl wC.heap.size (.slice (some ⟨wC.heap.size, 0, none⟩) 0 0) [] rfl hC.out.2.2.2.1 (by simp) a ds cap rfl HZ.out hC.out.2.2.2.2 (by simp; omega) (by simp) ?_); intro v2 w2 hne2 hrow2 hb3 hkeep2 hlies2; rw [List.nil_append] at hrow2; obtain ⟨a2, c2, rfl⟩ := hrow2.slice; have HR2 := Lib.hid (And.intro hrow2 (((Below.refl wC.heap.size wC).alloc (Nat.le_refl _) (.cells #[] 37)).trans hb3)); clear hne2 hrow2 hb3 hkeep2 hlies2) | (at_builtin; (refine eltD.wpApp w2 rfl _ _ rfl wC.heap.size (.slice a2 ds.length c2) ds rfl HR2.out.1 #[.int .i64 f, .int .i64 wt, .int .i64 0, .slice a' 1 cap'] _ rfl ⟨⟨f, wt, 0, [] ++ [(id, co)]⟩, a', cap'⟩ rfl (by omega) HR2.out.2.size ?_); intro v3 w3 hrow3 hb3 hkeep3 hlies3; obtain ⟨a3, c3, rfl⟩ := hrow3.slice; have HR3 := Lib.hid (And.intro hrow3 (HR2.out.2.trans hb3)); obtain ⟨z1, z2⟩ := HCV.out _ _ hC.out.1 HR3.out.2; clear hrow3 hb3 hkeep3 hlies3))
    have HF := Lib.hid (HFIN.out _ _ _ _ _ _ hC.out.1 hC.out.2.1 hC.out.2.2.1 HR3.out.2 HR3.out.1)
    go_ret
    simpa using HF.out
  · rw [if_neg he]
    have hKP : ∀ WA, Below (w.alloc (itO id co)).heap.size (w.alloc (itO id co)) WA → Calls Try.prog 50 #[.slice none 0 0, .agg #[.int .i64 id, .int .i64 co]] WA fun e WC => ∃ v, e = .returned (.tuple #[v, .int .i64 (Ff.pushE [] id co)]) ∧ Hid (Below w.heap.size w WC) := fun WA hA0 => (KP WA).mono fun e WC hr => by
      obtain ⟨a', cap', he', hh⟩ := hr
      have hA : Below w.heap.size w WA := hbx.trans (hA0.mono (by simp))
      exact ⟨_, he', Lib.hid (hA.trans (hh.out.2.2.2.mono hA.size))⟩
    have KPP := Lib.hid hKP
    have HF := Lib.hid (fun W (hW : Below w.heap.size w W) => h1.same hD hW (.int .i64 (Ff.pushE [] id co)))
    have t9 : (Ff.pushE [] id co == 0) = false := by simpa using he
    generalize Ff.pushE [] id co = pe at *
    clear hKP KP hX0 hcell hw1 hbx h1 hD hS hok hr p1 p2 he
    go_enter Try.func26, Try.ntmps26
    go_wp2_with (first | (go_at_call 11; (with_reducible refine KF.out.mono ?_); rintro e wA ⟨rfl, hA⟩; obtain ⟨x6, x7⟩ := HCL.out _ hA) | (go_at_call 50; (with_reducible refine (KPP.out _ hA).mono ?_); rintro e wC ⟨v, rfl, hC⟩))
    go_ret
    exact HF.out _ hC.out
theorem refPushFC (V : Nat) (s : Fl.St) (D : Nat → Prop) (f wt id co : Int) (w : World) (h : RfIs w V s D) (hG : Fl.Good s) (hS : Fl.Small 90000 s) :
    Calls Try.prog 26 #[.pointer (some ⟨V, 0, none⟩), .int .i64 f, .int .i64 wt, .agg #[.int .i64 id, .int .i64 co]] w (RetRf (.int .i64 (s.pushE f wt id co)) V (s.push f wt id co) D w) := by
  rcases Fl.push_cases s f wt id co with hbad | ⟨hok, hr | ⟨r, hr, hw⟩⟩
  · obtain ⟨p1, p2⟩ := Fl.push_bad (id := id) (c := co) hbad
    rw [p1, p2]
    exact refPushBadC V s D f wt id co w h hS hbad
  · exact refPushNewC V s D f wt id co w h hS hok hr
  · exact refPushThereC V s D f wt id co w h hG hS hok r hr hw
end Go.Proofs.Ytgeoebodlcbebaa

namespace Go.Proofs.Ytgeoebodlcbebaa
open Go.RowKit
set_option linter.unusedVariables false

/-- the document's ring in the course of Pick -/
structure RfQ (w : World) (V : Nat) (D : Nat → Prop) (s s' : Fl.St) (W : World) : Prop where
  at_ : ∃ a cap ds, RfAt W V s' a cap ds ∧ ∀ k, rfD V a ds k → D k ∨ w.heap.size ≤ k
  c : Chg (fun k => k = V) w W
  good : Fl.Good s'
  lim : Fl.Lim 64 s'
  small : Fl.Small 90000 s'
  p : s'.pick = s.pick
  ne : s'.l ≠ []
/-- .. the first was given; its row in box X -/
structure RfM (w : World) (V : Nat) (D : Nat → Prop) (s S1 : Fl.St) (X : Nat) (y : DR) (W : World) : Prop where
  q : RfQ w V D s S1 W
  g : S1.g = true
  x : W.heap[X]? = some (drO y)
  hd : S1.l.head? = some y.r
  ok : DOk W y
  yb : 0 < y.r.its.length → ∀ g off sp, y.a = some ⟨g, off, sp⟩ → (D g ∨ w.heap.size ≤ g) ∧ g ≠ V
  xo : w.heap.size ≤ X
theorem RfQ.end_ {w W : World} {V : Nat} {D : Nat → Prop} {s s' : Fl.St} (h : RfQ w V D s s' W) (hp : s'.pick = s') (r : Value) : RetRf r V s.pick D w (.returned r) W := by
  obtain ⟨a, cap, ds, h1, h2⟩ := h.at_
  have e : s.pick = s' := h.p.symm.trans hp
  exact ⟨rfl, ⟨rfD V a ds, ⟨a, cap, ds, by rw [e]; exact h1, fun k => Iff.rfl⟩, h2⟩, h.c⟩
theorem RfQ.below {w W W' : World} {V : Nat} {D : Nat → Prop} {s s' : Fl.St} (h : RfQ w V D s s' W) (hb : Below W.heap.size W W') : RfQ w V D s s' W' := by
  obtain ⟨a, cap, ds, h1, h2⟩ := h.at_
  exact ⟨⟨a, cap, ds, h1.below hb, h2⟩, h.c.then hb, h.good, h.lim, h.small, h.p, h.ne⟩
theorem RfM.below {w W W' : World} {V : Nat} {D : Nat → Prop} {s S1 : Fl.St} {X : Nat} {y : DR} (h : RfM w V D s S1 X y W) (hb : Below W.heap.size W W') : RfM w V D s S1 X y W' :=
  ⟨h.q.below hb, h.g, (hb.block X (lt_block h.x)).trans h.x, h.hd, h.ok.below hb, h.yb, h.xo⟩
/-- the first was given already -/
theorem RfQ.first {w W : World} {V : Nat} {D : Nat → Prop} {s s' : Fl.St} {a : Option Addr} {cap : Nat} {o : DR} {B : List DR} (h : RfQ w V D s s' W) (hV : V < w.heap.size) (h1 : RfAt W V s' a cap (o :: B)) (h2 : ∀ k, rfD V a (o :: B) k → D k ∨ w.heap.size ≤ k) (hg : s'.g = true) : RfM w V D s s' W.heap.size o (W.alloc (drO o)) := by
  have hb : Below W.heap.size W (W.alloc (drO o)) := (Below.refl _ _).alloc (Nat.le_refl _) _
  refine ⟨h.below hb, hg, heap_alloc_new _ _, by rw [← h1.l]; rfl, (h1.d o (by simp)).below hb, fun h0 g off sp ha => ⟨h2 g (Or.inr (Or.inr ⟨o, by simp, h0, off, sp, ha⟩)), h1.nv g (Or.inr ⟨o, by simp, h0, off, sp, ha⟩)⟩, h.c.size⟩
/-- it is given -/
theorem RfQ.give {w W W3 : World} {V : Nat} {D : Nat → Prop} {s s' : Fl.St} {a : Option Addr} {cap : Nat} {o : DR} {B : List DR} {e : Ending} (h : RfQ w V D s s' W) (hV : V < w.heap.size) (h1 : RfAt W V s' a cap (o :: B)) (h2 : ∀ k, rfD V a (o :: B) k → D k ∨ w.heap.size ≤ k) (hg : s'.g = false)
    (hr : RetWi V s' a (o :: B) ⟨{ o.r with d := o.r.d + s'.q * o.r.w }, o.a, o.cap⟩ (W.alloc (drO ⟨{ o.r with d := o.r.d + s'.q * o.r.w }, o.a, o.cap⟩)).drew e W3) : RfM w V D s s'.give W.heap.size ⟨{ o.r with d := o.r.d + s'.q * o.r.w }, o.a, o.cap⟩ (W3.setCell ⟨V, 2, none⟩ (.bool true)) := by
  have hVW : V < W.heap.size := Nat.lt_of_lt_of_le hV h.c.size
  have hln : s'.l = o.r :: B.map DR.r := by rw [← h1.l]; rfl
  have hgv := Fl.give_no hln hg
  obtain ⟨a', cap', ds', g1, g2⟩ := hr.s
  have hne := (h.good.ok o.r (by rw [hln]; simp)).ne
  obtain ⟨p1, p2⟩ := Fl.with_split (s := s') (a := []) (b := B.map DR.r) (r := o.r) (x := { o.r with d := o.r.d + s'.q * o.r.w }) h.good.nd hln rfl
  have hX : W3.heap[W.heap.size]? = some (drO ⟨{ o.r with d := o.r.d + s'.q * o.r.w }, o.a, o.cap⟩) := by
    refine hr.c.keep ?_ (by omega)
    exact heap_alloc_new W _
  have hl3 : (s'.with { o.r with d := o.r.d + s'.q * o.r.w }).l = s'.give.l := by
    rw [p1, hgv]
    rw [if_neg hne]; rfl
  have hoth : ∀ k, k ≠ V → (W3.setCell ⟨V, 2, none⟩ (.bool true)).heap[k]? = W3.heap[k]? := fun k hk => Below.heap_setCell _ _ _ _ hk
  have hyb : 0 < o.r.its.length → ∀ g off sp, o.a = some ⟨g, off, sp⟩ → (D g ∨ w.heap.size ≤ g) ∧ g ≠ V := fun h0 g off sp ha => ⟨h2 g (Or.inr (Or.inr ⟨o, by simp, h0, off, sp, ha⟩)), h1.nv g (Or.inr ⟨o, by simp, h0, off, sp, ha⟩)⟩
  have hbW : Chg (fun k => k = V) W (W.alloc (drO ⟨{ o.r with d := o.r.d + s'.q * o.r.w }, o.a, o.cap⟩)).drew := (Chg.of_below (F := fun k => k = V) ((Below.refl W.heap.size W).alloc (Nat.le_refl _) _)).drew
  have hcW3 : Chg (fun k => k = V) W W3 := hbW.trans hr.c (fun k hk => Or.inl hk)
  have hgg : s'.give.g = true := Fl.give_g (by rw [hln]; simp)
  refine ⟨⟨⟨a', cap', ds', ⟨?_, View.keep g1.v (by simp [World.setCell]) (fun h0 g off sp ha => hoth g (g1.nv g (Or.inl ⟨h0, off, sp, ha⟩))), g1.l.trans hl3, fun d hd => ⟨View.keep (g1.d d hd).v (by simp [World.setCell]) (fun h0 g off sp ha => hoth g (g1.nv g (Or.inr ⟨d, hd, h0, off, sp, ha⟩))), (g1.d d hd).z⟩, g1.z, g1.le, g1.nv⟩, fun k hk => ?_⟩, ?_, h.good.give, h.lim.give, h.small.give, ?_, ?_⟩, hgg, ?_, ?_, ⟨?_, (h1.d o (by simp)).z⟩, hyb, h.c.size⟩
  · have hq : s'.give.q = s'.q := Fl.give_q s'
    rw [hgg, hq]
    exact setCell_block W3 V 2 _ _ _ g1.o
  · rcases g2 k hk with e1 | ⟨h0, off, sp, ha⟩ | e1
    · exact h2 k e1
    · exact (hyb h0 k off sp ha).1
    · right
      have := hbW.size
      have := h.c.size
      omega
  · exact ((h.c.trans hbW (fun k hk => Or.inl hk)).trans hr.c (fun k hk => Or.inl hk)).setCell (p := ⟨V, 2, none⟩) (Or.inl rfl) _
  · rw [← h.p]
    have hg2 : s'.give.give = s'.give := Fl.give_yes hgg
    cases hrd : s'.give.ready with
    | true => rw [Fl.pick_done hrd, Fl.pick_done (by rw [hg2]; exact hrd), hg2]
    | false => rw [Fl.pick_step h.good h.lim hrd, Fl.pick_step h.good.give h.lim.give (by rw [hg2]; exact hrd), hg2]
  · rw [hgv]; simp
  · exact (hoth _ (by omega)).trans hX
  · rw [hgv]; rfl
  · refine View.keep (h1.d o (by simp)).v (Nat.le_trans hcW3.size (by simp [World.setCell])) (fun h0 g off sp ha => ?_)
    have hgV := (hyb h0 g off sp ha).2
    have hgl := h1.lt g (Or.inr (Or.inr ⟨o, by simp, h0, off, sp, ha⟩))
    exact (hoth g hgV).trans (hcW3.block g hgl hgV)
end Go.Proofs.Ytgeoebodlcbebaa
