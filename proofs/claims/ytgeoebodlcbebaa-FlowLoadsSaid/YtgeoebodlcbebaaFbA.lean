/-
  A queue of items that came in; a ring of rows that came in: robin's Load.
-/
import Derived.Test.YtgeoebodlcbebaaFlS
import Derived.Test.YtgeoebodlcbebaaFifoRS
namespace Ff
theorem take_good {l : List E} (h : Good l) (k : Nat) : Good (l.take k) := h.sub (List.take_sublist k l)
/-- an item of a good list can be pushed behind those ahead of it -/
theorem good_next {l : List E} (h : Good l) {k : Nat} (hk : k < l.length) : pushE (l.take k) l[k].1 l[k].2 = 0 := by
  have hm : l[k] ∈ l := List.getElem_mem hk
  have h1 := h.id _ hm
  have h2 := h.co _ hm
  have hb : bad l[k].1 l[k].2 = false := by unfold bad; simp; omega
  have hn : has (l.take k) l[k].1 = false := by
    rw [has_no]
    intro e he
    have hs := h.nd
    have : l.map (·.1) = (l.take k).map (·.1) ++ (l.drop k).map (·.1) := by rw [← List.map_append, List.take_append_drop]
    rw [this, List.nodup_append] at hs
    refine hs.2.2 e.1 (List.mem_map.2 ⟨e, he, rfl⟩) l[k].1 (List.mem_map.2 ⟨l[k], ?_, rfl⟩)
    rw [List.drop_eq_getElem_cons hk]; exact List.mem_cons_self ..
  unfold pushE; rw [hb, hn]; rfl
end Ff
namespace Go.Proofs.Ytgeoebodlcbebaa
open Go.RowKit
open Rb (Nd)
set_option linter.unusedVariables false
set_option linter.unusedSimpArgs false

theorem pushE_push {l : List Ff.E} {id co : Int} (h : Ff.pushE l id co = 0) : Ff.pushL l id co = l ++ [(id, co)] := (Fl.pushE_zero h).2.2
/-- a queue of these items, or none -/
structure RetQo (l : List Ff.E) (w : World) (e : Ending) (w' : World) : Prop where
  r : (Ff.Good l ∧ ∃ Q F, e = .returned (.tuple #[.pointer (some ⟨Q, 0, none⟩), .bool true]) ∧ QIs w' w.heap.size Q l F) ∨ (¬ Ff.Good l ∧ e = .returned (.tuple #[.pointer none, .bool false]))
  b : Below w.heap.size w w'
set_option maxRecDepth 100000 in
set_option maxHeartbeats 8000000 in
theorem queueOfC (a : Option Addr) (cap : Nat) (l : List Ff.E) (w : World) (hv : eltI.View w a l) (hl : l.length ≤ 1000) (hwf : ∀ e ∈ l, (Lit.int .i64 e.1).wf = true) :
    Calls Try.prog 47 #[.slice a l.length cap] w (RetQo l w) := by
  have K0 := Lib.hid ((newQC w).mono (R' := fun e w' => ∃ Q, e = .returned (.pointer (some ⟨Q, 0, none⟩)) ∧ Hid (∃ F, QIs w' w.heap.size Q [] F ∧ Below w.heap.size w w')) fun e w' hr => by
    obtain ⟨Q, F, rfl, hq⟩ := hr.s
    exact ⟨Q, rfl, Lib.hid ⟨F, hq, hr.b⟩⟩)
  have HV := Lib.hid hv
  have HWF := Lib.hid hwf
  clear hv hwf
  go_enter Try.func47, Try.ntmps47
  go_wp2_with (go_at_call 37; (with_reducible refine K0.out.mono ?_); rintro e wA ⟨Q, rfl, hA⟩)
  clear K0
  go_loopw [10] (fun i wr => ∃ k : Nat, k ≤ l.length ∧ i = .int .i64 (k : Int) ∧ Hid (∃ F, QIs wr w.heap.size Q (l.take k) F ∧ Below w.heap.size w wr)) (fun i _ => l.length - (intOf i).toNat)
  case atStart => exact ⟨0, by omega, rfl, by simpa using hA⟩
  case round =>
    obtain ⟨k, hk, rfl, hst⟩ := hrel
    clear hA
    by_cases hlt : k < l.length
    · obtain ⟨g, off, rfl, hg, hc⟩ := items_at HV.out (by omega)
      obtain ⟨e0, e1⟩ := hc k hlt
      obtain ⟨F, hq, hb⟩ := hst.out
      have d0 := (hb.cell (p := ⟨g, off + k * 2, none⟩) hg).trans e0
      have d1 := (hb.cell (p := ⟨g, off + k * 2 + 1, none⟩) hg).trans e1
      have hx := hq.below ((Below.refl wr.heap.size wr).alloc (Nat.le_refl _) (itO l[k].1 l[k].2))
      have hbx := hb.trans (((Below.refl wr.heap.size wr).alloc (Nat.le_refl _) (itO l[k].1 l[k].2)).mono hb.size)
      have hid := HWF.out _ (List.getElem_mem hlt)
      have KP := Lib.hid ((pushC w.heap.size Q (l.take k) F l[k].1 l[k].2 _ hx hid (by simp; omega) hbx.size).mono (R' := fun e w' => e = .returned (.int .i64 (Ff.pushE (l.take k) l[k].1 l[k].2)) ∧ Hid ((∃ F', QIs w' w.heap.size Q (Ff.pushL (l.take k) l[k].1 l[k].2) F') ∧ Below w.heap.size w w')) fun e w' hr => by
        obtain ⟨F', hq', _⟩ := hr.s
        exact ⟨hr.r, Lib.hid ⟨⟨F', hq'⟩, hbx.trans (hr.c.below (fun j hj => (hx.lt j hj).1) hbx.size)⟩⟩)
      have HTK := Lib.hid (take_snoc hlt)
      by_cases he : Ff.pushE (l.take k) l[k].1 l[k].2 = 0
      · rw [he, pushE_push he] at KP
        clear hst hq hb hx hbx hid e0 e1 hc he
        generalize hT : l.take k = tk at *
        have HT := Lib.hid hT
        clear hT
        generalize l[k] = x at *
        obtain ⟨x1, x2⟩ := x
        go_wp2_with (go_at_call 36; (with_reducible refine KP.out.mono ?_); rintro e wB ⟨rfl, hB⟩)
        go_roundw
        case rel => exact ⟨k + 1, by omega, by go_num, by rw [HTK.out]; exact Lib.hid ⟨hB.out.1.choose, hB.out.1.choose_spec, hB.out.2⟩⟩
        case measure => simp [intOf]; omega
      · have hng : Hid (¬ Ff.Good l) := Lib.hid (fun hg => he (Ff.good_next hg hlt))
        have t9 : (Ff.pushE (l.take k) l[k].1 l[k].2 == 0) = false := by simpa using he
        generalize Ff.pushE (l.take k) l[k].1 l[k].2 = E at *
        clear hst hq hb hx hbx hid e0 e1 hc he HTK
        generalize l[k] = x at *
        obtain ⟨x1, x2⟩ := x
        go_wp2_with (go_at_call 36; (with_reducible refine KP.out.mono ?_); rintro e wB ⟨rfl, hB⟩)
        go_ret2
        exact ⟨Or.inr ⟨hng.out, rfl⟩, hB.out.2⟩
    · obtain rfl : k = l.length := by omega
      have HE : Hid (∃ F, QIs wr w.heap.size Q l F ∧ Below w.heap.size w wr) := by simpa using hst
      clear hst
      go_wp2
      go_ret2
      obtain ⟨F, h1, h2⟩ := HE.out
      exact ⟨Or.inl ⟨h1.good, Q, F, rfl, h1⟩, h2⟩
end Go.Proofs.Ytgeoebodlcbebaa
