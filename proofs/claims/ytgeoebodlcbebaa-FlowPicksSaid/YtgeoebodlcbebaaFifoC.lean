/-
  A queue: New, All.
-/
import Derived.Test.YtgeoebodlcbebaaFifoB
import Derived.Test.YtgeoebodlcbebaaRowsG
namespace Go.Proofs.Ytgeoebodlcbebaa
open Go.RowKit
open Ff (Nd)
set_option linter.unusedVariables false

/-- an empty queue of new blocks -/
structure RetNewQ (w : World) (e : Ending) (w' : World) : Prop where
  s : ∃ P F, e = .returned (.pointer (some ⟨P, 0, none⟩)) ∧ QIs w' w.heap.size P [] F
  b : Below w.heap.size w w'
set_option maxRecDepth 100000 in
set_option maxHeartbeats 1000000 in
theorem newQC (w : World) : Calls Try.prog 37 #[] w (RetNewQ w) := by
  obtain ⟨w1, hw1⟩ : ∃ w1, w1 = (w.alloc (.map #[] 0)).alloc (lkO 0 0 0 0) := ⟨_, rfl⟩
  have hz1 : w1.heap.size = w.heap.size + 2 := by rw [hw1]; simp
  have hM : MapL w1 w.heap.size [] := (MapL.made w).keep (by rw [hw1]; exact Lib.alloc_old _ _ _ (by simp))
  have hn : w1.heap[w.heap.size + 1]? = some (lkO 0 0 0 0) := by
    rw [hw1]
    have := heap_alloc_new (w.alloc (.map #[] 0)) (lkO 0 0 0 0)
    simpa using this
  obtain ⟨w2, hrun, hM2, hC2, hz2⟩ := run_putL hM ⟨w.heap.size + 1, 0, 0⟩ (wf_i64' (v := 0) (by decide) (by decide)) (by simp) (by simp)
  have hb1 : Below w.heap.size w w1 := by rw [hw1]; exact ((Below.refl _ _).alloc (Nat.le_refl _) _).alloc (by simp) _
  have hfin : RetNewQ w (.returned (.pointer (some ⟨w2.heap.size, 0, none⟩))) (w2.alloc (quO w.heap.size 0)) := by
    have hb2 : Below w.heap.size w w2 := hb1.trans (hC2.below (fun k hk => by omega) hb1.size)
    have hold : ∀ k, k < w2.heap.size → (w2.alloc (quO w.heap.size 0)).heap[k]? = w2.heap[k]? := fun k hk => Lib.alloc_old _ _ _ hk
    refine ⟨⟨w2.heap.size, footJ w2.heap.size w.heap.size [⟨w.heap.size + 1, 0, 0⟩], rfl, ⟨w.heap.size, w.heap.size + 1, [], fun _ => 0, fun _ => 0, ⟨heap_alloc_new _ _, hM2.keep (hold _ hM2.lt), fun x hx => ?_, by simp, by simp, fun x hx => ?_⟩, Ff.ring_new 0 rfl rfl, rfl, Ff.good_nil, fun k => Iff.rfl, fun k hk => ?_⟩⟩, hb2.alloc hb2.size _⟩
    · obtain rfl : x = ⟨w.heap.size + 1, 0, 0⟩ := by simpa using hx
      exact (hold _ (by show w.heap.size + 1 < _; omega)).trans ((hC2.block (w.heap.size + 1) (by omega) (by omega)).trans hn)
    · obtain rfl : x = ⟨w.heap.size + 1, 0, 0⟩ := by simpa using hx
      exact ⟨Int.le_refl 0, by show (0 : Int) ≤ _; decide⟩
    · rcases hk with h | h | h
      · omega
      · omega
      · simp at h; omega
  have H := Lib.hid hfin
  have hrun' := hrun
  rw [hw1] at hrun
  have hmm : (Instr.makeMap 105 none).run Try.prog w = .ok (.map (some w.heap.size)) (w.alloc (.map #[] 0)) := rfl
  clear hM hn hM2 hC2 hfin hb1 hz2 hrun'
  go_enter Try.func37, Try.ntmps37
  go_wp2
  go_ret
  exact H.out
/-- how an item lies in a row -/
def eltI : Elt Try.prog Ff.E where
  st := 35
  e := 48
  z := .agg #[.int .i64 0, .int .i64 0]
  size := 2
  bytes := 16
  pv := fun p => [.int .i64 p.1, .int .i64 p.2]
  ht := Try.underlying35
  info := by kernel_rfl
  hz := rfl
  pos := by decide
  le := by decide
  len := fun _ => rfl
  one := fun s u hu => by simp at hu; rcases hu with rfl | rfl <;> rfl
theorem idx_midI {a b : List Int} {x : Int} (h : x ∉ a) : (a ++ x :: b).idxOf x = a.length := by
  induction a with
  | nil => simp
  | cons y t ih =>
    simp only [List.mem_cons, not_or] at h
    rw [List.cons_append, List.idxOf_cons, ih h.2]
    have : (y == x) = false := by simpa using fun e => h.1 e.symm
    simp [this]
theorem idx_outI {l : List Int} {x : Int} (h : x ∉ l) : l.idxOf x = l.length := by
  induction l with
  | nil => simp
  | cons y t ih =>
    simp only [List.mem_cons, not_or] at h
    rw [List.idxOf_cons, ih h.2]
    have : (y == x) = false := by simpa using fun e => h.1 e.symm
    simp [this]
/-- the first link's number, or none -/
def hdI : List Nd → Int
  | [] => 0
  | n :: _ => n.id
theorem hdI_eq (ns : List Nd) : (ns.map (·.id)).headD 0 = hdI ns := by cases ns <;> rfl
/-- it returns a row of one's own of these items -/
structure RetIs (l : List Ff.E) (w : World) (e : Ending) (w' : World) : Prop where
  r : ∃ v, e = .returned v ∧ eltI.Row w' w.heap.size v l
  b : Below w.heap.size w w'
set_option maxRecDepth 100000 in
set_option maxHeartbeats 4000000 in
theorem allC (B P : Nat) (l : List Ff.E) (F : Nat → Prop) (w : World) (h : QIs w B P l F) (hl : l.length ≤ 1000000) :
    Calls Try.prog 45 #[.pointer (some ⟨P, 0, none⟩)] w (RetIs l w) := by
  obtain ⟨m, s, ns, aft, bef, h1, h2, rfl, h4, h5, h6⟩ := h
  have hln : ns.length ≤ 1000000 := by simpa using hl
  have c0 := h1.c0
  have r0 := h1.look (n := ⟨s, 0, 0⟩) (by simp)
  obtain ⟨_, _, _, d0⟩ := h1.n0 (n := ⟨s, 0, 0⟩) (by simp)
  have hfirst := h2.first
  rw [hdI_eq] at hfirst
  rw [hfirst] at d0
  have hrow0 : eltI.Row w w.heap.size (.slice none 0 0) [] := Elt.Row.nil w _
  have HJ := Lib.hid h1
  have HR := Lib.hid h2
  have HROW := Lib.hid hrow0
  clear h1 h2 h4 h5 h6 hl hfirst hrow0
  go_enter Try.func45, Try.ntmps45
  go_wp2
  go_loopw [3, 4] (fun u x wr => ∃ a b : List Nd, ns = a ++ b ∧ x = .int .i64 (hdI b) ∧ Hid (Below w.heap.size w wr ∧ eltI.Row wr w.heap.size u (a.map Nd.kv))) (fun _ x _ => ns.length - (ns.map (·.id)).idxOf (intOf x))
  case atStart => exact ⟨[], ns, rfl, rfl, Lib.hid ⟨Below.refl _ _, HROW.out⟩⟩
  case round =>
    obtain ⟨a, b, rfl, rfl, hst⟩ := hrel
    clear r0 d0 HROW
    have hring := HR.out
    obtain ⟨hb, hrow⟩ := hst.out
    obtain ⟨ad, cp, rfl⟩ := hrow.slice
    cases b with
    | nil =>
      rw [List.append_nil] at *
      have HF : Hid (RetIs (a.map Nd.kv) w (.returned (.slice ad (a.map Nd.kv).length cp)) wr) := Lib.hid ⟨⟨_, rfl, hrow⟩, hb⟩
      rw [show hdI ([] : List Nd) = 0 from rfl]
      clear hst hb hrow hring
      go_wp2
      go_ret
      exact HF.out
    | cons n b =>
      have hmem : n ∈ (⟨s, 0, 0⟩ :: (a ++ n :: b) : List Nd) := by simp
      have hmap : (a ++ n :: b).map (·.id) = a.map (·.id) ++ n.id :: b.map (·.id) := by simp
      have hnd := (List.nodup_cons.1 hring.nd)
      have hnext : aft n.id = hdI b := by rw [← hdI_eq]; rw [hmap] at hring; exact hring.next
      have hi1 : ((a ++ n :: b).map (·.id)).idxOf n.id = a.length := by
        have h1 := hnd.2
        rw [hmap] at h1 ⊢
        rw [idx_midI (fun h => (List.nodup_append.1 h1).2.2 n.id h n.id (by simp) rfl)]
        simp
      have hi2 : a.length + 1 ≤ ((a ++ n :: b).map (·.id)).idxOf (hdI b) := by
        cases b with
        | nil =>
          show a.length + 1 ≤ ((a ++ [n]).map (·.id)).idxOf 0
          rw [idx_outI hnd.1]; simp
        | cons m2 b =>
          have hm2 : (a ++ n :: m2 :: b).map (·.id) = (a ++ [n]).map (·.id) ++ m2.id :: b.map (·.id) := by simp
          have h1 := hnd.2
          show a.length + 1 ≤ ((a ++ n :: m2 :: b).map (·.id)).idxOf m2.id
          rw [hm2] at h1 ⊢
          rw [idx_midI (fun h => (List.nodup_append.1 h1).2.2 m2.id h m2.id (by simp) rfl)]
          simp
      have hne : n.id ≠ 0 := fun e => hnd.1 (by rw [← e]; simp)
      have hJ : JAt wr P m _ _ aft bef := HJ.out.keep (fun k hk => hb.block k (HJ.out.lt k hk))
      have c1 := hJ.c0
      have r1 := hJ.look hmem
      obtain ⟨d1, d2, _, _⟩ := hJ.n0 hmem
      have hB := hb.size
      have HAFT := Lib.hid (fun W (hW : Below w.heap.size w W) => by
        have g : JAt W P m _ _ aft bef := HJ.out.keep (fun k hk => hW.block k (HJ.out.lt k hk))
        have g4 := (g.n0 hmem).2.2.2
        rw [hnext] at g4
        exact (show W.cell? ⟨P, 0, none⟩ = some (.map (some m)) ∧ (Instr.lookup 105 (.map (some m)) (.int .i64 n.id) false).run Try.prog W = .ok (.pointer (some ⟨n.b, 0, none⟩)) W ∧ W.cell? ⟨n.b, 3, none⟩ = some (.int .i64 (hdI b)) from ⟨g.c0, g.look hmem, g4⟩))
      have hsn : (a ++ [n]).map Nd.kv = a.map Nd.kv ++ [(n.id, n.c)] := by simp [Nd.kv]
      have hla : (a.map Nd.kv).length ≤ 1000000 := by simp at hln ⊢; omega
      have HSN := Lib.hid hsn
      have HI1 := Lib.hid hi1
      have HI2 := Lib.hid hi2
      have HB := Lib.hid hb
      have t0 : (n.id != 0) = true := by simpa using hne
      rw [show hdI (n :: b) = n.id from rfl]
      clear hst hb hring hmap hnd hnext hi1 hi2 hJ hsn hmem c0
      have HBR := Lib.hid hrow
      clear hrow
      generalize hM : a.map Nd.kv = M at *
      clear hM
      go_wp2_with (at_builtin; (refine eltI.wpApp wr rfl _ _ rfl w.heap.size (.slice ad M.length cp) M rfl HBR.out #[.int .i64 n.id, .int .i64 n.c] _ rfl (n.id, n.c) rfl (by omega) hB ?_); intro v' w2 hown hb2 hkeep hlies; obtain ⟨e1, e2, e3⟩ := HAFT.out w2 (HB.out.trans hb2))
      have hrow2 := Lib.hid (show Below w.heap.size w w2 ∧ eltI.Row w2 w.heap.size v' ((a ++ [n]).map Nd.kv) from ⟨HB.out.trans hb2, by rw [HSN.out]; exact hown⟩)
      go_roundw
      case rel => exact ⟨a ++ [n], b, by simp, rfl, hrow2⟩
      case measure =>
        have h1 := HI1.out
        have h2 := HI2.out
        simp only [intOf, List.length_append, List.length_cons] at h1 h2 ⊢
        omega
end Go.Proofs.Ytgeoebodlcbebaa
