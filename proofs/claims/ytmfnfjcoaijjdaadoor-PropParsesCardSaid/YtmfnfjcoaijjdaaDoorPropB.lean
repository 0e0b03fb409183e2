/-
  strings.Split at a mark of one byte; the document's Split. What a slice of strings holds.
-/
import Derived.Test.YtmfnfjcoaijjdaaDoorPropA
import Derived.OwnWalk
namespace Go.Proofs.YtmfnfjcoaijjdaaDoor
open Go.RowKit
set_option linter.unusedVariables false

/-- a slice that holds these strings -/
structure Strs (w : World) (v : Value) (l : List Pr.B) : Prop where
  ex : ∃ g cap cur, v = .slice (some ⟨g, 0, none⟩) l.length cap ∧ w.heap[g]? = some (.cells cur 9 (0, 0)) ∧ ∀ j (h : j < l.length), cur[j]? = some (.string (mk l[j]))
structure RetStrs (l : List Pr.B) (w : World) (e : Ending) (w' : World) : Prop where
  r : ∃ v, e = .returned v ∧ Strs w' v l
  b : Below w.heap.size w w'

theorem infoStr : (Tryd.prog.info? 9).map (fun i => (i.zero, i.size, i.bytes)) = some (some (.string ByteArray.empty), 1, 16) := by kernel_rfl

set_option maxHeartbeats 4000000 in
set_option maxRecDepth 1000000 in
theorem genSplitC (s : ByteArray) (c : UInt8) (w : World) (hs : s.size ≤ 9223372036854775806) (hc : (bl s).count c ≤ 1000000) :
    Calls Tryd.prog 34 #[.string s, .string ⟨#[c]⟩, .int .i64 0, .int .i64 (-1)] w
      fun e w' => e = .returned (.slice (some ⟨w.heap.size, 0, none⟩) ((bl s).count c + 1) ((bl s).count c + 1)) ∧ w' = w.alloc (.cells (((Pr.pieces c (bl s)).map fun x => Value.string (mk x)).toArray) 9) := by
  have hC := fun W => countC s c W
  have hI := fun x W => indexC x c W
  have hlen := Pr.pieces_length c (bl s)
  have hcl : (bl s).count c ≤ s.size := by rw [← bl_length]; exact List.count_le_length
  obtain ⟨cn, hcn⟩ : ∃ cn : Nat, (bl s).count c = cn := ⟨_, rfl⟩
  rw [hcn] at hC hlen hcl hc ⊢
  clear hcn
  obtain ⟨P, hP⟩ : ∃ P : List ByteArray, (Pr.pieces c (bl s)).map mk = P := ⟨_, rfl⟩
  have hP2 : ((Pr.pieces c (bl s)).map fun x => Value.string (mk x)) = P.map Value.string := by rw [← hP, List.map_map]; rfl
  rw [hP2]
  have hPl : P.length = cn + 1 := by rw [← hP, List.length_map, hlen]
  clear hP2 hlen
  have hmk := run_make_row' (P := Tryd.prog) 42 9 (.string ByteArray.empty) 16 Tryd.underlying42 infoStr rfl .i64 .i64 (cn + 1) (by omega) (by omega)
  have hmin : min ((cn : Int) + 1) ((s.size : Int) + 1) = (cn : Int) + 1 := by omega
  have hcast : (((cn + 1 : Nat)) : Int) = (cn : Int) + 1 := by omega
  rw [hcast] at hmk
  have HC := Lib.hid hC; clear hC
  have HI := Lib.hid hI; clear hI
  have HP := Lib.hid hP; clear hP
  have HPl := Lib.hid hPl; clear hPl
  go_enter Tryd.func34, Tryd.ntmps34
  go_wp2_with (first | (go_at_call 16; (with_reducible refine (HC.out _).mono ?_); rintro e w1 ⟨rfl, rfl⟩))
  clear hmk HC
  go_loopg [0, 10] cn (fun g s0 s10 wr => ∃ (done : List ByteArray) (rest : ByteArray), s0 = .string rest ∧ s10 = .int .i64 done.length ∧ done.length ≤ cn ∧ g = cn - done.length ∧ rest.size ≤ s.size ∧
      wr = w.alloc (.cells (Lib.cellsOf done (cn + 1)) 9) ∧ Hid (done ++ (Pr.pieces c (bl rest)).map mk = P))
  case atStart => exact ⟨[], s, rfl, rfl, Nat.zero_le _, rfl, Nat.le_refl _, by rw [Lib.cellsOf_nil], by simpa using HP⟩
  case round =>
    obtain ⟨done, rest, rfl, rfl, hd, rfl, hrs, rfl, HS⟩ := hrel
    have hnext : (Lib.cellsOf done (cn + 1))[done.length]? = some (.string ByteArray.empty) := Lib.cellsOf_next (by omega)
    have hcnt : done.length + (bl rest).count c = cn := by
      have := congrArg List.length HS.out
      rw [List.length_append, List.length_map, Pr.pieces_length, HPl.out] at this
      omega
    by_cases hlt : done.length < cn
    · have hm : c ∈ bl rest := List.count_pos_iff.1 (by omega)
      obtain ⟨a, r, hrest, ha⟩ := Pr.first_of hm
      have hIx := HI.out rest
      rw [hrest, idx_hit c a r ha] at hIx
      have hz : rest.size = a.length + r.length + 1 := by rw [← bl_length, hrest]; simp; omega
      have e1 : rest.extract 0 a.length = mk a := by apply bl_inj; rw [extract_bl, hrest, bl_mk']; simp
      have e2 : rest.extract (a.length + 1) rest.size = mk r := by
        apply bl_inj
        rw [extract_bl, ← bl_length, List.take_length, hrest, bl_mk', show a ++ c :: r = (a ++ [c]) ++ r by simp, show a.length + 1 = (a ++ [c]).length by simp, List.drop_left]
      have hS2 : (done ++ [mk a]) ++ (Pr.pieces c (bl (mk r))).map mk = P := by
        rw [← HS.out, hrest, Pr.pieces_hit c a r ha, bl_mk']
        simp
      have HS2 := Lib.hid hS2
      have HIx := Lib.hid hIx
      have HE1 := Lib.hid e1
      have HE2 := Lib.hid e2
      clear hS2 hIx e1 e2 hm hrest ha HI HPl HP HS hcnt
      have c0 : ¬ ((a.length : Int) < 0) := by omega
      have c1 : (0 : Int) ≤ ↑a.length := by omega
      have c2 : (↑a.length : Int) ≤ ↑rest.size := by omega
      have c3 : (0 : Int) ≤ ↑a.length + 1 := by omega
      have c4 : (↑a.length + 1 : Int) ≤ ↑rest.size := by omega
      go_wp2_with (first | (go_at_call 33; (with_reducible refine (HIx.out _).mono ?_); rintro e w1 ⟨rfl, rfl⟩))
      go_roundg (cn - (done.length + 1))
      case measure => omega
      case rel =>
        refine ⟨done ++ [mk a], mk r, ?_, by simp, by simp; omega, by simp, by rw [size_mk']; omega, ?_, HS2⟩
        · rw [← HE2.out, hz]
        · rw [← Lib.cellsOf_set (by omega), ← HE1.out]
    · obtain rfl : cn = done.length := by omega
      have hPe : done ++ [rest] = P := by
        have h0 : c ∉ bl rest := fun h => by have := List.count_pos_iff.2 h; omega
        rw [← HS.out, Pr.pieces_none c _ h0]
        simp [mk_bl']
      have HPe := Lib.hid hPe
      clear hPe HS HI HP HPl hcnt
      go_wp2
      go_ret
      refine ⟨rfl, ?_⟩
      rw [Lib.cellsOf_set (by omega), HPe.out]
      have : P.length = done.length + 1 := by rw [← HPe.out]; simp
      rw [← this, Lib.cellsOf_full]

theorem strs_made (w : World) (s : ByteArray) (c : UInt8) : Strs (w.alloc (.cells (((Pr.pieces c (bl s)).map fun x => Value.string (mk x)).toArray) 9)) (.slice (some ⟨w.heap.size, 0, none⟩) ((bl s).count c + 1) ((bl s).count c + 1)) (Pr.pieces c (bl s)) :=
  ⟨w.heap.size, _, _, by rw [Pr.pieces_length], heap_alloc_new w _, fun j hj => by simp [hj]⟩

set_option maxRecDepth 100000 in
theorem splitC (s : ByteArray) (c : UInt8) (w : World) (hs : s.size ≤ 9223372036854775806) (hc : (bl s).count c ≤ 1000000) :
    Calls Tryd.prog 17 #[.string s, .string ⟨#[c]⟩] w (RetStrs (Pr.pieces c (bl s)) w) := by
  have C := Lib.hid (genSplitC s c w hs hc)
  have hm := strs_made w s c
  have hb : Below w.heap.size w (w.alloc (.cells (((Pr.pieces c (bl s)).map fun x => Value.string (mk x)).toArray) 9)) := (Below.refl _ _).alloc (Nat.le_refl _) _
  generalize (w.alloc (.cells (((Pr.pieces c (bl s)).map fun x => Value.string (mk x)).toArray) 9)) = W at *
  generalize (bl s).count c + 1 = n at *
  have HM := Lib.hid hm; clear hm hc
  go_enter Tryd.func17, Tryd.ntmps17
  go_wp2_with (go_at_call 34; (with_reducible refine C.out.mono ?_); rintro e w1 ⟨rfl, rfl⟩)
  go_ret
  exact ⟨⟨_, rfl, HM.out⟩, hb⟩
end Go.Proofs.YtmfnfjcoaijjdaaDoor
