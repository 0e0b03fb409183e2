/-
  The law HistOrder, walked.
-/
import Derived.Test.YtnecdelmhfeneaaHistT
namespace Hi
set_option linter.unusedVariables false
/-- the buckets of a row of numbers -/
def bs (n : Nat) (f : Nat → Int) : List Nat := (List.range n).map (fun i => bk (f i).toNat)
theorem bs_length (n : Nat) (f : Nat → Int) : (bs n f).length = n := by simp [bs]
theorem bs_lt (n : Nat) (f : Nat → Int) : ∀ b ∈ bs n f, b < 16 := fun b h => by
  obtain ⟨i, _, rfl⟩ := List.mem_map.1 h
  exact bk_lt _
theorem bs_get {n : Nat} {f : Nat → Int} {k : Nat} (h : k < n) : (bs n f)[k]? = some (bk (f k).toNat) := by
  simp [bs, h]
/-- k rounds of the law's loop -/
structure Inv (n : Nat) (f : Nat → Int) (k : Nat) (la lb : List Int) : Prop where
  oa : ok la = true
  ob : ok lb = true
  ta : 0 < k → 1 ≤ tot la
  c : n ≤ 64 → la = cnt ((bs n f).take k) ∧ lb = cnt ((bs n f).drop (n - k))
theorem Inv.start (n : Nat) (f : Nat → Int) : Inv n f 0 zeros zeros :=
  ⟨zeros_ok, zeros_ok, fun h => by omega, fun _ => ⟨rfl, by rw [List.drop_of_length_le (by rw [bs_length]; omega)]; rfl⟩⟩
theorem Inv.step {n : Nat} {f : Nat → Int} {k j : Nat} {la lb : List Int} (h : Inv n f k la lb) (ha : la.length = 16) (hb : lb.length = 16) (hk : k < n) (hj : j + k + 1 = n) : Inv n f (k + 1) (add la (bk (f k).toNat)) (add lb (bk (f j).toNat)) := by
  refine ⟨(add_ok ha h.oa (bk_lt _)).1, (add_ok hb h.ob (bk_lt _)).1, fun _ => (add_ok ha h.oa (bk_lt _)).2, fun hn => ?_⟩
  obtain ⟨e1, e2⟩ := h.c hn
  have hl := bs_length n f
  constructor
  · rw [e1, add_cnt (fun b hb => bs_lt n f b (List.mem_of_mem_take hb)) (by rw [List.length_take, hl]; omega), ← cnt_snoc, List.take_add_one, bs_get hk]
    rfl
  · rw [e2, add_cnt (fun b hb => bs_lt n f b (List.mem_of_mem_drop hb)) (by rw [List.length_drop, hl]; omega)]
    have e : (bs n f).drop (n - (k + 1)) = bk (f j).toNat :: (bs n f).drop (n - k) := by
      rw [show n - (k + 1) = j by omega, show n - k = j + 1 by omega, List.drop_eq_getElem_cons (by omega)]
      congr 1
      have := bs_get (f := f) (show j < n by omega)
      rw [List.getElem?_eq_getElem (by omega)] at this
      exact Option.some.inj this
    rw [e, cnt]
theorem Inv.all {n : Nat} {f : Nat → Int} {la lb : List Int} (h : Inv n f n la lb) (hn : n ≤ 64) : la = lb ∧ tot la = n := by
  obtain ⟨e1, e2⟩ := h.c hn
  have hl := bs_length n f
  rw [List.take_of_length_le (by omega)] at e1
  rw [Nat.sub_self, List.drop_zero] at e2
  exact ⟨e1.trans e2.symm, by rw [e1, cnt_tot _ (bs_lt n f), hl]⟩
end Hi
namespace Go.Proofs.Ytnecdelmhfeneaa
open Go.RowKit
set_option linter.unusedVariables false

/-- a row of numbers, as it came in -/
def NumAt (w : World) (a : Option Addr) (len : Nat) (f : Nat → Int) : Prop := len = 0 ∨ ∃ b off : Nat, a = some ⟨b, off, none⟩ ∧ b < w.heap.size ∧
  ∀ i, i < len → w.cell? ⟨b, off + i, none⟩ = some (.int .u64 (f i)) ∧ 0 ≤ f i ∧ f i < 18446744073709551616
theorem keepC {w w' : World} {b i : Nat} {v : Value} (h : w.cell? ⟨b, i, none⟩ = some v) (hb : Below w.heap.size w w') (hlt : b < w.heap.size) : w'.cell? ⟨b, i, none⟩ = some v := ((below_cells hb b hlt).1 i).trans h
theorem keepS {w : World} {b i g : Nat} {c : Array Value} {v : Value} (h : w.cell? ⟨b, i, none⟩ = some v) (hne : b ≠ g) : (w.setRow g c).cell? ⟨b, i, none⟩ = some v := (cell_setRow_other w g c ⟨b, i, none⟩ hne).trans h

set_option maxRecDepth 100000 in
set_option maxHeartbeats 8000000 in
theorem histOrder_many (a : Option Addr) (n cap : Nat) (w : World) (h : 300 < n) : Calls Try.prog 5 #[.slice a n cap] w (Ret (.bool true) w) := by
  have KL := Lib.hid liveOk
  go_enter Try.func5, Try.ntmps5
  go_wp2_with (go_at_call 10; (with_reducible refine (KL.out _).mono ?_); rintro e wA ⟨rfl, hbA⟩)
  go_ret
  exact ⟨rfl, hbA⟩
set_option maxRecDepth 100000 in
set_option maxHeartbeats 8000000 in
theorem histOrder_at (a : Option Addr) (n cap : Nat) (f : Nat → Int) (w : World) (hn : n ≤ 300) (h : NumAt w a n f) : Calls Try.prog 5 #[.slice a n cap] w (Ret (.bool true) w) := by
  have KL := Lib.hid liveOk
  have HN := Lib.hid h; clear h
  have A0 : Hid (Bx ((w.alloc (boxH Hi.zeros)).alloc (boxH Hi.zeros)) w.heap.size Hi.zeros) := Lib.hid ((zeros_new w).old _)
  have A1 : Hid (Bx ((w.alloc (boxH Hi.zeros)).alloc (boxH Hi.zeros)) (w.heap.size + 1) Hi.zeros) := Lib.hid (by
    have := zeros_new (w.alloc (boxH Hi.zeros))
    rwa [alloc_size] at this)
  have AB := Lib.hid (((Below.refl w.heap.size w).alloc (Nat.le_refl _) (boxH Hi.zeros)).alloc (by simp) (boxH Hi.zeros))
  have B0 := Lib.hid (A0.out.row (m := Hi.zeros) rfl)
  have B1 := Lib.hid (A1.out.rowO w.heap.size (Hi.cells Hi.zeros) (by omega))
  have BB := Lib.hid (below_row AB.out (Nat.le_refl _) (Hi.cells Hi.zeros))
  go_enter Try.func5, Try.ntmps5
  go_wp2_with (first
    | (refine storeB A0.out (l := Hi.zeros) rfl rfl _ _ rfl rfl rfl ?_)
    | (refine storeB B1.out (l := Hi.zeros) rfl rfl _ _ rfl rfl rfl ?_))
  go_loopw [5] (fun i wr => ∃ (k : Nat) (la lb : List Int), k ≤ n ∧ i = .int .i64 (k : Int) ∧ Hid (Bx wr w.heap.size la) ∧ Hid (Bx wr (w.heap.size + 1) lb) ∧ Hid (Below w.heap.size w wr) ∧ Hid (Hi.Inv n f k la lb)) (fun i _ => n - (intOf i).toNat)
  case atStart => exact ⟨0, Hi.zeros, Hi.zeros, by omega, rfl, Lib.hid (B0.out.rowO _ _ (by omega)), Lib.hid (B1.out.row (m := Hi.zeros) rfl), Lib.hid (below_row BB.out (by omega) _), Lib.hid (Hi.Inv.start n f)⟩
  case round =>
    clear A0 A1 AB B0 B1 BB
    obtain ⟨k, la, lb, hk, rfl, HA, HB, HW, HI⟩ := hrel
    by_cases hlt : k < n
    · obtain ⟨b, off, rfl, hbw, hcell⟩ : ∃ b off : Nat, a = some ⟨b, off, none⟩ ∧ b < w.heap.size ∧ ∀ i, i < n → w.cell? ⟨b, off + i, none⟩ = some (.int .u64 (f i)) ∧ 0 ≤ f i ∧ f i < 18446744073709551616 := by
        rcases HN.out with h | h
        · omega
        · exact h
      obtain ⟨j, hj⟩ : ∃ j, j + k + 1 = n := ⟨n - k - 1, by omega⟩
      have hjn : j < n := by omega
      obtain ⟨la2, hla2e⟩ : ∃ m, m = Hi.add la (Hi.bk (f k).toNat) := ⟨_, rfl⟩
      obtain ⟨lb2, hlb2e⟩ : ∃ m, m = Hi.add lb (Hi.bk (f j).toNat) := ⟨_, rfl⟩
      have hla2 : la2.length = 16 := by rw [hla2e]; exact Hi.add_length HA.out.n _
      have hlb2 : lb2.length = 16 := by rw [hlb2e]; exact Hi.add_length HB.out.n _
      have CA := Lib.hid (fun W => addC la HA.out.n (f k) (hcell k hlt).2.1 (hcell k hlt).2.2 W)
      have CB := Lib.hid (fun W => addC lb HB.out.n (f j) (hcell j (by omega)).2.1 (hcell j (by omega)).2.2 W)
      have HI2 := Lib.hid (HI.out.step (j := j) HA.out.n HB.out.n hlt hj)
      rw [← hla2e, ← hlb2e] at HI2
      rw [← hla2e] at CA
      rw [← hlb2e] at CB
      have hA := HA.out.below ((Below.refl _ _).drew)
      have hB := HB.out.below ((Below.refl _ _).drew)
      have hW := HW.out.drew
      have hbs : b < wr.heap.size := Nat.lt_of_lt_of_le hbw HW.out.size
      have hSk := keepC (hcell k hlt).1 HW.out hbw
      have hSj := keepC (hcell j (by omega)).1 HW.out hbw
      clear HA HB HW HI hla2e hlb2e hcell
      replace hSk : wr.drew.cell? ⟨b, off + k, none⟩ = some (.int .u64 (f k)) := hSk
      replace hSj : wr.drew.cell? ⟨b, off + j, none⟩ = some (.int .u64 (f j)) := hSj
      have hS := hSk
      go_upto_region 7 with fail
      refine wp_region_any (by kernel_rfl) ?_
      change wpAny _ _ _ _ _ _ _ (World.drew _)
      refine wpAny_of_held (S := fun w' => w'.cell? ⟨b, off + k, none⟩ = some (.int .u64 (f k))) _ _ _ _ ?_
      refine takeH 1 19 ?_ rfl rfl (by kernel_rfl) (by kernel_rfl) (by kernel_rfl) (fun _ _ _ h => h) (Or.inl ⟨by kernel_rfl, ?_⟩) hS ?_; rotate_left; (intro w' hw; skip; first | (go_simp; done) | (go_simp; with_reducible rfl)); rotate_left
      try simp only [List.setIfInBounds_toArray, List.set_cons_zero, List.set_cons_succ]
      refine takeH 2 20 ?_ rfl rfl (by kernel_rfl) (by kernel_rfl) (by kernel_rfl) (fun _ _ _ h => h) (Or.inl ⟨by kernel_rfl, ?_⟩) hS ?_; rotate_left; (intro w' hw; skip; first | (go_simp; done) | (go_simp; with_reducible rfl)); rotate_left
      try simp only [List.setIfInBounds_toArray, List.set_cons_zero, List.set_cons_succ]
      refine takeH 3 21 ?_ rfl rfl (by kernel_rfl) (by kernel_rfl) (by kernel_rfl) (fun _ _ _ h => h) (Or.inl ⟨by kernel_rfl, ?_⟩) hS ?_; rotate_left; (intro w' hw; skip; first | (go_simp; done) | (go_simp; with_reducible rfl)); rotate_left
      try simp only [List.setIfInBounds_toArray, List.set_cons_zero, List.set_cons_succ]
      refine takeH 4 22 ?_ rfl rfl (by kernel_rfl) (by kernel_rfl) (by kernel_rfl) (fun _ _ _ h => h) (Or.inl ⟨by kernel_rfl, ?_⟩) hS ?_; rotate_left; (intro w' hw; skip; first | (go_simp; done) | (go_simp; with_reducible rfl)); rotate_left
      try simp only [List.setIfInBounds_toArray, List.set_cons_zero, List.set_cons_succ]
      refine wpAnyH_ready (rs := [0]) (by kernel_rfl) (by simp) ?_; refine AllReadyH.cons rfl (fun K2 hK => ?_) AllReadyH.nil; rw [if_pos (by kernel_rfl)]; refine wp_load_row 28 _ rfl _ rfl 28 _ _ _ hA.h Try.underlying28 rfl (by rw [infoH, Hi.cells_size, hA.n]) ?_; refine hK.out _ _ hS (fun _ => ?_); clear hK K2
      simp only [Act.put, List.getElem_toArray, List.getElem_cons_zero, List.setIfInBounds_toArray, List.set_cons_zero, List.set_cons_succ]
      refine wpAnyH_ready (rs := [5]) (by kernel_rfl) (by simp) ?_; refine AllReadyH.cons rfl (fun K2 hK => ?_) AllReadyH.nil; go_simp; go_wp2_with (go_at_call 11; (with_reducible refine (CA.out _).mono ?_); rintro e wA ⟨rfl, hbA⟩; replace hS := keepC hS hbA hbs; replace hSj := keepC hSj hbA hbs; replace hA := hA.below hbA; replace hB := hB.below hbA; replace hW := hW.trans (hbA.mono hW.size); clear hbA); refine hK.out _ _ ?_ (fun _ => ?_); (exact hS); clear hK K2
      try simp only [List.setIfInBounds_toArray, List.set_cons_zero, List.set_cons_succ]
      refine wpAnyH_ready (rs := [6]) (by kernel_rfl) (by simp) ?_; refine AllReadyH.cons rfl (fun K2 hK => ?_) AllReadyH.nil; rw [if_pos (by kernel_rfl)]; refine wp_store_row 28 _ _ rfl _ (Hi.cells la2) rfl rfl 28 _ hA.h (by rw [infoH, Hi.cells_size, hla2]) (by rw [Hi.cells_size, Hi.cells_size, hA.n, hla2]) (Hi.cells_one _) ?_; refine hK.out _ _ (keepS hS (by omega)) (fun _ => ?_); clear hK K2
      simp only [Act.put, List.getElem_toArray, List.getElem_cons_zero, List.getElem_cons_succ]
      refine wpAnyH_done (by kernel_rfl) ?_ _
      replace hA := hA.row hla2
      replace hB := hB.rowO w.heap.size (Hi.cells la2) (by omega)
      replace hW := below_row hW (Nat.le_refl _) (Hi.cells la2)
      replace hSj := keepS (g := w.heap.size) (c := Hi.cells la2) hSj (by omega)
      clear hS hSk hbs
      generalize wA.setRow w.heap.size (Hi.cells la2) = w2 at *
      replace hA := hA.below ((Below.refl _ _).drew)
      replace hB := hB.below ((Below.refl _ _).drew)
      replace hW := hW.drew
      have hS : w2.drew.cell? ⟨b, off + j, none⟩ = some (.int .u64 (f j)) := hSj
      have hbs2 : b < w2.drew.heap.size := Nat.lt_of_lt_of_le hbw hW.size
      clear hSj
      go_upto_region 8 with fail
      refine wp_region_any (by kernel_rfl) ?_
      change wpAny _ _ _ _ _ _ _ (World.drew _)
      refine wpAny_of_held (S := fun w' => w'.cell? ⟨b, off + j, none⟩ = some (.int .u64 (f j))) _ _ _ _ ?_
      refine takeH 1 25 ?_ rfl rfl (by kernel_rfl) (by kernel_rfl) (by kernel_rfl) (fun _ _ _ h => h) (Or.inl ⟨by kernel_rfl, ?_⟩) hS ?_; rotate_left; (intro w' hw; skip; first | (go_simp; done) | (go_simp; with_reducible rfl)); rotate_left
      try simp only [List.setIfInBounds_toArray, List.set_cons_zero, List.set_cons_succ]
      refine takeH 2 26 ?_ rfl rfl (by kernel_rfl) (by kernel_rfl) (by kernel_rfl) (fun _ _ _ h => h) (Or.inl ⟨by kernel_rfl, ?_⟩) hS ?_; rotate_left; (intro w' hw; skip; first | (go_simp; done) | (go_simp; with_reducible rfl)); rotate_left
      try simp only [List.setIfInBounds_toArray, List.set_cons_zero, List.set_cons_succ]
      refine takeH 3 27 ?_ rfl rfl (by kernel_rfl) (by kernel_rfl) (by kernel_rfl) (fun _ _ _ h => h) (Or.inl ⟨by kernel_rfl, ?_⟩) hS ?_; rotate_left; (intro w' hw; skip; first | (go_simp; done) | (go_simp; with_reducible rfl)); rotate_left
      try simp only [List.setIfInBounds_toArray, List.set_cons_zero, List.set_cons_succ]
      refine takeH 4 28 (.int .i64 ((n : Int) - 1)) rfl rfl (by kernel_rfl) (by kernel_rfl) (by kernel_rfl) (fun _ _ _ h => h) (Or.inl ⟨by kernel_rfl, ?_⟩) hS ?_; (intro w' hw; skip; first | (go_simp; done) | (go_simp; with_reducible rfl) | (go_simp; rw [IntKind.wrap_i64]; omega))
      try simp only [List.setIfInBounds_toArray, List.set_cons_zero, List.set_cons_succ]
      refine takeH 5 29 ?_ rfl rfl (by kernel_rfl) (by kernel_rfl) (by kernel_rfl) (fun _ _ _ h => h) (Or.inl ⟨by kernel_rfl, ?_⟩) hS ?_; rotate_left; (intro w' hw; skip; first | (go_simp; done) | (go_simp; with_reducible rfl)); rotate_left
      try simp only [List.setIfInBounds_toArray, List.set_cons_zero, List.set_cons_succ]
      refine takeH 6 30 (.int .i64 (j : Int)) rfl rfl (by kernel_rfl) (by kernel_rfl) (by kernel_rfl) (fun _ _ _ h => h) (Or.inl ⟨by kernel_rfl, ?_⟩) hS ?_; (intro w' hw; skip; first | (go_simp; done) | (go_simp; with_reducible rfl) | (go_simp; rw [IntKind.wrap_i64]; omega))
      try simp only [List.setIfInBounds_toArray, List.set_cons_zero, List.set_cons_succ]
      refine takeH 7 31 ?_ rfl rfl (by kernel_rfl) (by kernel_rfl) (by kernel_rfl) (fun _ _ _ h => h) (Or.inl ⟨by kernel_rfl, ?_⟩) hS ?_; rotate_left; (intro w' hw; skip; first | (go_simp; done) | (go_simp; with_reducible rfl)); rotate_left
      try simp only [List.setIfInBounds_toArray, List.set_cons_zero, List.set_cons_succ]
      refine takeH 8 32 ?_ rfl rfl (by kernel_rfl) (by kernel_rfl) (by kernel_rfl) (fun _ _ _ h => h) (Or.inl ⟨by kernel_rfl, ?_⟩) hS ?_; rotate_left; (intro w' hw; skip; first | (go_simp; done) | (go_simp; with_reducible rfl)); rotate_left
      try simp only [List.setIfInBounds_toArray, List.set_cons_zero, List.set_cons_succ]
      refine wpAnyH_ready (rs := [0]) (by kernel_rfl) (by simp) ?_; refine AllReadyH.cons rfl (fun K2 hK => ?_) AllReadyH.nil; rw [if_pos (by kernel_rfl)]; refine wp_load_row 28 _ rfl _ rfl 28 _ _ _ hB.h Try.underlying28 rfl (by rw [infoH, Hi.cells_size, hB.n]) ?_; refine hK.out _ _ hS (fun _ => ?_); clear hK K2
      simp only [Act.put, List.getElem_toArray, List.getElem_cons_zero, List.setIfInBounds_toArray, List.set_cons_zero, List.set_cons_succ]
      refine wpAnyH_ready (rs := [9]) (by kernel_rfl) (by simp) ?_; refine AllReadyH.cons rfl (fun K2 hK => ?_) AllReadyH.nil; go_simp; go_wp2_with (go_at_call 11; (with_reducible refine (CB.out _).mono ?_); rintro e wB ⟨rfl, hbB⟩; replace hS := keepC hS hbB hbs2; replace hA := hA.below hbB; replace hB := hB.below hbB; replace hW := hW.trans (hbB.mono hW.size); clear hbB); refine hK.out _ _ ?_ (fun _ => ?_); (exact hS); clear hK K2
      try simp only [List.setIfInBounds_toArray, List.set_cons_zero, List.set_cons_succ]
      refine wpAnyH_ready (rs := [10]) (by kernel_rfl) (by simp) ?_; refine AllReadyH.cons rfl (fun K2 hK => ?_) AllReadyH.nil; rw [if_pos (by kernel_rfl)]; refine wp_store_row 28 _ _ rfl _ (Hi.cells lb2) rfl rfl 28 _ hB.h (by rw [infoH, Hi.cells_size, hlb2]) (by rw [Hi.cells_size, Hi.cells_size, hB.n, hlb2]) (Hi.cells_one _) ?_; refine hK.out _ _ (keepS hS (by omega)) (fun _ => ?_); clear hK K2
      simp only [Act.put, List.getElem_toArray, List.getElem_cons_zero, List.getElem_cons_succ]
      refine wpAnyH_done (by kernel_rfl) ?_ _
      replace hA := hA.rowO (w.heap.size + 1) (Hi.cells lb2) (by omega)
      replace hB := hB.row hlb2
      replace hW := below_row hW (show w.heap.size ≤ w.heap.size + 1 by omega) (Hi.cells lb2)
      clear hS hbs2
      generalize wB.setRow (w.heap.size + 1) (Hi.cells lb2) = w3 at *
      go_wp2
      go_round
      case rel => exact ⟨k + 1, la2, lb2, by omega, by go_num, Lib.hid hA, Lib.hid hB, Lib.hid hW, HI2⟩
      case measure => simp [intOf]; omega
    · obtain rfl : k = n := by omega
      have hoa := HI.out.oa
      have CR := Lib.hid (fun W => rightC la HA.out.n W)
      have CT := Lib.hid (fun W => totalC la HA.out.n (Hi.small.wide (Hi.ok_iff.1 hoa).1) W)
      have hq := fun W => run_same la HA.out.n W
      rw [hoa] at CR
      clear hoa
      by_cases h64 : 64 < k
      · have hT := HI.out.ta (by omega)
        clear HI hq
        generalize Hi.tot la = T at *
        go_wp2_with (first
          | (refine loadB HA.out _ rfl rfl rfl ?_)
          | (go_at_call 12; (with_reducible refine (CR.out _).mono ?_); rintro e wA ⟨rfl, hbA⟩; replace HA := Lib.hid (HA.out.below hbA); replace HW := Lib.hid (HW.out.trans (hbA.mono HW.out.size)); clear hbA)
          | (go_at_call 15; (with_reducible refine (CT.out _).mono ?_); rintro e wA ⟨rfl, hbA⟩; replace HA := Lib.hid (HA.out.below hbA); replace HW := Lib.hid (HW.out.trans (hbA.mono HW.out.size)); clear hbA)
          | (go_at_call 10; (with_reducible refine (KL.out _).mono ?_); rintro e wA ⟨rfl, hbA⟩; replace HW := Lib.hid (HW.out.trans (hbA.mono HW.out.size)); clear hbA))
        go_ret
        exact ⟨rfl, HW.out⟩
      · obtain ⟨e1, e2⟩ := HI.out.all (by omega)
        rw [e2] at CT
        subst e1
        clear HI e2
        go_wp2_with (first
          | (refine loadB HA.out _ rfl rfl rfl ?_)
          | (refine loadB HB.out _ rfl rfl rfl ?_)
          | (go_at_call 15; (with_reducible refine (CT.out _).mono ?_); rintro e wA ⟨rfl, hbA⟩; replace HW := Lib.hid (HW.out.trans (hbA.mono HW.out.size)); clear hbA)
          | (go_at_call 10; (with_reducible refine (KL.out _).mono ?_); rintro e wA ⟨rfl, hbA⟩; replace HW := Lib.hid (HW.out.trans (hbA.mono HW.out.size)); clear hbA))
        go_ret
        exact ⟨rfl, HW.out⟩
end Go.Proofs.Ytnecdelmhfeneaa
