/-
  The law's own 'same': both readers do the same; the readers' other methods.
-/
import Derived.Test.YtbkcnhnndaejiaaOctR2
import Derived.Test.YtbkcnhnndaejiaaOctL
import Derived.Deep.RegionHeld3
namespace Go.Proofs.Ytbkcnhnndaejiaa
open Go.RowKit
set_option linter.unusedVariables false
open Bil (bl)

theorem octErr (B : Nat) (s : ByteArray) (e : Int) (w : World) (h : Rd tO w B s e) :
    Calls Try.prog 23 #[.pointer (some ⟨B, 0, none⟩)] w (Same (.int .i64 e) w) := by
  obtain ⟨hB, c0, c1, f0, f1⟩ := h.facts
  clear h
  go_enter Try.func23, Try.ntmps23
  go_wp2
  go_ret
  exact ⟨rfl, rfl⟩

theorem octRest (B : Nat) (s : ByteArray) (e : Int) (w : World) (hs : s.size ≤ 281474976710656) (h : Rd tO w B s e) :
    Calls Try.prog 24 #[.pointer (some ⟨B, 0, none⟩)] w (Ret (.string s) w) := by
  obtain ⟨hB, c0, c1, f0, f1⟩ := h.facts
  clear h
  go_enter Try.func24, Try.ntmps24
  go_wp2_with (go_at_call 34; (with_reducible refine (cloneOk s _ hs).mono ?_); rintro e w1 ⟨rfl, hbx⟩)
  go_ret
  exact ⟨rfl, hbx⟩

/-- what End tells -/
def endE (s : ByteArray) (e : Int) : Int := if e = 0 ∧ s.size ≠ 0 then 3 else e

theorem empty_of_size {s : ByteArray} (h : s.size = 0) : s = ⟨#[]⟩ := by
  apply ByteArray.ext
  exact Array.eq_empty_of_size_eq_zero h

theorem ne_empty {s : ByteArray} (h : s.size ≠ 0) : s.toList.isEmpty = false ∧ (!s.toList.isEmpty) = true := by
  have e : s.toList.isEmpty = false := by
    rw [ByteArray.toList_eq]
    cases hl : s.data.toList with
    | nil => exact absurd (by show s.data.size = 0; rw [← Array.length_toList, hl]; rfl) h
    | cons _ _ => rfl
  exact ⟨e, by rw [e]; rfl⟩

theorem octEnd (B : Nat) (s : ByteArray) (e : Int) (w : World) (h : Rd tO w B s e) :
    Calls Try.prog 25 #[.pointer (some ⟨B, 0, none⟩)] w (Same (.int .i64 (endE s e)) w) := by
  obtain ⟨hB, c0, c1, f0, f1⟩ := h.facts
  by_cases h0 : e = 0
  · subst h0
    by_cases h1 : s.size = 0
    · have HE : Hid (endE s 0 = 0) := by show _ = _; unfold endE; rw [if_neg (by omega)]
      have := empty_of_size h1
      subst this
      clear h1
      go_enter Try.func25, Try.ntmps25
      go_wp2_with (go_at_call 23; (with_reducible refine (octErr B _ 0 _ h).mono ?_); rintro e w1 ⟨rfl, rfl⟩)
      go_ret
      refine ⟨?_, rfl⟩
      rw [HE.out]; rfl
    · have HE : Hid (endE s 0 = 3) := by show _ = _; unfold endE; rw [if_pos ⟨rfl, h1⟩]
      obtain ⟨q1, q2⟩ := ne_empty h1
      go_enter Try.func25, Try.ntmps25
      go_wp2_with (go_at_call 23; (with_reducible refine (octErr B _ 0 _ h).mono ?_); rintro e w1 ⟨rfl, rfl⟩)
      go_ret
      refine ⟨?_, rfl⟩
      rw [HE.out]; rfl
  · have HE : Hid (endE s e = e) := by show _ = _; unfold endE; rw [if_neg (by omega)]
    have hne : (e == 0) = false := beq_eq_false_iff_ne.2 h0
    go_enter Try.func25, Try.ntmps25
    go_wp2_with (go_at_call 23; (with_reducible refine (octErr B _ e _ h).mono ?_); rintro e w1 ⟨rfl, rfl⟩)
    go_ret
    refine ⟨?_, rfl⟩
    rw [HE.out]; rfl

theorem refEnd (B : Nat) (s : ByteArray) (e : Int) (w : World) (h : Rd tR w B s e) :
    Calls Try.prog 26 #[.pointer (some ⟨B, 0, none⟩)] w (Same (.int .i64 (endE s e)) w) := by
  obtain ⟨hB, c0, c1, f0, f1⟩ := h.facts
  by_cases h0 : e = 0
  · subst h0
    by_cases h1 : s.size = 0
    · have HE : Hid (endE s 0 = 0) := by show _ = _; unfold endE; rw [if_neg (by omega)]
      have := empty_of_size h1
      subst this
      clear h1
      go_enter Try.func26, Try.ntmps26
      go_wp2
      go_ret
      refine ⟨?_, rfl⟩
      rw [HE.out]; rfl
    · have HE : Hid (endE s 0 = 3) := by show _ = _; unfold endE; rw [if_pos ⟨rfl, h1⟩]
      obtain ⟨q1, q2⟩ := ne_empty h1
      go_enter Try.func26, Try.ntmps26
      go_wp2
      go_ret
      refine ⟨?_, rfl⟩
      rw [HE.out]; rfl
  · have HE : Hid (endE s e = e) := by show _ = _; unfold endE; rw [if_neg (by omega)]
    have hne : (e != 0) = true := bne_iff_ne.2 h0
    go_enter Try.func26, Try.ntmps26
    go_wp2
    go_ret
    refine ⟨?_, rfl⟩
    rw [HE.out]; rfl

/-! ### a nil reader -/
theorem nilNum (w : World) : Calls Try.prog 27 #[.pointer none] w (Same (.int .u64 0) w) := by
  go_enter Try.func27, Try.ntmps27
  go_wp2_with fail
  go_enter Try.func39, Try.ntmps39
  go_wp2
  go_ret
  exact ⟨rfl, rfl⟩
theorem nilInt (m : Int) (w : World) : Calls Try.prog 28 #[.pointer none, .int .i64 m] w (Ret (.int .i64 0) w) := by
  go_enter Try.func28, Try.ntmps28
  go_wp2_with fail
  go_enter Try.func40, Try.ntmps40
  go_wp2
  go_ret
  exact ⟨rfl, (Below.refl _ _).alloc (Nat.le_refl _) _⟩
theorem nilStr (m : Int) (w : World) : Calls Try.prog 29 #[.pointer none, .int .i64 m] w (Ret (.string ⟨#[]⟩) w) := by
  go_enter Try.func29, Try.ntmps29
  go_wp2_with fail
  go_enter Try.func42, Try.ntmps42
  go_wp2
  go_ret
  exact ⟨rfl, (Below.refl _ _).alloc (Nat.le_refl _) _⟩
theorem nilFlag (w : World) : Calls Try.prog 30 #[.pointer none] w (Same (.bool false) w) := by
  go_enter Try.func30, Try.ntmps30
  go_wp2_with fail
  go_enter Try.func44, Try.ntmps44
  go_wp2
  go_ret
  exact ⟨rfl, rfl⟩
theorem nilErr (w : World) : Calls Try.prog 23 #[.pointer none] w (Same (.int .i64 1) w) := by
  go_enter Try.func23, Try.ntmps23
  go_wp2
  go_ret
  exact ⟨rfl, rfl⟩
theorem nilRest (w : World) : Calls Try.prog 24 #[.pointer none] w (Same (.string ⟨#[]⟩) w) := by
  go_enter Try.func24, Try.ntmps24
  go_wp2
  go_ret
  exact ⟨rfl, rfl⟩
theorem nilEnd (w : World) : Calls Try.prog 25 #[.pointer none] w (Same (.int .i64 1) w) := by
  go_enter Try.func25, Try.ntmps25
  go_wp2_with (go_at_call 23; (with_reducible refine (nilErr _).mono ?_); rintro e w1 ⟨rfl, rfl⟩)
  go_ret
  exact ⟨rfl, rfl⟩

/-! ### both readers -/
/-- what was there is as it was, but for blocks B and C -/
structure Only2 (B C : Nat) (w w' : World) : Prop where
  os : w'.os = w.os
  tape : w'.tape = w.tape
  output : w'.output = w.output
  size : w.heap.size ≤ w'.heap.size
  block : ∀ k, k < w.heap.size → k ≠ B → k ≠ C → w'.heap[k]? = w.heap[k]?
theorem Only2.refl (B C : Nat) (w : World) : Only2 B C w w := ⟨rfl, rfl, rfl, Nat.le_refl _, fun _ _ _ _ => rfl⟩
theorem Only2.trans {B C : Nat} {a b c : World} (h : Only2 B C a b) (k : Only2 B C b c) : Only2 B C a c :=
  ⟨k.os.trans h.os, k.tape.trans h.tape, k.output.trans h.output, Nat.le_trans h.size k.size, fun i h1 h2 h3 => (k.block i (Nat.lt_of_lt_of_le h1 h.size) h2 h3).trans (h.block i h1 h2 h3)⟩
theorem Only2.of1 {B C : Nat} {w w' : World} (h : Only B w w') : Only2 B C w w' := ⟨h.os, h.tape, h.output, h.size, fun k h1 h2 _ => h.block k h1 h2⟩
theorem Only2.of2 {B C : Nat} {w w' : World} (h : Only C w w') : Only2 B C w w' := ⟨h.os, h.tape, h.output, h.size, fun k h1 _ h3 => h.block k h1 h3⟩
theorem Only2.of_below {B C : Nat} {w w' : World} (h : Below w.heap.size w w') : Only2 B C w w' := ⟨h.os, h.tape, h.output, h.size, fun k h1 _ _ => h.block k h1⟩
theorem Only2.drew {B C : Nat} {w w' : World} (h : Only2 B C w w') : Only2 B C w w'.drew := ⟨h.os, h.tape, h.output, h.size, h.block⟩
theorem Only2.alloc {B C : Nat} {w w' : World} (h : Only2 B C w w') (o : Obj) : Only2 B C w (w'.alloc o) :=
  ⟨h.os, h.tape, h.output, Nat.le_trans h.size (by show w'.heap.size ≤ (w'.heap.push _).size; simp), fun k h1 h2 h3 => (Below.heap_alloc w' o k (Nat.lt_of_lt_of_le h1 h.size)).trans (h.block k h1 h2 h3)⟩
theorem Only2.below {B C b : Nat} {w w' : World} (h : Only2 B C w w') (hb : b ≤ B) (hc : b ≤ C) (hs : b ≤ w.heap.size) : Below b w w' := ⟨h.os, h.tape, h.output, h.size, fun k hk => h.block k (by omega) (by omega) (by omega)⟩
theorem Rd.drew {ty : TypeId} {w : World} {B : Nat} {s : ByteArray} {e : Int} (h : Rd ty w B s e) : Rd ty w.drew B s e := h

/-- both readers hold the same -/
structure Both (B C : Nat) (s : ByteArray) (e : Int) (w : World) : Prop where
  o : Rd tO w B s e
  r : Rd tR w C s e
theorem Both.below {B C b : Nat} {s : ByteArray} {e : Int} {w w' : World} (h : Both B C s e w) (hb : Below b w w') (hB : B < b) (hC : C < b) : Both B C s e w' := ⟨h.o.below hb hB, h.r.below hb hC⟩
/-- it returns true; both readers hold the same again -/
structure SameEnd (B C : Nat) (n : Nat) (w : World) (en : Ending) (w' : World) : Prop where
  ret : en = .returned (.bool true)
  only : Only2 B C w w'
  both : ∃ s e, Both B C s e w' ∧ s.size ≤ n ∧ 0 ≤ e ∧ e ≤ 9
theorem rdS_range {α : Type} (d : α) (s : ByteArray) (e : Int) (r : α × Nat × Int) (he : 0 ≤ e ∧ e ≤ 9) (hr : 0 ≤ r.2.2 ∧ r.2.2 ≤ 9) :
    (Bil.rdS d s e r).2.1.size ≤ s.size ∧ 0 ≤ (Bil.rdS d s e r).2.2 ∧ (Bil.rdS d s e r).2.2 ≤ 9 := by
  unfold Bil.rdS
  split
  · exact ⟨Nat.le_refl _, he.1, he.2⟩
  · split
    · exact ⟨Nat.le_refl _, hr.1, hr.2⟩
    · exact ⟨by simp only [ByteArray.size_extract]; omega, by simp, by simp⟩

theorem intD_e (m : Int) (l : List UInt8) : 0 ≤ (Bil.intD m l).2.2 ∧ (Bil.intD m l).2.2 ≤ 9 := by
  have := Bil.unchain_e l
  unfold Bil.intD
  split
  · exact this
  · split
    · simp
    · exact this
theorem flagD_e (l : List UInt8) : 0 ≤ (Bil.flagD l).2.2 ∧ (Bil.flagD l).2.2 ≤ 9 := by
  have := Bil.unchain_e l
  unfold Bil.flagD
  split
  · exact this
  · split <;> simp
theorem strD_e (m : Int) (l : List UInt8) : 0 ≤ (Bil.strD m l).2.2 ∧ (Bil.strD m l).2.2 ≤ 9 := by
  have := Bil.untext_e l m
  unfold Bil.strD
  exact this

theorem alloc_lt (w : World) (o : Obj) {B : Nat} (h : B < w.heap.size) : B < (w.alloc o).heap.size := by
  show B < (w.heap.push _).size; simp; omega

theorem both_end {B C n : Nat} {w w1 w2 w3 : World} {s' : ByteArray} {e' : Int} {r : Value} (hBC : B ≠ C) (h1 : Only2 B C w w1) (h2 : Only B w1 w2) (o2 : Rd tO w2 B s' e') (h3 : Only C w2 w3) (r3 : Rd tR w3 C s' e') (hr : s'.size ≤ n ∧ 0 ≤ e' ∧ e' ≤ 9) (hret : r = .bool true) : SameEnd B C n w (.returned r) w3 :=
  ⟨by rw [hret], (h1.trans (Only2.of1 h2)).trans (Only2.of2 h3), s', e', ⟨o2.only h3 hBC, r3⟩, hr⟩

theorem Only.undrew {B : Nat} {w w' : World} (h : Only B w.drew w') : Only B w w' := ⟨h.os, h.tape, h.output, h.size, h.block⟩
theorem box_cell (w : World) (k m : Int) (ty : TypeId) : (w.alloc (.cells #[.int .i64 k, .int .i64 m] ty)).cell? ⟨w.heap.size, 1, none⟩ = some (.int .i64 m) := World.cell?_alloc_at _ _ _ 1 rfl
theorem box_lt (w : World) (o : Obj) : w.heap.size < (w.alloc o).heap.size := by show w.heap.size < (w.heap.push _).size; simp
theorem box_keep {w w1 : World} {B : Nat} {k m : Int} {ty : TypeId} (h : Only B (w.alloc (.cells #[.int .i64 k, .int .i64 m] ty)) w1) (hB : B < w.heap.size) : w1.cell? ⟨w.heap.size, 1, none⟩ = some (.int .i64 m) := by
  rw [World.cell?_of_block (w := w.alloc (.cells #[.int .i64 k, .int .i64 m] ty)) (h.block w.heap.size (box_lt _ _) (by omega))]
  exact box_cell _ _ _ _
theorem box_keep2 {w w1 w2 : World} {B C : Nat} {k m : Int} {ty : TypeId} (h : Only B (w.alloc (.cells #[.int .i64 k, .int .i64 m] ty)) w1) (hB : B < w.heap.size) (h2 : Only C w1 w2) (hC : C < w.heap.size) : w2.cell? ⟨w.heap.size, 1, none⟩ = some (.int .i64 m) := by
  rw [World.cell?_of_block (w := w1) (h2.block w.heap.size (Nat.lt_of_lt_of_le (box_lt _ _) h.size) (by omega))]
  exact box_keep h hB

set_option maxHeartbeats 400000 in
theorem sameNum (B C : Nat) (s : ByteArray) (e m : Int) (w : World) (hBC : B ≠ C) (hs : s.size ≤ 1000) (he : 0 ≤ e ∧ e ≤ 9) (h : Both B C s e w) :
    Calls Try.prog 22 #[.pointer (some ⟨B, 0, none⟩), .pointer (some ⟨C, 0, none⟩), .agg #[.int .i64 0, .int .i64 m]] w (SameEnd B C s.size w) := by
  obtain ⟨ho, hr⟩ := h
  have hB := ho.facts.1
  have hC := hr.facts.1
  have HO := Lib.hid ho; clear ho
  have HR := Lib.hid hr; clear hr
  have hrg := rdS_range 0 s e (Bil.unchain (bl s)) he (Bil.unchain_e _)
  have c1 := fun W h => octNumRd B s e W (by omega) he h
  have c2 := fun W h => refNumRd C s e W (by omega) he h
  obtain ⟨v, s', e', hu⟩ : ∃ v s' e', Bil.rdS 0 s e (Bil.unchain (bl s)) = (v, s', e') := ⟨_, _, _, rfl⟩
  simp only [hu] at c1 c2 hrg
  clear hu
  have C1 := Lib.hid c1; clear c1
  have C2 := Lib.hid c2; clear c2
  go_enter Try.func22, Try.ntmps22
  go_wp2_with (first | (go_at_call 27; (with_reducible refine (C1.out _ ?_).mono ?_); (exact HO.out.alloc _); rintro e w1 ⟨rfl, ho1, hd1⟩; have H1 := Lib.hid ho1; clear ho1; have D1 := Lib.hid hd1; clear hd1) | (go_at_call 35; (with_reducible refine (C2.out _ ?_).mono ?_); (exact (HR.out.alloc _).only H1.out (Ne.symm hBC)); rintro e w2 ⟨rfl, ho2, hd2⟩; have H2 := Lib.hid ho2; clear ho2; have D2 := Lib.hid hd2; clear hd2))
  go_ret
  exact both_end hBC ((Only2.refl B C w).alloc _) H1.out D1.out H2.out D2.out hrg rfl

set_option maxHeartbeats 400000 in
theorem sameFlag (B C : Nat) (s : ByteArray) (e k m : Int) (w : World) (hBC : B ≠ C) (hs : s.size ≤ 1000) (he : 0 ≤ e ∧ e ≤ 9) (hk : k ≠ 0 ∧ k ≠ 1 ∧ k ≠ 2) (h : Both B C s e w) :
    Calls Try.prog 22 #[.pointer (some ⟨B, 0, none⟩), .pointer (some ⟨C, 0, none⟩), .agg #[.int .i64 k, .int .i64 m]] w (SameEnd B C s.size w) := by
  obtain ⟨ho, hr⟩ := h
  have k0 : (k == 0) = false := beq_eq_false_iff_ne.2 hk.1
  have k1 : (k == 1) = false := beq_eq_false_iff_ne.2 hk.2.1
  have k2 : (k == 2) = false := beq_eq_false_iff_ne.2 hk.2.2
  clear hk
  have hB := ho.facts.1
  have hC := hr.facts.1
  have HO := Lib.hid ho; clear ho
  have HR := Lib.hid hr; clear hr
  have hrg := rdS_range false s e (Bil.flagD (bl s)) he (flagD_e _)
  have c1 := fun W h => octFlagRd B s e W (by omega) he h
  have c2 := fun W h => refFlagRd C s e W (by omega) he h
  obtain ⟨v, s', e', hu⟩ : ∃ v s' e', Bil.rdS false s e (Bil.flagD (bl s)) = (v, s', e') := ⟨_, _, _, rfl⟩
  simp only [hu] at c1 c2 hrg
  clear hu
  have C1 := Lib.hid c1; clear c1
  have C2 := Lib.hid c2; clear c2
  go_enter Try.func22, Try.ntmps22
  go_wp2_with (first | (go_at_call 30; (with_reducible refine (C1.out _ ?_).mono ?_); (exact HO.out.alloc _); rintro e w1 ⟨rfl, ho1, hd1⟩; have H1 := Lib.hid ho1; clear ho1; have D1 := Lib.hid hd1; clear hd1) | (go_at_call 38; (with_reducible refine (C2.out _ ?_).mono ?_); (exact (HR.out.alloc _).only H1.out (Ne.symm hBC)); rintro e w2 ⟨rfl, ho2, hd2⟩; have H2 := Lib.hid ho2; clear ho2; have D2 := Lib.hid hd2; clear hd2))
  go_ret
  exact both_end hBC ((Only2.refl B C w).alloc _) H1.out D1.out H2.out D2.out hrg rfl

set_option maxHeartbeats 400000 in
theorem sameInt (B C : Nat) (s : ByteArray) (e m : Int) (w : World) (hBC : B ≠ C) (hs : s.size ≤ 1000) (he : 0 ≤ e ∧ e ≤ 9) (hm0 : -9223372036854775808 ≤ m) (hm1 : m ≤ 9223372036854775807) (h : Both B C s e w) :
    Calls Try.prog 22 #[.pointer (some ⟨B, 0, none⟩), .pointer (some ⟨C, 0, none⟩), .agg #[.int .i64 1, .int .i64 m]] w (SameEnd B C s.size w) := by
  obtain ⟨ho, hr⟩ := h
  have hB := ho.facts.1
  have hC := hr.facts.1
  have HO := Lib.hid ho; clear ho
  have HR := Lib.hid hr; clear hr
  have hrg := rdS_range 0 s e (Bil.intD m (bl s)) he (intD_e _ _)
  have c1 := fun W h => octIntRd B s e m W (by omega) he hm0 hm1 h
  have c2 := fun W h => refIntRd C s e m W (by omega) he hm0 hm1 h
  obtain ⟨v, s', e', hu⟩ : ∃ v s' e', Bil.rdS 0 s e (Bil.intD m (bl s)) = (v, s', e') := ⟨_, _, _, rfl⟩
  simp only [hu] at c1 c2 hrg
  clear hu
  have C1 := Lib.hid c1; clear c1
  have C2 := Lib.hid c2; clear c2
  go_enter Try.func22, Try.ntmps22
  go_wp2
  go_region_held3 (fun w' => w'.cell? ⟨w.heap.size, 1, none⟩ = some (.int .i64 m)) (first | go_keep | exact box_keep H1.out hB | exact box_keep2 H1.out hB H2.out hC) (first | (go_at_call 28; (with_reducible refine (C1.out _ ?_).mono ?_); (exact HO.out.alloc _); rintro e w1 ⟨rfl, ho1, hd1⟩; have H1 := Lib.hid ho1.undrew; clear ho1; have D1 := Lib.hid hd1; clear hd1) | (go_at_call 36; (with_reducible refine (C2.out _ ?_).mono ?_); (exact (HR.out.alloc _).only H1.out (Ne.symm hBC)); rintro e w2 ⟨rfl, ho2, hd2⟩; have H2 := Lib.hid ho2; clear ho2; have D2 := Lib.hid hd2; clear hd2))
  go_wp2
  go_ret
  exact both_end hBC ((Only2.refl B C w).alloc _) H1.out D1.out H2.out D2.out hrg rfl

set_option maxHeartbeats 400000 in
theorem sameStr (B C : Nat) (s : ByteArray) (e m : Int) (w : World) (hBC : B ≠ C) (hs : s.size ≤ 1000) (he : 0 ≤ e ∧ e ≤ 9) (hm0 : -9223372036854775808 ≤ m) (hm1 : m ≤ 9223372036854775807) (h : Both B C s e w) :
    Calls Try.prog 22 #[.pointer (some ⟨B, 0, none⟩), .pointer (some ⟨C, 0, none⟩), .agg #[.int .i64 2, .int .i64 m]] w (SameEnd B C s.size w) := by
  obtain ⟨ho, hr⟩ := h
  have hB := ho.facts.1
  have hC := hr.facts.1
  have HO := Lib.hid ho; clear ho
  have HR := Lib.hid hr; clear hr
  have hrg := rdS_range [] s e (Bil.strD m (bl s)) he (strD_e _ _)
  have c1 := fun W h => octStrRd B s e m W (by omega) he hm0 hm1 h
  have c2 := fun W h => refStrRd C s e m W (by omega) he hm0 hm1 h
  obtain ⟨v, s', e', hu⟩ : ∃ v s' e', Bil.rdS [] s e (Bil.strD m (bl s)) = (v, s', e') := ⟨_, _, _, rfl⟩
  simp only [hu] at c1 c2 hrg
  clear hu
  have C1 := Lib.hid c1; clear c1
  have C2 := Lib.hid c2; clear c2
  go_enter Try.func22, Try.ntmps22
  go_wp2
  go_region_held3 (fun w' => w'.cell? ⟨w.heap.size, 1, none⟩ = some (.int .i64 m)) (first | go_keep | exact box_keep H1.out hB | exact box_keep2 H1.out hB H2.out hC) (first | (go_at_call 29; (with_reducible refine (C1.out _ ?_).mono ?_); (exact HO.out.alloc _); rintro e w1 ⟨rfl, ho1, hd1⟩; have H1 := Lib.hid ho1.undrew; clear ho1; have D1 := Lib.hid hd1; clear hd1) | (go_at_call 37; (with_reducible refine (C2.out _ ?_).mono ?_); (exact (HR.out.alloc _).only H1.out (Ne.symm hBC)); rintro e w2 ⟨rfl, ho2, hd2⟩; have H2 := Lib.hid ho2; clear ho2; have D2 := Lib.hid hd2; clear hd2))
  go_wp2
  go_ret
  exact both_end hBC ((Only2.refl B C w).alloc _) H1.out D1.out H2.out D2.out hrg rfl

theorem sameOk (B C : Nat) (s : ByteArray) (e k m : Int) (w : World) (hBC : B ≠ C) (hs : s.size ≤ 1000) (he : 0 ≤ e ∧ e ≤ 9) (hm0 : -9223372036854775808 ≤ m) (hm1 : m ≤ 9223372036854775807) (h : Both B C s e w) :
    Calls Try.prog 22 #[.pointer (some ⟨B, 0, none⟩), .pointer (some ⟨C, 0, none⟩), .agg #[.int .i64 k, .int .i64 m]] w (SameEnd B C s.size w) := by
  by_cases h0 : k = 0
  · subst h0; exact sameNum B C s e m w hBC hs he h
  · by_cases h1 : k = 1
    · subst h1; exact sameInt B C s e m w hBC hs he hm0 hm1 h
    · by_cases h2 : k = 2
      · subst h2; exact sameStr B C s e m w hBC hs he hm0 hm1 h
      · exact sameFlag B C s e k m w hBC hs he ⟨h0, h1, h2⟩ h

end Go.Proofs.Ytbkcnhnndaejiaa
