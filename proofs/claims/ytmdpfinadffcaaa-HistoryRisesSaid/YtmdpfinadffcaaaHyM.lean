/-
  Histories over lists alone: a run time added, rows with the last used behind all, classes, which rows may be loaded.
-/
import Derived.Test.YtmdpfinadffcaaaLhMath
import Derived.Test.YtmdpfinadffcaaaQuMath
namespace Hy
open Lr
set_option linter.unusedVariables false

def addV (v : V) (t : Int) : V := ⟨Hi.add v.1 (Hi.bk t.toNat), Hi.add_length v.2 _⟩
/-- the histogram of a key, or the zero one -/
def valOf (l : List E) (k : ByteArray) : V := (find l k).getD zero
/-- a run time observed, the last used first -/
def obs (room : Int) (l : List E) (k : ByteArray) (t : Int) : List E := (put room l k (addV (valOf l k) t)).1
/-- a key put behind all others -/
def back (R : List E) (k : ByteArray) (v : V) : List E := without R k ++ [(k, v)]
def putR (room : Int) (R : List E) (k : ByteArray) (v : V) : List E := if ((back R k v).length : Int) ≤ room then back R k v else (back R k v).tail
theorem without_reverse (l : List E) (k : ByteArray) : without l.reverse k = (without l k).reverse := by unfold without; rw [List.filter_reverse]
theorem back_reverse (l : List E) (k : ByteArray) (v : V) : back l.reverse k v = (front l k v).reverse := by
  unfold back front
  rw [without_reverse, List.reverse_cons]
theorem putR_reverse (room : Int) (l : List E) (k : ByteArray) (v : V) : putR room l.reverse k v = (put room l k v).1.reverse := by
  unfold putR put fit
  rw [back_reverse, List.length_reverse]
  split
  · rfl
  · rw [List.tail_reverse]
theorem good_reverse {l : List E} (h : Good l) : Good l.reverse := by
  unfold Good keys at *
  rw [List.map_reverse]
  exact (List.reverse_perm _).nodup_iff.2 h
theorem find_mem {l : List E} {k : ByteArray} {v : V} (h : find l k = some v) : (k, v) ∈ l := by
  obtain ⟨a, b, rfl, _⟩ := find_some h
  simp
theorem mem_find {l : List E} (hg : Good l) {k : ByteArray} {v : V} (h : (k, v) ∈ l) : find l k = some v := by
  obtain ⟨j, hj, e⟩ := List.getElem_of_mem h
  have := find_at hg hj
  rw [e] at this
  exact this
theorem find_reverse {l : List E} (hg : Good l) (k : ByteArray) : find l.reverse k = find l k := by
  cases h : find l k with
  | none => exact find_none.2 fun e he => find_none.1 h e (List.mem_reverse.1 he)
  | some v => exact mem_find (good_reverse hg) (List.mem_reverse.2 (find_mem h))
theorem valOf_reverse {l : List E} (hg : Good l) (k : ByteArray) : valOf l.reverse k = valOf l k := by unfold valOf; rw [find_reverse hg]
theorem good_obs {room : Int} {l : List E} (h : Good l) (k : ByteArray) (t : Int) : Good (obs room l k t) := h.put room k _
theorem room_obs {room : Int} {l : List E} (h0 : 0 ≤ room) (h : (l.length : Int) ≤ room) (k : ByteArray) (t : Int) : ((obs room l k t).length : Int) ≤ room := room_put h0 h k _
theorem length_obs (room : Int) (l : List E) (k : ByteArray) (t : Int) : (obs room l k t).length ≤ l.length + 1 := length_put room l k _
theorem length_back (R : List E) (k : ByteArray) (v : V) : (back R k v).length ≤ R.length + 1 := by
  have := length_without R k
  unfold back
  simp
  omega
theorem length_putR (room : Int) (R : List E) (k : ByteArray) (v : V) : (putR room R k v).length ≤ R.length + 1 := by
  have := length_back R k v
  unfold putR
  split
  · exact this
  · simp; omega
theorem without_cons (e : E) (r : List E) (k : ByteArray) : without (e :: r) k = if e.1 = k then without r k else e :: without r k := by
  unfold without
  by_cases h : e.1 = k <;> simp [h]

/-! ### classes -/
/-- r is the first of the limits that is not below x, or their number -/
structure IsCls (x : Int) (L : Nat → Int) (n r : Nat) : Prop where
  le : r ≤ n
  below : ∀ j, j < r → max (L j) 0 < x
  at_ : r < n → x ≤ max (L r) 0
theorem cls_ex (x : Int) (L : Nat → Int) : ∀ n, ∃ r, IsCls x L n r
  | 0 => ⟨0, Nat.le_refl _, fun j hj => by omega, fun h => by omega⟩
  | n + 1 => by
    obtain ⟨r, h⟩ := cls_ex x L n
    by_cases hr : r < n
    · exact ⟨r, Nat.le_succ_of_le h.le, h.below, fun _ => h.at_ hr⟩
    · obtain rfl : r = n := Nat.le_antisymm h.le (Nat.le_of_not_lt hr)
      by_cases hx : x ≤ max (L r) 0
      · exact ⟨r, Nat.le_succ _, h.below, fun _ => hx⟩
      · refine ⟨r + 1, Nat.le_refl _, fun j hj => ?_, fun h => by omega⟩
        by_cases e : j = r
        · subst e; omega
        · exact h.below j (by omega)
theorem IsCls.mono {x y : Int} {L : Nat → Int} {n r s : Nat} (h : IsCls x L n r) (g : IsCls y L n s) (hxy : x ≤ y) : r ≤ s := by
  rcases Nat.lt_or_ge s r with hs | hs
  · have h1 := h.below s hs
    have h2 := g.at_ (Nat.lt_of_lt_of_le hs h.le)
    omega
  · exact hs
/-- the estimate of a histogram, and the class that follows -/
structure Told (l : List Int) (p : Int) (L : Nat → Int) (n : Nat) (x : Int) (ok : Bool) (c : Nat) : Prop where
  no : ¬ Qu.Good l p → x = 0 ∧ ok = false ∧ c = 0
  yes : Qu.Good l p → ok = true ∧ (∃ b : Nat, Qu.IsPlace l p b ∧ x = Hi.high (b : Nat)) ∧ IsCls x L n c
theorem told_ex (v : V) (p : Int) (L : Nat → Int) (n : Nat) : ∃ x ok c, Told v.1 p L n x ok c := by
  by_cases h : Qu.Good v.1 p
  · obtain ⟨b, hb⟩ := h.place v.2
    obtain ⟨c, hc⟩ := cls_ex (Hi.high (b : Nat)) L n
    exact ⟨_, true, c, fun g => absurd h g, fun _ => ⟨rfl, ⟨b, hb, rfl⟩, hc⟩⟩
  · exact ⟨0, false, 0, fun _ => ⟨rfl, rfl, rfl⟩, fun g => absurd g h⟩
theorem high_range {b : Nat} (h : b < 16) : 0 ≤ Hi.high (b : Nat) ∧ Hi.high (b : Nat) < 18446744073709551616 := by
  by_cases e : b = 15
  · subst e
    rw [show ((15 : Nat) : Int) = 15 from rfl, Hi.high_15]
    omega
  · have h1 := Nat.pow_le_pow_right (n := 2) (i := b) (j := 15) (by omega) (by omega)
    have h2 := Nat.one_le_two_pow (n := b)
    rw [Hi.high_nat (by omega)]
    omega
theorem Told.range {l : List Int} {p : Int} {L : Nat → Int} {n : Nat} {x : Int} {ok : Bool} {c : Nat} (h : Told l p L n x ok c) : 0 ≤ x ∧ x < 18446744073709551616 := by
  by_cases g : Qu.Good l p
  · obtain ⟨_, ⟨b, hb, rfl⟩, _⟩ := h.yes g
    exact high_range hb.lt
  · obtain ⟨rfl, _⟩ := h.no g
    omega
theorem Told.le {l : List Int} {p : Int} {L : Nat → Int} {n : Nat} {x : Int} {ok : Bool} {c : Nat} (h : Told l p L n x ok c) : c ≤ n := by
  by_cases g : Qu.Good l p
  · exact (h.yes g).2.2.le
  · obtain ⟨_, _, rfl⟩ := h.no g
    exact Nat.zero_le _
/-- a greater percentage, no lower class -/
theorem Told.mono {l : List Int} {p q : Int} {L : Nat → Int} {n : Nat} {x y : Int} {ok ok' : Bool} {c d : Nat} (h : Told l p L n x ok c) (g : Told l q L n y ok' d) (h1 : 1 ≤ p) (h2 : p ≤ q) (h3 : q ≤ 100) : c ≤ d := by
  by_cases gp : Qu.Good l p
  · have gq : Qu.Good l q := ⟨gp.ok, gp.ne, by omega, h3⟩
    obtain ⟨_, ⟨a, ha, rfl⟩, hc⟩ := h.yes gp
    obtain ⟨_, ⟨b, hb, rfl⟩, hd⟩ := g.yes gq
    exact hc.mono hd ((Qu.high_le hb.lt ha.lt).2 (ha.mono gp.ok hb h2))
  · obtain ⟨_, _, rfl⟩ := h.no gp
    exact Nat.zero_le _
theorem Told.fits {l : List Int} {p : Int} {L : Nat → Int} {n : Nat} {x : Int} {c : Nat} (h : Told l p L n x true c) (hc : c < n) : x ≤ max (L c) 0 := by
  by_cases g : Qu.Good l p
  · exact (h.yes g).2.2.at_ hc
  · exact absurd (h.no g).2.1 (by simp)

/-! ### rows -/
/-- a row's histogram is valid, and not the zero one -/
def okE (e : E) : Bool := Hi.ok e.2.1 && decide (e.2 ≠ zero)
theorem zero_iff {v : V} (h : Hi.ok v.1 = true) : v = zero ↔ Hi.tot v.1 = 0 := by
  constructor
  · rintro rfl; decide
  · intro h0
    have hn := (Hi.ok_iff.1 h).1.nonneg
    refine Subtype.ext (List.ext_getElem (by rw [v.2]; rfl) fun i h1 h2 => ?_)
    have hm := List.getElem_mem h1
    have a := hn _ hm
    have b := Hi.le_tot hn hm
    have hz : ∀ x ∈ Hi.zeros, x = 0 := by decide
    have c : (zero.1)[i] = 0 := hz _ (List.getElem_mem h2)
    rw [c]
    omega
theorem okE_iff {e : E} : okE e = true ↔ Hi.ok e.2.1 = true ∧ Hi.tot e.2.1 ≠ 0 := by
  unfold okE
  constructor
  · intro h
    obtain ⟨h1, h2⟩ := Bool.and_eq_true_iff.1 h
    exact ⟨h1, fun h0 => of_decide_eq_true h2 ((zero_iff h1).2 h0)⟩
  · rintro ⟨h1, h2⟩
    rw [h1, Bool.true_and]
    exact decide_eq_true fun h0 => h2 ((zero_iff h1).1 h0)
/-- the first k rows may be loaded -/
structure Fine (R : List E) (k : Nat) : Prop where
  ok : ∀ j (h : j < R.length), j < k → okE R[j] = true
  ne : ∀ j i (h : j < R.length) (hi : i < R.length), j < k → i < j → R[i].1 ≠ R[j].1
theorem fine_zero (R : List E) : Fine R 0 := ⟨fun j _ h => by omega, fun j i _ _ h => by omega⟩
theorem Fine.mono {R : List E} {k n : Nat} (h : Fine R n) (hk : k ≤ n) : Fine R k := ⟨fun j h1 h2 => h.ok j h1 (by omega), fun j i h1 h2 h3 => h.ne j i h1 h2 (by omega)⟩
theorem Fine.step {R : List E} {k : Nat} (h : Fine R k) (hk : k < R.length) (h1 : okE R[k] = true) (h2 : ∀ i (hi : i < R.length), i < k → R[i].1 ≠ R[k].1) : Fine R (k + 1) := by
  refine ⟨fun j hj hjk => ?_, fun j i hj hi hjk hij => ?_⟩
  · by_cases e : j = k
    · subst e; exact h1
    · exact h.ok j hj (by omega)
  · by_cases e : j = k
    · subst e; exact h2 i hi hij
    · exact h.ne j i hj hi (by omega) hij
theorem Fine.good {R : List E} {k : Nat} (h : Fine R k) (hk : k ≤ R.length) : Good (R.take k) := by
  unfold Good keys
  rw [List.Nodup, List.pairwise_iff_getElem]
  intro i j hi hj hij
  simp at hi hj
  simp only [List.getElem_map, List.getElem_take]
  exact h.ne j i (by omega) (by omega) (by omega) hij
theorem take_find {R : List E} {k : Nat} (hk : k < R.length) : find (R.take k).reverse R[k].1 = none ↔ ∀ i (hi : i < R.length), i < k → R[i].1 ≠ R[k].1 := by
  rw [find_none]
  constructor
  · intro h i hi hik
    exact h R[i] (List.mem_reverse.2 (List.mem_take_iff_getElem.2 ⟨i, by omega, rfl⟩))
  · intro h e he
    obtain ⟨i, hi, rfl⟩ := List.mem_take_iff_getElem.1 (List.mem_reverse.1 he)
    exact h i (by omega) (by omega)
/-- one row more is put in front -/
theorem put_take {room : Int} {R : List E} {k : Nat} (hk : k < R.length) (hr : ((k : Int) + 1) ≤ room) (hn : find (R.take k).reverse R[k].1 = none) : (put room (R.take k).reverse R[k].1 R[k].2).1 = (R.take (k + 1)).reverse := by
  have h1 : front (R.take k).reverse R[k].1 R[k].2 = (R.take (k + 1)).reverse := by
    unfold front
    rw [without_none (find_none.1 hn), List.take_add_one, List.getElem?_eq_getElem hk, List.reverse_append]
    rfl
  unfold put fit
  rw [h1, if_pos]
  simp
  omega
end Hy
