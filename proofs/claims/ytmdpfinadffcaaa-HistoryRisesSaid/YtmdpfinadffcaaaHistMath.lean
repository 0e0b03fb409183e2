/-
  Histograms of 16 counts, over no program: their sum, which are valid, one run time more; buckets.
-/
import Derived.Lib.BitFns
import Derived.Lib.ItoaNum
namespace Hi
open Go
set_option linter.unusedVariables false

/-- a histogram's cells -/
def cells (l : List Int) : Array Value := (l.map (Value.int .i64)).toArray
theorem cells_size (l : List Int) : (cells l).size = l.length := by simp [cells]
theorem cells_get {l : List Int} {k : Nat} (h : k < l.length) : (cells l)[k]? = some (.int .i64 (l.getD k 0)) := by
  simp [cells, List.getElem?_eq_getElem h, List.getD_eq_getElem?_getD]
theorem cells_set (l : List Int) (k : Nat) (v : Int) : (cells l).setIfInBounds k (.int .i64 v) = cells (l.set k v) := by
  simp [cells, List.map_set]
theorem cells_one (l : List Int) : (cells l).all (·.oneCell') = true := by
  simp [cells, Value.oneCell']
def zeros : List Int := [0, 0, 0, 0, 0, 0, 0, 0, 0, 0, 0, 0, 0, 0, 0, 0]

def tot : List Int → Int
  | [] => 0
  | x :: l => x + tot l
theorem tot_append (l m : List Int) : tot (l ++ m) = tot l + tot m := by
  induction l with
  | nil => simp [tot]
  | cons x l ih => simp only [List.cons_append, tot, ih]; omega
theorem tot_take {l : List Int} {k : Nat} (h : k < l.length) : tot (l.take (k + 1)) = tot (l.take k) + l.getD k 0 := by
  rw [List.take_add_one, List.getElem?_eq_getElem h, tot_append]
  simp [tot, List.getD_eq_getElem?_getD, List.getElem?_eq_getElem h]
theorem tot_set : ∀ (l : List Int) (k : Nat) (v : Int), k < l.length → tot (l.set k v) = tot l - l.getD k 0 + v
  | x :: l, 0, v, _ => by simp only [List.set_cons_zero, tot, List.getD_cons_zero]; omega
  | x :: l, k + 1, v, h => by
    have := tot_set l k v (by simpa using h)
    simp only [List.set_cons_succ, tot, List.getD_cons_succ]
    omega
/-- every count is from 0 to 64 -/
def small (l : List Int) : Prop := ∀ x ∈ l, 0 ≤ x ∧ x ≤ 64
instance (l : List Int) : Decidable (small l) := by unfold small; infer_instance
/-- no count is below 0 -/
def nonneg (l : List Int) : Prop := ∀ x ∈ l, 0 ≤ x
/-- it is valid -/
def ok (l : List Int) : Bool := decide (small l) && decide (tot l ≤ 64)
theorem small.getD {l : List Int} (h : small l) {k : Nat} (hk : k < l.length) : 0 ≤ l.getD k 0 ∧ l.getD k 0 ≤ 64 := by
  rw [List.getD_eq_getElem?_getD, List.getElem?_eq_getElem hk]
  exact h _ (List.getElem_mem hk)
theorem small_of {l : List Int} (h : ∀ k, k < l.length → 0 ≤ l.getD k 0 ∧ l.getD k 0 ≤ 64) : small l := by
  intro x hx
  obtain ⟨k, hk, rfl⟩ := List.mem_iff_getElem.1 hx
  have := h k hk
  rwa [List.getD_eq_getElem?_getD, List.getElem?_eq_getElem hk] at this
theorem ok_iff {l : List Int} : ok l = true ↔ small l ∧ tot l ≤ 64 := by simp [ok]
theorem ok_no {l : List Int} {k : Nat} (hk : k < l.length) (h : l.getD k 0 < 0 ∨ 64 < l.getD k 0) : ok l = false := by
  cases e : ok l with
  | false => rfl
  | true =>
    have := (ok_iff.1 e).1.getD hk
    omega
theorem ok_small {l : List Int} (h : small l) : ok l = decide (tot l ≤ 64) := by simp [ok, h]
theorem tot_nonneg {l : List Int} (h : nonneg l) : 0 ≤ tot l := by
  induction l with
  | nil => simp [tot]
  | cons x l ih =>
    have h1 := h x (by simp)
    have h2 := ih (fun y hy => h y (by simp [hy]))
    simp only [tot]
    omega
theorem le_tot {l : List Int} (h : nonneg l) {x : Int} (hx : x ∈ l) : x ≤ tot l := by
  induction l with
  | nil => cases hx
  | cons y l ih =>
    have h2 : nonneg l := fun y hy => h y (by simp [hy])
    have h3 := tot_nonneg h2
    simp only [tot]
    rcases List.mem_cons.1 hx with rfl | hx
    · omega
    · have := ih h2 hx
      have := h y (by simp)
      omega
theorem ok_of {l : List Int} (h : nonneg l) (ht : tot l ≤ 64) : ok l = true := ok_iff.2 ⟨fun x hx => ⟨h x hx, Int.le_trans (le_tot h hx) ht⟩, ht⟩
theorem small.nonneg {l : List Int} (h : small l) : nonneg l := fun x hx => (h x hx).1

/-- half of each count -/
def half (l : List Int) : List Int := l.map (· / 2)
theorem half_length (l : List Int) : (half l).length = l.length := by simp [half]
theorem half_get {l : List Int} {k : Nat} : (half l).getD k 0 = l.getD k 0 / 2 := by
  simp only [half, List.getD_eq_getElem?_getD, List.getElem?_map]
  cases l[k]? <;> simp
theorem half_nonneg {l : List Int} (h : nonneg l) : nonneg (half l) := by
  intro x hx
  obtain ⟨y, hy, rfl⟩ := List.mem_map.1 hx
  have := h y hy
  omega
theorem tot_half {l : List Int} : 2 * tot (half l) ≤ tot l := by
  induction l with
  | nil => simp [half, tot]
  | cons x l ih =>
    simp only [half, List.map_cons, tot] at ih ⊢
    omega
/-- one more in bucket k -/
def inc (l : List Int) (k : Nat) : List Int := l.set k (l.getD k 0 + 1)
theorem inc_length (l : List Int) (k : Nat) : (inc l k).length = l.length := by simp [inc]
theorem tot_inc {l : List Int} {k : Nat} (h : k < l.length) : tot (inc l k) = tot l + 1 := by
  unfold inc
  rw [tot_set _ _ _ h]
  omega
theorem inc_nonneg {l : List Int} {k : Nat} (h : nonneg l) (hk : k < l.length) : nonneg (inc l k) := by
  intro x hx
  rcases List.mem_or_eq_of_mem_set hx with hx | rfl
  · exact h x hx
  · have : l.getD k 0 ∈ l := by
      rw [List.getD_eq_getElem?_getD, List.getElem?_eq_getElem hk]
      exact List.getElem_mem hk
    have := h _ this
    omega
theorem inc_comm (l : List Int) (a b : Nat) : inc (inc l a) b = inc (inc l b) a := by
  by_cases h : a = b
  · subst h; rfl
  · unfold inc
    rw [List.set_comm _ _ h]
    simp only [List.getD_eq_getElem?_getD]
    rw [List.getElem?_set_ne h, List.getElem?_set_ne (Ne.symm h)]
/-- one run time more -/
def base (l : List Int) : List Int := if tot l = 64 then half l else l
def add (l : List Int) (k : Nat) : List Int := if ok l then inc (base l) k else zeros
theorem base_length (l : List Int) : (base l).length = l.length := by
  unfold base
  split
  · exact half_length l
  · rfl
theorem add_length {l : List Int} (h : l.length = 16) (k : Nat) : (add l k).length = 16 := by
  unfold add
  split
  · rw [inc_length, base_length, h]
  · rfl
theorem add_ok {l : List Int} (h : l.length = 16) (ho : ok l = true) {k : Nat} (hk : k < 16) : ok (add l k) = true ∧ 1 ≤ tot (add l k) := by
  obtain ⟨hs, ht⟩ := ok_iff.1 ho
  have hn := hs.nonneg
  have hb : nonneg (base l) ∧ tot (base l) ≤ 63 := by
    unfold base
    split
    · have := tot_half (l := l)
      exact ⟨half_nonneg hn, by omega⟩
    · exact ⟨hn, by omega⟩
  have h0 := tot_nonneg hb.1
  have hl : k < (base l).length := by rw [base_length]; omega
  have e : add l k = inc (base l) k := by unfold add; rw [if_pos ho]
  rw [e]
  have e2 := tot_inc hl
  exact ⟨ok_of (inc_nonneg hb.1 hl) (by omega), by omega⟩
theorem zeros_ok : ok zeros = true := by decide

/-- so many numbers in each bucket -/
def cnt : List Nat → List Int
  | [] => zeros
  | b :: r => inc (cnt r) b
theorem cnt_length : ∀ r : List Nat, (cnt r).length = 16
  | [] => rfl
  | b :: r => by rw [cnt, inc_length, cnt_length r]
theorem cnt_snoc (r : List Nat) (b : Nat) : cnt (r ++ [b]) = inc (cnt r) b := by
  induction r with
  | nil => rfl
  | cons x r ih => rw [List.cons_append, cnt, ih, cnt, inc_comm]
theorem cnt_nonneg : ∀ r : List Nat, (∀ b ∈ r, b < 16) → nonneg (cnt r)
  | [], _ => by unfold nonneg; decide
  | b :: r, h => inc_nonneg (cnt_nonneg r (fun x hx => h x (by simp [hx]))) (by rw [cnt_length]; exact h b (by simp))
theorem cnt_tot : ∀ r : List Nat, (∀ b ∈ r, b < 16) → tot (cnt r) = r.length
  | [], _ => by decide
  | b :: r, h => by
    have := cnt_tot r (fun x hx => h x (by simp [hx]))
    rw [cnt, tot_inc (by rw [cnt_length]; exact h b (by simp)), this]
    simp
theorem add_cnt {r : List Nat} (h : ∀ b ∈ r, b < 16) (hl : r.length < 64) (b : Nat) : add (cnt r) b = inc (cnt r) b := by
  have ht := cnt_tot r h
  have ho : ok (cnt r) = true := ok_of (cnt_nonneg r h) (by omega)
  unfold add base
  rw [if_pos ho, if_neg (by omega)]

/-- the bucket of a number -/
def bk (v : Nat) : Nat := min (Lib.bitLen v) 15
theorem bk_lt (v : Nat) : bk v < 16 := by unfold bk; omega
/-- the greatest number of a bucket -/
def high (b : Int) : Int := if b < 0 ∨ 15 < b then 0 else if b = 15 then 18446744073709551615 else 2 ^ b.toNat - 1
theorem high_lo {b : Int} (h : b < 0) : high b = 0 := by unfold high; rw [if_pos (Or.inl h)]
theorem high_hi {b : Int} (h : 15 < b) : high b = 0 := by unfold high; rw [if_pos (Or.inr h)]
theorem high_15 : high 15 = 18446744073709551615 := by unfold high; rw [if_neg (by omega), if_pos rfl]
theorem high_nat {b : Nat} (h : b < 15) : high (b : Int) = ((2 ^ b - 1 : Nat) : Int) := by
  unfold high
  rw [if_neg (by omega), if_neg (by omega), Int.toNat_natCast, Int.ofNat_sub (Nat.one_le_two_pow)]
  simp
theorem bits_lt (v : Nat) (h : v < 18446744073709551616) : v < 2 ^ Lib.bitLen v := by
  by_cases h0 : v = 0
  · subst h0; decide
  · exact (Lib.bitLenAux_bounds 64 v (by omega) h0).2.2
theorem bits_le (v : Nat) (h : v < 18446744073709551616) (h0 : Lib.bitLen v ≠ 0) : 2 ^ (Lib.bitLen v - 1) ≤ v := by
  by_cases e : v = 0
  · subst e; exact absurd (by decide) h0
  · exact (Lib.bitLenAux_bounds 64 v (by omega) e).2.1
theorem bits_gt {v b : Nat} (h : v < 18446744073709551616) (hb : 2 ^ b ≤ v) : b < Lib.bitLen v := by
  have := bits_lt v h
  rcases Nat.lt_or_ge b (Lib.bitLen v) with h' | h'
  · exact h'
  · have := Nat.pow_le_pow_right (n := 2) (by omega) h'
    omega
theorem le_high (v : Nat) (h : v < 18446744073709551616) : (v : Int) ≤ high (bk v : Nat) := by
  unfold bk
  by_cases e : Lib.bitLen v < 15
  · rw [Nat.min_eq_left (by omega), high_nat e]
    have := bits_lt v h
    omega
  · rw [Nat.min_eq_right (by omega)]
    rw [show ((15 : Nat) : Int) = 15 from rfl, high_15]
    omega
theorem high_lt (v : Nat) (h : v < 18446744073709551616) (h0 : bk v ≠ 0) : high ((bk v : Nat) - 1) < (v : Int) := by
  have e : Lib.bitLen v ≠ 0 := by unfold bk at h0; omega
  have h1 := bits_le v h e
  have hb : bk v ≤ Lib.bitLen v ∧ bk v ≤ 15 := by unfold bk; omega
  generalize bk v = k at *
  obtain ⟨j, rfl⟩ : ∃ j, k = j + 1 := ⟨k - 1, by omega⟩
  rw [show (((j + 1 : Nat) : Int) - 1) = (j : Int) by omega, high_nat (by omega)]
  have := Nat.pow_le_pow_right (n := 2) (i := j) (j := Lib.bitLen v - 1) (by omega) (by omega)
  have := Nat.one_le_two_pow (n := j)
  omega
theorem bk_stop {v b : Nat} (h : v < 18446744073709551616) (hb : b ≤ Lib.bitLen v) (h15 : b ≤ 15) (hs : v / 2 ^ b = 0 ∨ b = 15) : bk v = b := by
  unfold bk
  rcases hs with hs | rfl
  · have : v < 2 ^ b := by
      have := Nat.two_pow_pos b
      rcases Nat.lt_or_ge v (2 ^ b) with h' | h'
      · exact h'
      · have := Nat.div_pos h' this
        omega
    have h2 : Lib.bitLen v ≤ b := by
      rcases Nat.lt_or_ge b (Lib.bitLen v) with h' | h'
      · have := bits_le v h (by omega)
        have := Nat.pow_le_pow_right (n := 2) (i := b) (j := Lib.bitLen v - 1) (by omega) (by omega)
        omega
      · exact h'
    omega
  · omega
theorem bk_step {v b : Nat} (h : v < 18446744073709551616) (hs : v / 2 ^ b ≠ 0) : b + 1 ≤ Lib.bitLen v := by
  refine bits_gt h ?_
  rcases Nat.lt_or_ge v (2 ^ b) with h' | h'
  · exact absurd (Nat.div_eq_of_lt h') hs
  · exact h'
end Hi
