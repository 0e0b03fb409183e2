/-
  Plain lemmas for layer 4 (prop): pieces between marks, platforms, their canonical form, matching. No program is named here.
-/
import Derived.Test.YtmfnfjcoaijjdaaDoorTextMath
import Derived.Lib.Bytealg
namespace Pr
set_option linter.unusedVariables false
set_option linter.unusedSimpArgs false
open Go Go.Op

abbrev B := List UInt8
abbrev Pair := B × B

/-! ### pieces -/
/-- what stands between the marks c -/
def pieces (c : UInt8) : B → List B
  | [] => [[]]
  | x :: r => if x = c then [] :: pieces c r else (x :: (pieces c r).headD []) :: (pieces c r).tail
theorem pieces_ne (c : UInt8) (x : B) : pieces c x ≠ [] := by
  cases x with
  | nil => simp [pieces]
  | cons a r => unfold pieces; split <;> simp
theorem pieces_none (c : UInt8) : ∀ x : B, c ∉ x → pieces c x = [x]
  | [], _ => rfl
  | a :: r, h => by
    have h1 : a ≠ c := fun e => h (by simp [e])
    have h2 : c ∉ r := fun e => h (by simp [e])
    simp [pieces, h1, pieces_none c r h2]
theorem pieces_hit (c : UInt8) : ∀ (a r : B), c ∉ a → pieces c (a ++ c :: r) = a :: pieces c r
  | [], r, _ => by simp [pieces]
  | x :: a, r, h => by
    have h1 : x ≠ c := fun e => h (by simp [e])
    have h2 : c ∉ a := fun e => h (by simp [e])
    simp [pieces, h1, pieces_hit c a r h2]
theorem pieces_length (c : UInt8) : ∀ x : B, (pieces c x).length = x.count c + 1
  | [] => rfl
  | a :: r => by
    have ih := pieces_length c r
    have hn := pieces_ne c r
    unfold pieces
    split
    · rename_i h; subst h; simp [ih]
    · rename_i h
      rw [List.length_cons, List.length_tail, ih, List.count_cons_of_ne h]
      omega
theorem first_of {c : UInt8} {x : B} (h : c ∈ x) : ∃ a r, x = a ++ c :: r ∧ c ∉ a := by
  induction x with
  | nil => simp at h
  | cons y r ih =>
    by_cases e : y = c
    · subst e; exact ⟨[], r, rfl, by simp⟩
    · have hr : c ∈ r := by
        rcases List.mem_cons.1 h with h | h
        · exact absurd h.symm e
        · exact h
      obtain ⟨a, t, rfl, ha⟩ := ih hr
      refine ⟨y :: a, t, rfl, fun hc => ?_⟩
      rcases List.mem_cons.1 hc with h | h
      · exact e h.symm
      · exact ha h
/-- put together again -/
def join (c : UInt8) : List B → B
  | [] => []
  | [p] => p
  | p :: q :: r => p ++ c :: join c (q :: r)
theorem join_cons (c : UInt8) (p : B) (l : List B) (h : l ≠ []) : join c (p :: l) = p ++ c :: join c l := by
  cases l with
  | nil => exact absurd rfl h
  | cons q r => rfl
theorem pieces_join (c : UInt8) : ∀ l : List B, l ≠ [] → (∀ p ∈ l, c ∉ p) → pieces c (join c l) = l
  | [], h, _ => absurd rfl h
  | [p], _, h => pieces_none c p (h p (by simp))
  | p :: q :: r, _, h => by
    show pieces c (p ++ c :: join c (q :: r)) = _
    rw [pieces_hit c p _ (h p (by simp)), pieces_join c (q :: r) (by simp) (fun x hx => h x (by simp at hx ⊢; exact Or.inr hx))]
theorem join_pieces (c : UInt8) (n : Nat) : ∀ (x : B), x.length ≤ n → join c (pieces c x) = x := by
  induction n with
  | zero =>
    intro x hx
    have : x = [] := List.eq_nil_of_length_eq_zero (by omega)
    subst this; rfl
  | succ n ih =>
    intro x hx
    by_cases h : c ∈ x
    · obtain ⟨a, r, rfl, ha⟩ := first_of h
      rw [pieces_hit c a r ha, join_cons c _ _ (pieces_ne c r), ih r (by simp at hx; omega)]
    · rw [pieces_none c x h]; rfl

theorem join_mem_len (c : UInt8) : ∀ (l : List B), ∀ p ∈ l, p.length ≤ (join c l).length
  | [], p, h => by simp at h
  | [q], p, h => by simp at h; subst h; exact Nat.le_refl _
  | q :: r :: t, p, h => by
    show _ ≤ (q ++ c :: join c (r :: t)).length
    rw [List.length_append, List.length_cons]
    rcases List.mem_cons.1 h with rfl | h
    · omega
    · have := join_mem_len c (r :: t) p h
      omega
theorem pieces_len (c : UInt8) (x : B) : ∀ p ∈ pieces c x, p.length ≤ x.length := by
  intro p hp
  have := join_mem_len c _ p hp
  rwa [join_pieces c x.length x (Nat.le_refl _)] at this

/-! ### a byte below 128 is a rune -/
theorem dec_ct (l : B) : ∀ k, 1 ≤ k → k < (Tx.dec l).2 → Tx.gb l k / 64 = 2 := by
  intro k h1 h2
  unfold Tx.dec at h2
  split at h2
  · simp at h2; omega
  · split at h2
    · rename_i d
      simp only [Bool.and_eq_true] at d
      split at h2
      · have : k = 1 := by simp at h2; omega
        subst this; exact (Tx.ct_spec d.2).2
      · simp at h2; omega
    · split at h2
      · rename_i d
        simp only [Bool.and_eq_true] at d
        split at h2
        · have : k = 1 ∨ k = 2 := by simp at h2; omega
          rcases this with rfl | rfl
          · exact (Tx.ct_spec d.1.2).2
          · exact (Tx.ct_spec d.2).2
        · simp at h2; omega
      · split at h2
        · rename_i d
          simp only [Bool.and_eq_true] at d
          split at h2
          · have : k = 1 ∨ k = 2 ∨ k = 3 := by simp at h2; omega
            rcases this with rfl | rfl | rfl
            · exact (Tx.ct_spec d.1.1.2).2
            · exact (Tx.ct_spec d.1.2).2
            · exact (Tx.ct_spec d.2).2
          · simp at h2; omega
        · simp at h2; omega
theorem ascii_rune : ∀ (l : B) (b : UInt8), b ∈ l → b.toNat < 128 → (b.toNat : Int) ∈ Tx.runesL l := by
  refine Tx.ind_runes (P := fun l => ∀ b : UInt8, b ∈ l → b.toNat < 128 → (b.toNat : Int) ∈ Tx.runesL l) (by simp) ?_
  intro l hl ih b hb hlt
  rw [Tx.runesL_step l hl]
  rw [← List.take_append_drop (Tx.dec l).2 l, List.mem_append] at hb
  rcases hb with hb | hb
  · obtain ⟨k, hk, e⟩ := List.getElem_of_mem hb
    rw [List.length_take] at hk
    have hg : Tx.gb l k = b.toNat := by
      rw [← e, List.getElem_take]
      exact (Tx.gb_getElem (by omega)).symm
    by_cases h0 : k = 0
    · subst h0
      have : (Tx.dec l).1 = b.toNat := by
        unfold Tx.dec
        rw [if_pos (by omega)]
        exact hg
      rw [this]; simp
    · have := dec_ct l k (by omega) (by omega)
      omega
  · exact List.mem_cons_of_mem _ (ih b hb hlt)
theorem name_no_byte {x : B} (h : Tx.nameL x = true) {b : UInt8} (hb : b.toNat < 128) (hk : Tx.nameR (b.toNat : Int) = false) : b ∉ x := by
  intro hm
  simp only [Tx.nameL, Bool.and_eq_true, List.all_eq_true] at h
  have := h.1.1 _ (ascii_rune x b hm hb)
  rw [hk] at this
  cases this
theorem name_short {x : B} (h : Tx.nameL x = true) : x.length ≤ 64 := by
  simp only [Tx.nameL, Bool.and_eq_true, decide_eq_true_eq] at h
  have := (Tx.runesL_length x).2
  omega

/-! ### platforms -/
/-- a property that is allowed -/
def okP (p : Pair) : Bool := Tx.nameL p.1 && (p.2 == [42] || Tx.nameL p.2)
theorem okP_key {p : Pair} (h : okP p = true) : Tx.nameL p.1 = true := by simp [okP] at h; exact h.1
theorem okP_val {p : Pair} (h : okP p = true) : p.2 = [42] ∨ Tx.nameL p.2 = true := by simp [okP] at h; exact h.2
theorem okP_no {p : Pair} (h : okP p = true) {b : UInt8} (hb : b = 44 ∨ b = 61) : b ∉ p.1 ∧ b ∉ p.2 := by
  have hx : ∀ x : B, Tx.nameL x = true → b ∉ x := fun x hx => by
    rcases hb with rfl | rfl
    · exact name_no_byte hx (by decide) (by decide)
    · exact name_no_byte hx (by decide) (by decide)
  refine ⟨hx _ (okP_key h), ?_⟩
  rcases okP_val h with e | e
  · rw [e]; rcases hb with rfl | rfl <;> decide
  · exact hx _ e
theorem okP_short {p : Pair} (h : okP p = true) : p.1.length ≤ 64 ∧ p.2.length ≤ 64 := by
  refine ⟨name_short (okP_key h), ?_⟩
  rcases okP_val h with e | e
  · rw [e]; simp
  · exact name_short e
/-- a property's text -/
def show1 (p : Pair) : B := p.1 ++ 61 :: p.2
/-- the property of a piece, or its error -/
def pairOf (x : B) : Int × Pair :=
  match pieces 61 x with
  | [k, v] => if okP (k, v) = true then (0, (k, v)) else (5, ([], []))
  | _ => (3, ([], []))
theorem pairOf_len {x : B} (h : (pieces 61 x).length ≠ 2) : pairOf x = (3, ([], [])) := by
  unfold pairOf
  split
  · rename_i k v e; rw [e] at h; exact absurd rfl h
  · rfl
theorem pairOf_of {x k v : B} (h : pieces 61 x = [k, v]) : pairOf x = if okP (k, v) = true then (0, (k, v)) else (5, ([], [])) := by
  unfold pairOf
  rw [h]
theorem pairOf_miss {x : B} (h : 61 ∉ x) : pairOf x = (3, ([], [])) := pairOf_len (by rw [pieces_none _ _ h]; simp)
theorem pairOf_more {a r : B} (ha : 61 ∉ a) (hr : 61 ∈ r) : pairOf (a ++ 61 :: r) = (3, ([], [])) := pairOf_len (by
  rw [pieces_hit _ _ _ ha, List.length_cons, pieces_length]
  have := List.count_pos_iff.2 hr
  omega)
theorem pairOf_one {a r : B} (ha : 61 ∉ a) (hr : 61 ∉ r) : pairOf (a ++ 61 :: r) = if okP (a, r) = true then (0, (a, r)) else (5, ([], [])) :=
  pairOf_of (by rw [pieces_hit _ _ _ ha, pieces_none _ _ hr])
theorem pairOf_show {p : Pair} (h : okP p = true) : pairOf (show1 p) = (0, p) := by
  unfold show1
  rw [pairOf_one (okP_no h (Or.inr rfl)).1 (okP_no h (Or.inr rfl)).2, if_pos h]
theorem pairOf_ok {x : B} (h : (pairOf x).1 = 0) : okP (pairOf x).2 = true ∧ show1 (pairOf x).2 = x := by
  have hj := join_pieces 61 x.length x (Nat.le_refl _)
  unfold pairOf at h ⊢
  split at h
  · rename_i k v e
    rw [e] at hj
    split at h
    · rename_i hk
      rw [if_pos hk]
      exact ⟨hk, hj⟩
    · simp at h
  · simp at h
theorem pairOf_err (x : B) : (pairOf x).1 = 0 ∨ (pairOf x).1 = 3 ∨ (pairOf x).1 = 5 := by
  unfold pairOf
  split
  · split <;> simp
  · simp
def hasKey (l : List Pair) (k : B) : Bool := l.any (fun p => p.1 == k)
theorem hasKey_iff (l : List Pair) (k : B) : hasKey l k = true ↔ k ∈ l.map (·.1) := by
  simp [hasKey]
theorem hasKey_no (l : List Pair) (k : B) : hasKey l k = false ↔ k ∉ l.map (·.1) := by
  rw [← hasKey_iff]; simp
def stepAll : List B → List Pair → Int × List Pair
  | [], acc => (0, acc)
  | x :: r, acc => if (pairOf x).1 ≠ 0 then ((pairOf x).1, []) else if hasKey acc (pairOf x).2.1 = true then (8, []) else stepAll r (acc ++ [(pairOf x).2])
theorem stepAll_bad {x : B} {r : List B} {acc : List Pair} (h : (pairOf x).1 ≠ 0) : stepAll (x :: r) acc = ((pairOf x).1, []) := by unfold stepAll; rw [if_pos h]
theorem stepAll_there {x : B} {r : List B} {acc : List Pair} (h : (pairOf x).1 = 0) (h2 : hasKey acc (pairOf x).2.1 = true) : stepAll (x :: r) acc = (8, []) := by unfold stepAll; rw [if_neg (by simp [h]), if_pos h2]
theorem stepAll_good {x : B} {r : List B} {acc : List Pair} (h : (pairOf x).1 = 0) (h2 : hasKey acc (pairOf x).2.1 = false) : stepAll (x :: r) acc = stepAll r (acc ++ [(pairOf x).2]) := by
  conv => lhs; unfold stepAll
  rw [if_neg (by simp [h]), if_neg (by simp [h2])]
/-- the pairs of a text, or why it is no platform -/
def parse (x : B) : Int × List Pair := if x = [] then (0, []) else if 6 < (pieces 44 x).length then (9, []) else stepAll (pieces 44 x) []
theorem parse_nil : parse [] = (0, []) := rfl
theorem parse_many {x : B} (h : x ≠ []) (h2 : 6 < (pieces 44 x).length) : parse x = (9, []) := by unfold parse; rw [if_neg h, if_pos h2]
theorem parse_step {x : B} (h : x ≠ []) (h2 : (pieces 44 x).length ≤ 6) : parse x = stepAll (pieces 44 x) [] := by unfold parse; rw [if_neg h, if_neg (by omega)]

theorem stepAll_err : ∀ (ps : List B) (acc : List Pair), (stepAll ps acc).1 ≠ 0 → (stepAll ps acc).2 = []
  | [], acc, h => absurd rfl h
  | x :: r, acc, h => by
    by_cases h1 : (pairOf x).1 ≠ 0
    · rw [stepAll_bad h1]
    · have h1' : (pairOf x).1 = 0 := by simpa using h1
      cases h2 : hasKey acc (pairOf x).2.1 with
      | true => rw [stepAll_there h1' h2]
      | false => rw [stepAll_good h1' h2] at h ⊢; exact stepAll_err r _ h
theorem parse_err {x : B} (h : (parse x).1 ≠ 0) : (parse x).2 = [] := by
  unfold parse at h ⊢
  split
  · rfl
  · rename_i h1
    rw [if_neg h1] at h
    split
    · rfl
    · rename_i h2
      rw [if_neg h2] at h
      exact stepAll_err _ _ h
theorem stepAll_range : ∀ (ps : List B) (acc : List Pair), 0 ≤ (stepAll ps acc).1 ∧ (stepAll ps acc).1 ≤ 9
  | [], acc => by simp [stepAll]
  | x :: r, acc => by
    by_cases h1 : (pairOf x).1 ≠ 0
    · rw [stepAll_bad h1]; have := pairOf_err x; simp only; omega
    · have h1' : (pairOf x).1 = 0 := by simpa using h1
      cases h2 : hasKey acc (pairOf x).2.1 with
      | true => rw [stepAll_there h1' h2]; simp
      | false => rw [stepAll_good h1' h2]; exact stepAll_range r _
theorem parse_range (x : B) : 0 ≤ (parse x).1 ∧ (parse x).1 ≤ 9 := by
  unfold parse
  split
  · simp
  · split
    · simp
    · exact stepAll_range _ _

/-- pairs that a platform may have -/
structure Good (l : List Pair) : Prop where
  len : l.length ≤ 6
  ok : ∀ p ∈ l, okP p = true
  nd : (l.map (·.1)).Nodup

theorem stepAll_good_all : ∀ (ps : List B) (acc l : List Pair), stepAll ps acc = (0, l) → (acc.map (·.1)).Nodup → (l.map (·.1)).Nodup ∧ ∃ t, l = acc ++ t ∧ t.map show1 = ps ∧ ∀ p ∈ t, okP p = true
  | [], acc, l, h, hn => by
    simp [stepAll] at h
    subst h
    exact ⟨hn, [], by simp, rfl, by simp⟩
  | x :: r, acc, l, h, hn => by
    by_cases h1 : (pairOf x).1 ≠ 0
    · rw [stepAll_bad h1] at h; simp at h; exact absurd h.1 h1
    · have h1' : (pairOf x).1 = 0 := by simpa using h1
      cases h2 : hasKey acc (pairOf x).2.1 with
      | true => rw [stepAll_there h1' h2] at h; simp at h
      | false =>
        rw [stepAll_good h1' h2] at h
        have hk := (hasKey_no _ _).1 h2
        obtain ⟨q1, t, q2, q3, q4⟩ := stepAll_good_all r _ l h (by
          rw [List.map_append, List.nodup_append]
          refine ⟨hn, by simp, ?_⟩
          intro a ha b hb e
          simp at hb
          subst hb; subst e
          exact hk ha)
        have ho := pairOf_ok h1'
        refine ⟨q1, (pairOf x).2 :: t, by rw [q2]; simp, by simp [q3, ho.2], ?_⟩
        intro p hp
        rcases List.mem_cons.1 hp with rfl | hp
        · exact ho.1
        · exact q4 p hp
def showL (l : List Pair) : B := join 44 (l.map show1)
theorem parse_good {x : B} {l : List Pair} (h : parse x = (0, l)) : Good l ∧ showL l = x := by
  unfold parse at h
  split at h
  · rename_i e
    simp at h; subst h
    exact ⟨⟨by simp, by simp, by simp⟩, by rw [e]; rfl⟩
  · split at h
    · simp at h
    · rename_i h1 h2
      obtain ⟨q1, t, q2, q3, q4⟩ := stepAll_good_all _ _ l h (by simp)
      rw [List.nil_append] at q2
      subst q2
      refine ⟨⟨?_, q4, q1⟩, ?_⟩
      · have := congrArg List.length q3
        rw [List.length_map] at this
        omega
      · unfold showL
        rw [q3]
        exact join_pieces 44 _ x (Nat.le_refl _)
theorem stepAll_back : ∀ (t acc : List Pair), (∀ p ∈ t, okP p = true) → ((acc ++ t).map (·.1)).Nodup → stepAll (t.map show1) acc = (0, acc ++ t)
  | [], acc, _, _ => by simp [stepAll]
  | p :: t, acc, h, hn => by
    have hp := pairOf_show (h p (by simp))
    have hk : hasKey acc (pairOf (show1 p)).2.1 = false := by
      rw [hasKey_no, hp]
      intro hm
      rw [List.map_append, List.nodup_append] at hn
      exact hn.2.2 _ hm p.1 (by simp) rfl
    rw [List.map_cons, stepAll_good (by rw [hp]) hk, hp]
    have := stepAll_back t (acc ++ [p]) (fun q hq => h q (by simp [hq])) (by simpa using hn)
    rw [this]; simp
theorem show1_ne (p : Pair) : show1 p ≠ [] := by simp [show1]
theorem showL_ne {l : List Pair} (h : l ≠ []) : showL l ≠ [] := by
  unfold showL
  match l, h with
  | [p], _ => exact show1_ne p
  | p :: q :: r, _ => simp [join, show1]
theorem pieces_show {l : List Pair} (h : ∀ p ∈ l, okP p = true) (hl : l ≠ []) : pieces 44 (showL l) = l.map show1 := by
  unfold showL
  refine pieces_join 44 _ (by simpa using hl) ?_
  intro q hq
  obtain ⟨p, hp, rfl⟩ := List.mem_map.1 hq
  have := okP_no (h p hp) (b := 44) (Or.inl rfl)
  simp [show1, this.1, this.2]
theorem good_parse {l : List Pair} (h : Good l) : parse (showL l) = (0, l) := by
  by_cases hl : l = []
  · subst hl; rfl
  · have hp := pieces_show h.ok hl
    rw [parse_step (showL_ne hl) (by rw [hp, List.length_map]; exact h.len), hp]
    have := stepAll_back l [] h.ok (by simpa using h.nd)
    simpa using this
/-! ### showing -/
/-- the rest of the text, from the pair number k on -/
def showGo : Bool → List Pair → B
  | _, [] => []
  | first, p :: r => (if first then [] else [44]) ++ (p.1 ++ ([61] ++ (p.2 ++ showGo false r)))
theorem showGo_false : ∀ (l : List Pair), l ≠ [] → showGo false l = 44 :: showL l
  | [], h => absurd rfl h
  | [p], _ => by simp [showGo, showL, join, show1]
  | p :: q :: r, _ => by
    have ih := showGo_false (q :: r) (by simp)
    show [44] ++ (p.1 ++ ([61] ++ (p.2 ++ showGo false (q :: r)))) = _
    rw [ih]
    simp [showL, join, show1]
theorem showGo_true (l : List Pair) : showGo true l = showL l := by
  match l with
  | [] => rfl
  | [p] => simp [showGo, showL, join, show1]
  | p :: q :: r =>
    show [] ++ (p.1 ++ ([61] ++ (p.2 ++ showGo false (q :: r)))) = _
    rw [showGo_false (q :: r) (by simp)]
    simp [showL, join, show1]
theorem showGo_at (l : List Pair) (k : Nat) (h : k < l.length) : showGo (decide (k = 0)) (l.drop k) = (if k = 0 then [] else [44]) ++ (l[k].1 ++ ([61] ++ (l[k].2 ++ showGo (decide (k + 1 = 0)) (l.drop (k + 1))))) := by
  rw [List.drop_eq_getElem_cons h]
  have : decide (k + 1 = 0) = false := by simp
  rw [this]
  simp only [showGo]
  by_cases e : k = 0 <;> simp [e]
theorem showGo_len : ∀ (l : List Pair) (f : Bool), (∀ p ∈ l, okP p = true) → (showGo f l).length ≤ 130 * l.length
  | [], _, _ => by simp [showGo]
  | p :: r, f, h => by
    have ih := showGo_len r false (fun q hq => h q (by simp [hq]))
    have h1 := okP_short (h p (by simp))
    simp only [showGo, List.length_append, List.length_cons, List.length_nil]
    have : (if f = true then ([] : B) else [44]).length ≤ 1 := by split <;> simp
    omega

/-! ### order -/
theorem bl_irrefl : ∀ a : B, bytesLess a a = false
  | [] => rfl
  | x :: a => by simp [bytesLess, bl_irrefl a, UInt8.lt_irrefl]
theorem bl_trans : ∀ a b c : B, bytesLess a b = true → bytesLess b c = true → bytesLess a c = true
  | a, b, [], _, h => by cases b <;> simp [bytesLess] at h
  | [], b, z :: c, _, _ => rfl
  | x :: a, [], z :: c, h, _ => by simp [bytesLess] at h
  | x :: a, y :: b, z :: c, h1, h2 => by
    simp only [bytesLess, Bool.or_eq_true, Bool.and_eq_true, decide_eq_true_eq, beq_iff_eq] at h1 h2 ⊢
    rcases h1 with h1 | ⟨rfl, h1⟩
    · rcases h2 with h2 | ⟨rfl, h2⟩
      · exact Or.inl (UInt8.lt_trans h1 h2)
      · exact Or.inl h1
    · rcases h2 with h2 | ⟨rfl, h2⟩
      · exact Or.inl h2
      · exact Or.inr ⟨rfl, bl_trans a b c h1 h2⟩
theorem bl_total : ∀ a b : B, bytesLess a b = false → bytesLess b a = false → a = b
  | [], [], _, _ => rfl
  | [], y :: b, h, _ => by simp [bytesLess] at h
  | x :: a, [], _, h => by simp [bytesLess] at h
  | x :: a, y :: b, h1, h2 => by
    simp only [bytesLess, Bool.or_eq_false_iff, Bool.and_eq_false_iff, decide_eq_false_iff_not, beq_eq_false_iff_ne] at h1 h2
    have e : x = y := UInt8.le_antisymm (UInt8.not_lt.1 h2.1) (UInt8.not_lt.1 h1.1)
    subst e
    have r1 := h1.2.resolve_left (fun h => h rfl)
    have r2 := h2.2.resolve_left (fun h => h rfl)
    rw [bl_total a b r1 r2]
theorem cmp_less : ∀ a b : B, decide (Lib.compareBytes a b < 0) = bytesLess a b
  | [], [] => by simp [Lib.compareBytes, bytesLess]
  | [], y :: b => by simp [Lib.compareBytes, bytesLess]
  | x :: a, [] => by simp [Lib.compareBytes, bytesLess]
  | x :: a, y :: b => by
    unfold Lib.compareBytes bytesLess
    by_cases h1 : x < y
    · simp [h1]
    · by_cases h2 : y < x
      · have hne : (x == y) = false := by
          rw [beq_eq_false_iff_ne]; intro e; subst e; exact UInt8.lt_irrefl _ h2
        simp [h1, h2, hne]
      · have e : x = y := UInt8.le_antisymm (UInt8.not_lt.1 h2) (UInt8.not_lt.1 h1)
        subst e
        simp only [h1, if_false, decide_false, Bool.false_or, beq_self_eq_true, Bool.true_and]
        exact cmp_less a b
/-- by rising keys -/
def Up (a b : Pair) : Prop := bytesLess a.1 b.1 = true
theorem up_asymm {a b : Pair} (h1 : Up a b) (h2 : Up b a) : False := by
  have := bl_trans _ _ _ h1 h2
  rw [bl_irrefl] at this; cases this
theorem sorted_unique : ∀ (l l' : List Pair), l.Perm l' → l.Pairwise Up → l'.Pairwise Up → l = l'
  | [], l', hp, _, _ => (List.Perm.nil_eq hp)
  | a :: r, [], hp, _, _ => by have := hp.length_eq; simp at this
  | a :: r, b :: r', hp, h1, h2 => by
    rw [List.pairwise_cons] at h1 h2
    have hab : a = b := by
      have ha : a ∈ b :: r' := hp.subset (by simp)
      have hb : b ∈ a :: r := hp.symm.subset (by simp)
      rcases List.mem_cons.1 ha with e | ha
      · exact e
      · rcases List.mem_cons.1 hb with e | hb
        · exact e.symm
        · exact (up_asymm (h2.1 a ha) (h1.1 b hb)).elim
    subst hab
    rw [sorted_unique r r' (List.Perm.cons_inv hp) h1.2 h2.2]
def ins (p : Pair) : List Pair → List Pair
  | [] => [p]
  | q :: r => if bytesLess q.1 p.1 = true then q :: ins p r else p :: q :: r
def sortL (l : List Pair) : List Pair := l.foldr ins []
theorem ins_perm (p : Pair) : ∀ l, (ins p l).Perm (p :: l)
  | [] => List.Perm.refl _
  | q :: r => by
    unfold ins
    split
    · exact ((ins_perm p r).cons q).trans (List.Perm.swap p q r)
    · exact List.Perm.refl _
theorem sortL_perm : ∀ l, (sortL l).Perm l
  | [] => List.Perm.refl _
  | p :: r => (ins_perm p (sortL r)).trans ((sortL_perm r).cons p)
theorem ins_up (p : Pair) : ∀ l : List Pair, l.Pairwise Up → p.1 ∉ l.map (·.1) → (ins p l).Pairwise Up
  | [], _, _ => by simp [ins]
  | q :: r, h, hk => by
    have h' := List.pairwise_cons.1 h
    have hne : q.1 ≠ p.1 := fun e => hk (by simp [e])
    have hkr : p.1 ∉ r.map (·.1) := fun e => hk (by simp at e ⊢; exact Or.inr e)
    unfold ins
    split
    · rename_i hlt
      rw [List.pairwise_cons]
      refine ⟨fun x hx => ?_, ins_up p r h'.2 hkr⟩
      have := (ins_perm p r).subset hx
      rcases List.mem_cons.1 this with rfl | hx
      · exact hlt
      · exact h'.1 x hx
    · rename_i hlt
      have hpq : Up p q := by
        show bytesLess p.1 q.1 = true
        cases e : bytesLess p.1 q.1 with
        | true => rfl
        | false => exact absurd (bl_total _ _ e (by simpa using hlt)).symm hne
      rw [List.pairwise_cons]
      refine ⟨fun x hx => ?_, h⟩
      rcases List.mem_cons.1 hx with rfl | hx
      · exact hpq
      · exact bl_trans _ _ _ hpq (h'.1 x hx)
theorem sortL_up : ∀ l : List Pair, (l.map (·.1)).Nodup → (sortL l).Pairwise Up
  | [], _ => List.Pairwise.nil
  | p :: r, h => by
    rw [List.map_cons, List.nodup_cons] at h
    refine ins_up p (sortL r) (sortL_up r h.2) ?_
    intro hm
    exact h.1 (((sortL_perm r).map (·.1)).subset hm)
/-- rising pairs that are the same but for their order are sortL -/
theorem sortL_is {l l' : List Pair} (hn : (l.map (·.1)).Nodup) (hp : l'.Perm l) (hu : l'.Pairwise Up) : l' = sortL l :=
  sorted_unique l' (sortL l) (hp.trans (sortL_perm l).symm) hu (sortL_up l hn)
theorem perm_nd {l l' : List Pair} (hp : l'.Perm l) (hn : (l.map (·.1)).Nodup) : (l'.map (·.1)).Nodup := (hp.map (·.1)).symm.nodup hn
theorem sortL_perm_eq {l l' : List Pair} (hn : (l.map (·.1)).Nodup) (hp : l'.Perm l) : sortL l' = sortL l :=
  sortL_is hn ((sortL_perm l').trans hp) (sortL_up l' (perm_nd hp hn))
theorem Good.perm {l l' : List Pair} (h : Good l) (hp : l'.Perm l) : Good l' := ⟨by rw [hp.length_eq]; exact h.len, fun p hx => h.ok p (hp.subset hx), perm_nd hp h.nd⟩
theorem Good.tail {p : Pair} {l : List Pair} (h : Good (p :: l)) : Good l :=
  ⟨by have := h.len; simp at this; omega, fun q hq => h.ok q (by simp [hq]), by have := h.nd; rw [List.map_cons, List.nodup_cons] at this; exact this.2⟩
theorem Good.sort {l : List Pair} (h : Good l) : Good (sortL l) := h.perm (sortL_perm l)
theorem erase_perm : ∀ (l : List Pair) (k : Nat) (h : k < l.length), (l[k] :: l.eraseIdx k).Perm l
  | a :: r, 0, _ => List.Perm.refl _
  | a :: r, k + 1, h => by
    have h' : k < r.length := by simp at h; omega
    show (r[k] :: a :: r.eraseIdx k).Perm (a :: r)
    exact (List.Perm.swap a r[k] _).trans ((erase_perm r k h').cons a)
/-- the least key first -/
theorem sortL_least {l : List Pair} (hn : (l.map (·.1)).Nodup) (k : Nat) (hk : k < l.length) (h : ∀ j (hj : j < l.length), bytesLess l[j].1 l[k].1 = false) : sortL l = l[k] :: sortL (l.eraseIdx k) := by
  have hp : (l[k] :: l.eraseIdx k).Perm l := erase_perm l k hk
  have hne : ((l.eraseIdx k).map (·.1)).Nodup := (perm_nd hp hn |> fun h => by rw [List.map_cons, List.nodup_cons] at h; exact h.2)
  have hkn : l[k].1 ∉ (l.eraseIdx k).map (·.1) := (perm_nd hp hn |> fun h => by rw [List.map_cons, List.nodup_cons] at h; exact h.1)
  symm
  refine sortL_is hn (((sortL_perm _).cons _).trans hp) ?_
  rw [List.pairwise_cons]
  refine ⟨fun x hx => ?_, sortL_up _ hne⟩
  have hx1 := (sortL_perm _).subset hx
  have hx2 : x ∈ l := hp.subset (by simp [hx1])
  obtain ⟨j, hj, rfl⟩ := List.getElem_of_mem hx2
  show bytesLess l[k].1 l[j].1 = true
  cases e : bytesLess l[k].1 l[j].1 with
  | true => rfl
  | false =>
    have := bl_total _ _ e (h j hj)
    exact absurd (List.mem_map.2 ⟨_, hx1, this.symm⟩) hkn

theorem Good.erase {l : List Pair} (h : Good l) (k : Nat) (hk : k < l.length) : Good (l.eraseIdx k) := Good.tail (h.perm (erase_perm l k hk))

/-- the canonical form -/
def canonE (x : B) : Int := (parse x).1
def canonV (x : B) : B := if (parse x).1 = 0 then showL (sortL (parse x).2) else []

/-! ### matching -/
def findK (l : List Pair) (k : B) : Option B := (l.find? (fun p => p.1 == k)).map (·.2)
theorem findK_nil (k : B) : findK [] k = none := rfl
theorem findK_cons (p : Pair) (l : List Pair) (k : B) : findK (p :: l) k = if p.1 = k then some p.2 else findK l k := by
  unfold findK
  rw [List.find?_cons]
  by_cases h : p.1 = k
  · simp [h]
  · have h2 : (p.1 == k) = false := by simpa using h
    rw [h2, if_neg h]
theorem findK_none (l : List Pair) (k : B) : findK l k = none ↔ k ∉ l.map (·.1) := by
  simp only [findK, Option.map_eq_none_iff, List.find?_eq_none, List.mem_map, not_exists, not_and]
  constructor
  · intro h x hx e; exact h x hx (by simp [e])
  · intro h x hx e; exact h x hx (by simpa using e)
theorem findK_has (l : List Pair) (k : B) : (findK l k).isSome = hasKey l k := by
  rw [Bool.eq_iff_iff, hasKey_iff, Option.isSome_iff_ne_none, ne_eq, findK_none]
  simp
theorem findK_mem {l : List Pair} (hn : (l.map (·.1)).Nodup) {k v : B} : findK l k = some v ↔ (k, v) ∈ l := by
  induction l with
  | nil => simp [findK]
  | cons p r ih =>
    rw [List.map_cons, List.nodup_cons] at hn
    rw [findK_cons]
    split
    · rename_i e
      constructor
      · intro h; simp at h; subst h; subst e; simp
      · intro h
        rcases List.mem_cons.1 h with h | h
        · rw [← h]
        · exact absurd (List.mem_map.2 ⟨_, h, rfl⟩) (by subst e; exact hn.1)
    · rename_i e
      rw [ih hn.2]
      constructor
      · intro h; simp [h]
      · intro h
        rcases List.mem_cons.1 h with h | h
        · exact absurd (by rw [← h]) e
        · exact h
theorem findK_perm {l l' : List Pair} (hn : (l.map (·.1)).Nodup) (hp : l'.Perm l) (k : B) : findK l' k = findK l k := by
  apply Option.ext
  intro v
  rw [findK_mem (perm_nd hp hn), findK_mem hn]
  exact ⟨fun h => hp.subset h, fun h => hp.symm.subset h⟩
def agree (a b : B) : Bool := a == b || a == [42] || b == [42]
def need1 (l : List Pair) (n : Pair) : Bool := match findK l n.1 with | none => false | some v => agree v n.2
theorem need1_none {l : List Pair} {n : Pair} (h : findK l n.1 = none) : need1 l n = false := by unfold need1; rw [h]
theorem need1_some {l : List Pair} {n : Pair} {v : B} (h : findK l n.1 = some v) : need1 l n = agree v n.2 := by unfold need1; rw [h]
def matchL (a b : List Pair) : Bool := b.all (need1 a)
def matchV (s t : B) : Bool := (parse s).1 == 0 && (parse t).1 == 0 && matchL (parse s).2 (parse t).2
theorem matchV_no1 {s t : B} (h : (parse s).1 ≠ 0) : matchV s t = false := by simp [matchV, h]
theorem matchV_no2 {s t : B} (h : (parse t).1 ≠ 0) : matchV s t = false := by simp [matchV, h]
theorem matchV_yes {s t : B} (h : (parse s).1 = 0) (h2 : (parse t).1 = 0) : matchV s t = matchL (parse s).2 (parse t).2 := by simp [matchV, h, h2]
theorem matchL_perm1 {a a' b : List Pair} (hn : (a.map (·.1)).Nodup) (hp : a'.Perm a) : matchL a' b = matchL a b := by
  unfold matchL
  congr 1
  funext n
  unfold need1
  rw [findK_perm hn hp]
theorem matchL_perm2 {a b b' : List Pair} (hp : b'.Perm b) : matchL a b' = matchL a b := by
  unfold matchL
  rw [Bool.eq_iff_iff, List.all_eq_true, List.all_eq_true]
  exact ⟨fun h x hx => h x (hp.symm.subset hx), fun h x hx => h x (hp.subset hx)⟩
theorem matchL_self {a : List Pair} (hn : (a.map (·.1)).Nodup) : matchL a a = true := by
  unfold matchL
  rw [List.all_eq_true]
  intro p hp
  rw [need1_some ((findK_mem hn).2 (show (p.1, p.2) ∈ a from hp))]
  simp [agree]
end Pr
