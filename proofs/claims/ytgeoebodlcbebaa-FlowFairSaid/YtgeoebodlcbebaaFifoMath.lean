/-
  A queue as a list of items: find, drop, cost; rings over keys.
-/
import Derived.Test.YtgeoebodlcbebaaBase
namespace Ff
theorem inj_of_nd {α β : Type} {f : α → β} {l : List α} (h : (l.map f).Nodup) {a b : α} (ha : a ∈ l) (hb : b ∈ l) (e : f a = f b) : a = b := by
  induction l with
  | nil => cases ha
  | cons x r ih =>
    rw [List.map_cons, List.nodup_cons] at h
    rcases List.mem_cons.1 ha with h1 | h1
    · rcases List.mem_cons.1 hb with h2 | h2
      · rw [h1, h2]
      · subst h1; exact absurd (List.mem_map.2 ⟨b, h2, e.symm⟩) h.1
    · rcases List.mem_cons.1 hb with h2 | h2
      · subst h2; exact absurd (List.mem_map.2 ⟨a, h1, e⟩) h.1
      · exact ih h.2 h1 h2
/-- an item: its number, its cost -/
abbrev E := Int × Int
def has (l : List E) (id : Int) : Bool := l.any (fun e => e.1 == id)
def drop (l : List E) (id : Int) : List E := l.filter (fun e => e.1 != id)
def cost : List E → Int
  | [] => 0
  | e :: r => e.2 + cost r
theorem cost_append (a b : List E) : cost (a ++ b) = cost a + cost b := by
  induction a with
  | nil => simp [cost]
  | cons e r ih => simp only [List.cons_append, cost, ih]; omega
/-- numbers apart; each item may be pushed -/
structure Good (l : List E) : Prop where
  nd : (l.map (·.1)).Nodup
  id : ∀ e ∈ l, 1 ≤ e.1 ∧ e.1 ≤ 9223372036854775807
  co : ∀ e ∈ l, 1 ≤ e.2 ∧ e.2 ≤ 64
theorem good_nil : Good [] := ⟨by simp, by simp, by simp⟩
theorem has_no {l : List E} {id : Int} : has l id = false ↔ ∀ e ∈ l, e.1 ≠ id := by simp [has]
theorem has_yes {l : List E} {id : Int} (h : has l id = true) : ∃ a c b, l = a ++ (id, c) :: b ∧ ∀ e ∈ a, e.1 ≠ id := by
  induction l with
  | nil => simp [has] at h
  | cons e r ih =>
    by_cases h1 : e.1 = id
    · exact ⟨[], e.2, r, by rw [← h1]; rfl, by simp⟩
    · have h2 : has r id = true := by simpa [has, h1] using h
      obtain ⟨a, c, b, h3, h4⟩ := ih h2
      exact ⟨e :: a, c, b, by rw [h3]; rfl, fun x hx => by rcases List.mem_cons.1 hx with h5 | h5; rw [h5]; exact h1; exact h4 x h5⟩
theorem has_mid (a b : List E) (id c : Int) : has (a ++ (id, c) :: b) id = true := by simp [has]
theorem nd_mid {a b : List E} {e : E} (h : ((a ++ e :: b).map (·.1)).Nodup) : (∀ x ∈ a, x.1 ≠ e.1) ∧ ∀ x ∈ b, x.1 ≠ e.1 := by
  rw [List.map_append, List.map_cons, List.nodup_append] at h
  obtain ⟨_, h2, h3⟩ := h
  rw [List.nodup_cons] at h2
  exact ⟨fun x hx he => h3 x.1 (List.mem_map.2 ⟨x, hx, rfl⟩) e.1 List.mem_cons_self he, fun x hx he => h2.1 (List.mem_map.2 ⟨x, hx, he⟩)⟩
theorem drop_no {l : List E} {id : Int} (h : ∀ e ∈ l, e.1 ≠ id) : drop l id = l := by
  unfold drop
  exact List.filter_eq_self.2 (fun e he => by simpa using h e he)
theorem drop_mid {a b : List E} {e : E} (h : ((a ++ e :: b).map (·.1)).Nodup) : drop (a ++ e :: b) e.1 = a ++ b := by
  obtain ⟨h1, h2⟩ := nd_mid h
  have e1 : drop (a ++ e :: b) e.1 = drop a e.1 ++ drop b e.1 := by simp [drop]
  rw [e1, drop_no h1, drop_no h2]
theorem Good.sub {l m : List E} (h : Good m) (hs : l.Sublist m) : Good l := ⟨(hs.map _).nodup h.nd, fun e he => h.id e (hs.subset he), fun e he => h.co e (hs.subset he)⟩
theorem Good.drop {l : List E} (h : Good l) (id : Int) : Good (drop l id) := h.sub List.filter_sublist
theorem drop_length (l : List E) (id : Int) : (drop l id).length ≤ l.length := List.length_filter_le _ _
theorem Good.push {l : List E} (h : Good l) {id c : Int} (h1 : 1 ≤ id) (h2 : id ≤ 9223372036854775807) (h3 : 1 ≤ c) (h4 : c ≤ 64) (hn : ∀ e ∈ l, e.1 ≠ id) : Good (l ++ [(id, c)]) := by
  refine ⟨?_, fun e he => ?_, fun e he => ?_⟩
  · rw [List.map_append, List.nodup_append]
    refine ⟨h.nd, by simp, fun u hu v hv => ?_⟩
    obtain ⟨e, he, rfl⟩ := List.mem_map.1 hu
    simp at hv
    subst hv
    exact hn e he
  · rcases List.mem_append.1 he with h5 | h5
    · exact h.id e h5
    · obtain rfl : e = (id, c) := by simpa using h5
      exact ⟨h1, h2⟩
  · rcases List.mem_append.1 he with h5 | h5
    · exact h.co e h5
    · obtain rfl : e = (id, c) := by simpa using h5
      exact ⟨h3, h4⟩
theorem cost_bound : ∀ {l : List E}, (∀ e ∈ l, 1 ≤ e.2 ∧ e.2 ≤ 64) → 0 ≤ cost l ∧ cost l ≤ 64 * (l.length : Int)
  | [], _ => by simp [cost]
  | e :: r, h => by
    have h1 := h e (by simp)
    have h2 := cost_bound (l := r) (fun x hx => h x (by simp [hx]))
    simp only [cost, List.length_cons]
    omega
/-! ### rings -/
def upd (f : Int → Int) (x y : Int) : Int → Int := fun z => if z = x then y else f z
theorem upd_same (f : Int → Int) (x y : Int) : upd f x y x = y := by simp [upd]
theorem upd_other (f : Int → Int) {x z : Int} (y : Int) (h : z ≠ x) : upd f x y z = f z := by simp [upd, h]
/-- one behind the other -/
def Ch (aft bef : Int → Int) : List Int → Prop
  | a :: b :: t => aft a = b ∧ bef b = a ∧ Ch aft bef (b :: t)
  | _ => True
theorem Ch.congr {aft bef aft' bef' : Int → Int} : ∀ {l : List Int}, Ch aft bef l → (∀ x ∈ l.dropLast, aft' x = aft x) → (∀ x ∈ l.tail, bef' x = bef x) → Ch aft' bef' l
  | [], _, _, _ => trivial
  | [_], _, _, _ => trivial
  | a :: b :: t, h, h1, h2 => by
    obtain ⟨e1, e2, e3⟩ := h
    refine ⟨(h1 a (by simp)).trans e1, (h2 b (by simp)).trans e2, e3.congr (fun x hx => h1 x ?_) (fun x hx => h2 x ?_)⟩
    · rw [List.dropLast_cons_of_ne_nil (by simp)]; exact List.mem_cons_of_mem _ hx
    · simp at hx ⊢; exact Or.inr hx
theorem ch_app {aft bef : Int → Int} {x : Int} : ∀ {a b : List Int}, Ch aft bef (a ++ x :: b) ↔ Ch aft bef (a ++ [x]) ∧ Ch aft bef (x :: b)
  | [], b => by simp [Ch]
  | [y], b => by simp [Ch, and_assoc]
  | y :: z :: t, b => by
    have ih := ch_app (aft := aft) (bef := bef) (x := x) (a := z :: t) (b := b)
    simp only [List.cons_append, Ch] at ih ⊢
    rw [ih]
    simp [and_assoc]
theorem ch_two {aft bef : Int → Int} {x y : Int} {a b : List Int} : Ch aft bef (a ++ x :: y :: b) ↔ Ch aft bef (a ++ [x]) ∧ aft x = y ∧ bef y = x ∧ Ch aft bef (y :: b) := by
  rw [ch_app]
  simp [Ch]
/-- a ring: the root, then the links -/
structure Ring (aft bef : Int → Int) (r : Int) (xs : List Int) : Prop where
  ch : Ch aft bef (r :: (xs ++ [r]))
  nd : (r :: xs).Nodup
theorem last_split (r : Int) (a : List Int) : ∃ a' p, r :: a = a' ++ [p] := ⟨(r :: a).dropLast, (r :: a).getLast (by simp), (List.dropLast_concat_getLast _).symm⟩
theorem first_split (r : Int) (b : List Int) : ∃ q b', b ++ [r] = q :: b' := by
  cases b with
  | nil => exact ⟨r, [], rfl⟩
  | cons q t => exact ⟨q, t ++ [r], rfl⟩
theorem Ring.around {aft bef : Int → Int} {r x : Int} {a b : List Int} (h : Ring aft bef r (a ++ x :: b)) : ∃ a' b', r :: a = a' ++ [bef x] ∧ b ++ [r] = aft x :: b' ∧ Ch aft bef (a' ++ [bef x]) ∧ Ch aft bef (aft x :: b') := by
  obtain ⟨a', p, ha⟩ := last_split r a
  obtain ⟨q, b', hb⟩ := first_split r b
  have hc := h.ch
  have e : r :: ((a ++ x :: b) ++ [r]) = a' ++ p :: x :: q :: b' := by
    have : r :: ((a ++ x :: b) ++ [r]) = (r :: a) ++ x :: (b ++ [r]) := by simp
    rw [this, ha, hb]; simp
  rw [e, ch_two] at hc
  obtain ⟨c1, c2, c3, c4⟩ := hc
  simp only [Ch] at c4
  obtain ⟨c5, c6, c7⟩ := c4
  subst c3 c5
  exact ⟨a', b', ha, hb, c1, c7⟩
theorem Ring.cut {aft bef : Int → Int} {r x : Int} {a b : List Int} (h : Ring aft bef r (a ++ x :: b)) : Ring (upd aft (bef x) (aft x)) (upd bef (aft x) (bef x)) r (a ++ b) := by
  obtain ⟨a', b', ha, hb, c1, c2⟩ := h.around
  have hnd := h.nd
  have hnd2 : ((r :: a) ++ (x :: b)).Nodup := by simpa using hnd
  rw [List.nodup_append] at hnd2
  obtain ⟨n1, n2, n3⟩ := hnd2
  rw [List.nodup_cons] at n2
  have hp : bef x ∈ r :: a := by rw [ha]; simp
  have hq : aft x ∈ b ++ [r] := by rw [hb]; simp
  generalize bef x = p at *
  generalize aft x = q at *
  refine ⟨?_, ?_⟩
  · have e : r :: ((a ++ b) ++ [r]) = a' ++ p :: q :: b' := by
      have : r :: ((a ++ b) ++ [r]) = (r :: a) ++ (b ++ [r]) := by simp
      rw [this, ha, hb]; simp
    rw [e, ch_two]
    refine ⟨c1.congr (fun y hy => ?_) (fun y hy => ?_), upd_same _ _ _, upd_same _ _ _, c2.congr (fun y hy => ?_) (fun y hy => ?_)⟩
    · rw [List.dropLast_concat] at hy
      refine upd_other _ _ (fun e1 => ?_)
      subst e1
      rw [ha, List.nodup_append] at n1
      exact n1.2.2 y hy y (by simp) rfl
    · have ht : (a' ++ [p]).tail = a := by rw [← ha]; rfl
      rw [ht] at hy
      refine upd_other _ _ (fun e1 => ?_)
      subst e1
      rcases List.mem_append.1 hq with h1 | h1
      · exact n3 y (List.mem_cons_of_mem _ hy) y (List.mem_cons_of_mem _ h1) rfl
      · simp at h1; subst h1; exact (List.nodup_cons.1 n1).1 hy
    · have ht : (q :: b').dropLast = b := by rw [← hb, List.dropLast_concat]
      rw [ht] at hy
      refine upd_other _ _ (fun e1 => ?_)
      subst e1
      exact n3 y hp y (List.mem_cons_of_mem _ hy) rfl
    · refine upd_other _ _ (fun e1 => ?_)
      subst e1
      have hn : (b ++ [r]).Nodup := by
        rw [List.nodup_append]
        refine ⟨n2.2, by simp, fun u hu v hv => ?_⟩
        simp at hv; subst hv
        exact fun e => n3 v List.mem_cons_self u (List.mem_cons_of_mem _ hu) e.symm
      rw [hb, List.nodup_cons] at hn
      exact hn.1 hy
  · have : ((r :: a) ++ b).Nodup := by
      rw [List.nodup_append]
      exact ⟨n1, n2.2, fun u hu v hv => n3 u hu v (List.mem_cons_of_mem _ hv)⟩
    simpa using this
theorem Ring.lead {aft bef : Int → Int} {r x : Int} {xs : List Int} (h : Ring aft bef r xs) (hx : x ∉ r :: xs) : Ring (upd (upd aft x (aft r)) r x) (upd (upd bef x r) (aft r) x) r (x :: xs) := by
  obtain ⟨q, b', hb⟩ := first_split r xs
  have hc := h.ch
  rw [hb] at hc
  simp only [Ch] at hc
  obtain ⟨c1, c2, c3⟩ := hc
  obtain ⟨hxr, hxx⟩ : x ≠ r ∧ x ∉ xs := by simpa using hx
  have hq : q ∈ xs ++ [r] := by rw [hb]; simp
  have hqx : x ≠ q := fun e => by
    subst e
    rcases List.mem_append.1 hq with h1 | h1
    · exact hxx h1
    · simp at h1; exact hxr h1
  obtain ⟨hnr, hnx⟩ := List.nodup_cons.1 h.nd
  subst c1
  refine ⟨?_, ?_⟩
  · rw [List.cons_append, hb]
    simp only [Ch]
    refine ⟨upd_same _ _ _, ?_, ?_, upd_same _ _ _, c3.congr (fun y hy => ?_) (fun y hy => ?_)⟩
    · rw [upd_other _ _ hqx, upd_same]
    · rw [upd_other _ _ hxr, upd_same]
    · rw [← hb, List.dropLast_concat] at hy
      rw [upd_other _ _ (fun e => hnr (by rw [← e]; exact hy)), upd_other _ _ (fun e => hxx (by rw [← e]; exact hy))]
    · have hn : (xs ++ [r]).Nodup := by
        rw [List.nodup_append]
        refine ⟨hnx, by simp, fun u hu v hv => ?_⟩
        simp at hv; subst hv
        exact fun e => hnr (by rw [← e]; exact hu)
      have hyq : y ≠ aft r := fun e => by
        rw [hb, List.nodup_cons] at hn
        exact hn.1 (by rw [← e]; exact hy)
      have hyx : y ≠ x := fun e => by
        have h1 : y ∈ xs ++ [r] := by rw [hb]; exact List.mem_cons_of_mem _ hy
        rcases List.mem_append.1 h1 with h2 | h2
        · exact hxx (by rw [← e]; exact h2)
        · simp at h2; exact hxr (by rw [← e]; exact h2)
      rw [upd_other _ _ hyq, upd_other _ _ hyx]
  · rw [List.nodup_cons, List.nodup_cons]
    refine ⟨?_, hxx, hnx⟩
    simp only [List.mem_cons, not_or]
    exact ⟨fun e => hxr e.symm, hnr⟩
theorem Ring.aft_in {aft bef : Int → Int} {r x : Int} {a b : List Int} (h : Ring aft bef r (a ++ x :: b)) : aft x ∈ r :: (a ++ b) ∧ bef x ∈ r :: (a ++ b) ∧ aft x ≠ x ∧ bef x ≠ x := by
  obtain ⟨a', b', ha, hb, _, _⟩ := h.around
  have hp : bef x ∈ r :: a := by rw [ha]; simp
  have hq : aft x ∈ b ++ [r] := by rw [hb]; simp
  have hnd2 : ((r :: a) ++ (x :: b)).Nodup := by simpa using h.nd
  rw [List.nodup_append] at hnd2
  obtain ⟨n1, n2, n3⟩ := hnd2
  rw [List.nodup_cons] at n2
  refine ⟨?_, ?_, ?_, ?_⟩
  · rcases List.mem_append.1 hq with h1 | h1
    · simp [h1]
    · simp at h1; simp [h1]
  · rcases List.mem_cons.1 hp with h1 | h1
    · simp [h1]
    · simp [h1]
  · intro e
    rw [e] at hq
    rcases List.mem_append.1 hq with h1 | h1
    · exact n2.1 h1
    · simp at h1; exact n3 r List.mem_cons_self x List.mem_cons_self h1.symm
  · intro e
    rw [e] at hp
    exact n3 x hp x List.mem_cons_self rfl
theorem Ring.first {aft bef : Int → Int} {r : Int} {xs : List Int} (h : Ring aft bef r xs) : aft r = xs.headD r := by
  have hc := h.ch
  cases xs with
  | nil => simp only [List.nil_append, Ch] at hc; exact hc.1
  | cons y t => simp only [List.cons_append, Ch] at hc; exact hc.1
theorem Ring.next {aft bef : Int → Int} {r x : Int} {a b : List Int} (h : Ring aft bef r (a ++ x :: b)) : aft x = b.headD r := by
  obtain ⟨a', b', ha, hb, _, _⟩ := h.around
  cases b with
  | nil => simp at hb; exact hb.1.symm
  | cons y t => simp at hb; exact hb.1.symm
theorem Ring.last {aft bef : Int → Int} {r x : Int} {a : List Int} (h : Ring aft bef r (a ++ [x])) : bef r = x := by
  have hc := h.ch
  have e : r :: ((a ++ [x]) ++ [r]) = (r :: a) ++ x :: r :: [] := by simp
  rw [e, ch_two] at hc
  exact hc.2.2.1
theorem ring_new (r : Int) {aft bef : Int → Int} (h1 : aft r = r) (h2 : bef r = r) : Ring aft bef r [] := ⟨by simp [Ch, h1, h2], by simp⟩
theorem Ring.in_of {aft bef : Int → Int} {r : Int} {xs : List Int} (h : Ring aft bef r xs) : aft r ∈ r :: xs := by
  rw [h.first]
  cases xs with
  | nil => simp
  | cons y t => simp

/-- a key put behind the last -/
theorem Ring.push {aft bef : Int → Int} {r x : Int} {xs : List Int} (h : Ring aft bef r xs) (hx : x ∉ r :: xs) : Ring (upd (upd aft (bef r) x) x r) (upd (upd bef x (bef r)) r x) r (xs ++ [x]) := by
  obtain ⟨a', p, ha⟩ := last_split r xs
  have hc := h.ch
  have e1 : r :: (xs ++ [r]) = a' ++ p :: r :: [] := by
    have : r :: (xs ++ [r]) = (r :: xs) ++ [r] := rfl
    rw [this, ha]; simp
  rw [e1, ch_two] at hc
  obtain ⟨c1, c2, c3, _⟩ := hc
  subst c3
  have hxp : x ≠ bef r := fun e => hx (by rw [ha, e]; simp)
  have hxr : x ≠ r := fun e => hx (by simp [e])
  have hnd := h.nd
  rw [ha] at hnd
  refine ⟨?_, ?_⟩
  · have e2 : r :: ((xs ++ [x]) ++ [r]) = a' ++ bef r :: x :: r :: [] := by
      have : r :: ((xs ++ [x]) ++ [r]) = (r :: xs) ++ [x, r] := by simp
      rw [this, ha]; simp
    rw [e2, ch_two]
    refine ⟨c1.congr (fun y hy => ?_) (fun y hy => ?_), ?_, ?_, ?_⟩
    · rw [List.dropLast_concat] at hy
      have h1 : y ≠ bef r := fun e => by
        subst e
        exact (List.nodup_append.1 hnd).2.2 _ hy _ (by simp) rfl
      have h2 : y ≠ x := fun e => hx (by rw [ha, ← e]; simp [hy])
      rw [upd_other _ _ h2, upd_other _ _ h1]
    · have ht : (a' ++ [bef r]).tail = xs := by rw [← ha]; rfl
      rw [ht] at hy
      have h1 : y ≠ r := fun e => (List.nodup_cons.1 h.nd).1 (by rw [← e]; exact hy)
      have h2 : y ≠ x := fun e => hx (by rw [← e]; simp [hy])
      rw [upd_other _ _ h1, upd_other _ _ h2]
    · rw [upd_other _ _ (Ne.symm hxp), upd_same]
    · rw [upd_other _ _ hxr, upd_same]
    · simp only [Ch]
      exact ⟨upd_same _ _ _, upd_same _ _ _, trivial⟩
  · have e3 : r :: (xs ++ [x]) = (r :: xs) ++ [x] := rfl
    rw [e3, List.nodup_append]
    refine ⟨h.nd, by simp, fun u hu v hv => ?_⟩
    simp at hv
    subst hv
    exact fun e => hx (by rw [← e]; exact hu)
theorem Ring.bef_in {aft bef : Int → Int} {r : Int} {xs : List Int} (h : Ring aft bef r xs) : bef r ∈ r :: xs := by
  obtain ⟨a', p, ha⟩ := last_split r xs
  have hc := h.ch
  have e1 : r :: (xs ++ [r]) = a' ++ p :: r :: [] := by
    have : r :: (xs ++ [r]) = (r :: xs) ++ [r] := rfl
    rw [this, ha]; simp
  rw [e1, ch_two] at hc
  rw [hc.2.2.1, ha]
  simp
theorem Ring.congr {aft bef aft' bef' : Int → Int} {r : Int} {xs : List Int} (h : Ring aft bef r xs) (h1 : ∀ x ∈ r :: xs, aft' x = aft x) (h2 : ∀ x ∈ r :: xs, bef' x = bef x) : Ring aft' bef' r xs := by
  refine ⟨h.ch.congr (fun x hx => h1 x ?_) (fun x hx => h2 x ?_), h.nd⟩
  · have : (r :: (xs ++ [r])).dropLast = r :: xs := by rw [← List.cons_append, List.dropLast_concat]
    rw [this] at hx; exact hx
  · simp at hx ⊢
    rcases hx with h | h
    · exact Or.inr h
    · exact Or.inl h
/-- what Push tells, what it leaves -/
def bad (id c : Int) : Bool := decide (id < 1) || decide (c < 1) || decide (64 < c)
def pushE (l : List E) (id c : Int) : Int := if bad id c then 1 else if has l id then 8 else 0
def pushL (l : List E) (id c : Int) : List E := if bad id c then l else if has l id then l else l ++ [(id, c)]
theorem bad_no {id c : Int} (h : bad id c = false) : 1 ≤ id ∧ 1 ≤ c ∧ c ≤ 64 := by
  simp [bad] at h
  omega
end Ff
