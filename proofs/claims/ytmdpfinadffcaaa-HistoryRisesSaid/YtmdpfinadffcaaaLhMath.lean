/-
  Tables of keys with their values, the last used first (over lists alone); rings of blocks by two functions.
-/
import Derived.Test.YtmdpfinadffcaaaBase
import Derived.Test.YtmdpfinadffcaaaHistMath
namespace Lr
set_option linter.unusedVariables false

/-- a value: the counts of a histogram -/
abbrev V := {l : List Int // l.length = 16}
def zero : V := ⟨Hi.zeros, rfl⟩
abbrev E := ByteArray × V
def find : List E → ByteArray → Option V
  | [], _ => none
  | e :: r, k => if e.1 = k then some e.2 else find r k
def has (l : List E) (k : ByteArray) : Bool := (find l k).isSome
def without (l : List E) (k : ByteArray) : List E := l.filter (fun e => decide (e.1 ≠ k))
/-- a key put in front -/
def front (l : List E) (k : ByteArray) (v : V) : List E := (k, v) :: without l k
/-- cut down to the room: what is left, and the key that went -/
def fit (room : Int) (m : List E) : List E × Option ByteArray := if (m.length : Int) ≤ room then (m, none) else (m.dropLast, (m.getLast?).map (·.1))
def put (room : Int) (l : List E) (k : ByteArray) (v : V) : List E × Option ByteArray := fit room (front l k v)
def get (l : List E) (k : ByteArray) : List E := match find l k with | none => l | some v => front l k v
def keys (l : List E) : List ByteArray := l.map (·.1)
def Good (l : List E) : Prop := (keys l).Nodup

theorem find_none {l : List E} {k : ByteArray} : find l k = none ↔ ∀ e ∈ l, e.1 ≠ k := by
  induction l with
  | nil => simp [find]
  | cons e r ih =>
    unfold find
    by_cases h : e.1 = k
    · simp [h]
    · simp [h, ih]
theorem find_some {l : List E} {k : ByteArray} {v : V} (h : find l k = some v) : ∃ a b, l = a ++ (k, v) :: b ∧ find a k = none := by
  induction l with
  | nil => cases h
  | cons e r ih =>
    unfold find at h
    by_cases h1 : e.1 = k
    · rw [if_pos h1] at h
      obtain ⟨x, y⟩ := e
      cases h; subst h1
      exact ⟨[], r, rfl, rfl⟩
    · rw [if_neg h1] at h
      obtain ⟨a, b, h2, h3⟩ := ih h
      exact ⟨e :: a, b, by rw [h2]; rfl, by unfold find; rw [if_neg h1]; exact h3⟩
theorem without_none {l : List E} {k : ByteArray} (h : ∀ e ∈ l, e.1 ≠ k) : without l k = l := by
  unfold without
  rw [List.filter_eq_self]
  intro e he
  simpa using h e he
theorem without_append (a b : List E) (k : ByteArray) : without (a ++ b) k = without a k ++ without b k := by simp [without]
theorem Good.split {a b : List E} {e : E} (h : Good (a ++ e :: b)) : (∀ x ∈ a, x.1 ≠ e.1) ∧ (∀ x ∈ b, x.1 ≠ e.1) := by
  unfold Good keys at h
  rw [List.map_append, List.map_cons, List.nodup_append] at h
  obtain ⟨_, h2, h3⟩ := h
  rw [List.nodup_cons] at h2
  refine ⟨fun x hx he => h3 x.1 (List.mem_map.2 ⟨x, hx, rfl⟩) e.1 List.mem_cons_self he, fun x hx he => h2.1 (List.mem_map.2 ⟨x, hx, he⟩)⟩
theorem without_split {a b : List E} {e : E} (h : Good (a ++ e :: b)) : without (a ++ e :: b) e.1 = a ++ b := by
  obtain ⟨h1, h2⟩ := h.split
  have : without (e :: b) e.1 = without b e.1 := by simp [without]
  rw [without_append, this, without_none h1, without_none h2]
theorem without_sub (l : List E) (k : ByteArray) : (without l k).Sublist l := List.filter_sublist
theorem without_ne (l : List E) (k : ByteArray) : ∀ e ∈ without l k, e.1 ≠ k := fun e he => by simpa using (List.mem_filter.1 he).2
theorem Good.sub {l m : List E} (h : Good m) (hs : l.Sublist m) : Good l := (hs.map _).nodup h
theorem Good.without {l : List E} (h : Good l) (k : ByteArray) : Good (without l k) := h.sub (without_sub l k)
theorem Good.front {l : List E} (h : Good l) (k : ByteArray) (v : V) : Good (front l k v) := by
  unfold Good keys Lr.front
  rw [List.map_cons, List.nodup_cons]
  refine ⟨fun hm => ?_, h.without k⟩
  obtain ⟨e, he, h1⟩ := List.mem_map.1 hm
  exact without_ne l k e he h1
theorem Good.fit {m : List E} (h : Good m) (room : Int) : Good (fit room m).1 := by
  unfold Lr.fit
  split
  · exact h
  · exact h.sub (List.dropLast_sublist m)
theorem Good.put {l : List E} (h : Good l) (room : Int) (k : ByteArray) (v : V) : Good (put room l k v).1 := (h.front k v).fit room
theorem Good.get {l : List E} (h : Good l) (k : ByteArray) : Good (get l k) := by
  unfold Lr.get
  split
  · exact h
  · exact h.front _ _
theorem good_nil : Good [] := by simp [Good, keys]
theorem length_without (l : List E) (k : ByteArray) : (without l k).length ≤ l.length := (without_sub l k).length_le
theorem length_there {l : List E} {k : ByteArray} {v : V} (hg : Good l) (h : find l k = some v) : (front l k v).length = l.length := by
  obtain ⟨a, b, rfl, _⟩ := find_some h
  have := without_split hg
  simp only at this
  unfold front
  rw [this]
  simp
  omega
theorem length_fit (room : Int) (m : List E) : (fit room m).1.length ≤ m.length := by
  unfold fit
  split
  · exact Nat.le_refl _
  · simp
theorem length_put (room : Int) (l : List E) (k : ByteArray) (v : V) : (put room l k v).1.length ≤ l.length + 1 := by
  have h1 := length_fit room (front l k v)
  have h2 := length_without l k
  unfold put
  have h3 : (front l k v).length = (without l k).length + 1 := rfl
  omega
theorem length_get {l : List E} (hg : Good l) (k : ByteArray) : (get l k).length = l.length := by
  unfold get
  split
  · rfl
  · rename_i v h; exact length_there hg h
theorem room_fit {room : Int} {m : List E} (h0 : 0 ≤ room) (h : (m.length : Int) ≤ room + 1) : ((fit room m).1.length : Int) ≤ room := by
  unfold fit
  split
  · rename_i h1; exact h1
  · simp; omega
theorem room_put {room : Int} {l : List E} (h0 : 0 ≤ room) (h : (l.length : Int) ≤ room) (k : ByteArray) (v : V) : ((put room l k v).1.length : Int) ≤ room := by
  refine room_fit h0 ?_
  have h2 := length_without l k
  have h3 : (front l k v).length = (without l k).length + 1 := rfl
  omega
/-- a key that is there: nothing goes -/
theorem put_there {room : Int} {l : List E} {k : ByteArray} {v u : V} (hg : Good l) (hl : (l.length : Int) ≤ room) (h : find l k = some u) : put room l k v = (front l k v, none) := by
  unfold put fit
  have h1 := length_there hg h
  have h2 : (front l k v).length = (front l k u).length := rfl
  rw [if_pos (by omega)]
theorem get_none {l : List E} {k : ByteArray} (h : find l k = none) : get l k = l := by unfold get; rw [h]
theorem get_some {l : List E} {k : ByteArray} {v : V} (h : find l k = some v) : get l k = front l k v := by unfold get; rw [h]
theorem fit_in {room : Int} {m : List E} (h : (m.length : Int) ≤ room) : fit room m = (m, none) := by unfold fit; rw [if_pos h]
/-- one too many: the last goes -/
theorem fit_out {room : Int} {a : List E} {e : E} (h : ¬ (((a ++ [e]).length : Nat) : Int) ≤ room) : fit room (a ++ [e]) = (a, some e.1) := by
  unfold fit
  rw [if_neg h]
  simp
theorem last_of {m : List E} (h : m ≠ []) : ∃ a e, m = a ++ [e] := ⟨m.dropLast, m.getLast h, (List.dropLast_concat_getLast h).symm⟩
theorem without_last {a : List E} {e : E} (h : Good (a ++ [e])) : without (a ++ [e]) e.1 = a := by
  have := without_split (b := []) h
  rwa [List.append_nil] at this
theorem without_take (l : List E) (id : ByteArray) (k : Nat) (h : k < l.length) : without (l.take (k + 1)) id = if l[k].1 = id then without (l.take k) id else without (l.take k) id ++ [l[k]] := by
  unfold without
  rw [List.take_add_one, List.getElem?_eq_getElem h]
  simp only [Option.toList_some, List.filter_append, List.filter_cons, List.filter_nil]
  split
  · rename_i h1; simp at h1; rw [if_neg h1]
  · rename_i h1; simp at h1; rw [if_pos h1]; simp
/-- the place of a key -/
theorem find_at {l : List E} (hg : Good l) {j : Nat} (h : j < l.length) : find l l[j].1 = some l[j].2 := by
  cases hf : find l l[j].1 with
  | none => exact absurd rfl (find_none.1 hf _ (List.getElem_mem h))
  | some v =>
    obtain ⟨a, b, hs, ha⟩ := find_some hf
    have hm : l[j] ∈ a ++ (l[j].1, v) :: b := by rw [← hs]; exact List.getElem_mem h
    have hg2 : Good (a ++ (l[j].1, v) :: b) := by rw [← hs]; exact hg
    obtain ⟨h1, h2⟩ := hg2.split
    rcases List.mem_append.1 hm with h3 | h3
    · exact absurd (rfl : l[j].1 = l[j].1) (h1 l[j] h3)
    · rcases List.mem_cons.1 h3 with h4 | h4
      · rw [h4]
      · exact absurd (rfl : l[j].1 = l[j].1) (h2 l[j] h4)
theorem keys_apart {l : List E} (hg : Good l) {i j : Nat} (hi : i < l.length) (hj : j < l.length) (h : l[i].1 = l[j].1) : i = j := by
  have h1 : (keys l)[i]'(by simpa [keys] using hi) = (keys l)[j]'(by simpa [keys] using hj) := by simpa [keys] using h
  have hp := List.pairwise_iff_getElem.1 hg
  rcases Nat.lt_trichotomy i j with h2 | h2 | h2
  · exact absurd h1 (hp i j _ _ h2)
  · exact h2
  · exact absurd h1.symm (hp j i _ _ h2)

/-! ### rings -/
def upd (f : Nat → Nat) (x y : Nat) : Nat → Nat := fun z => if z = x then y else f z
theorem upd_same (f : Nat → Nat) (x y : Nat) : upd f x y x = y := by simp [upd]
theorem upd_other (f : Nat → Nat) {x z : Nat} (y : Nat) (h : z ≠ x) : upd f x y z = f z := by simp [upd, h]
/-- one behind the other -/
def Ch (aft bef : Nat → Nat) : List Nat → Prop
  | a :: b :: t => aft a = b ∧ bef b = a ∧ Ch aft bef (b :: t)
  | _ => True
theorem Ch.congr {aft bef aft' bef' : Nat → Nat} : ∀ {l : List Nat}, Ch aft bef l → (∀ x ∈ l.dropLast, aft' x = aft x) → (∀ x ∈ l.tail, bef' x = bef x) → Ch aft' bef' l
  | [], _, _, _ => trivial
  | [_], _, _, _ => trivial
  | a :: b :: t, h, h1, h2 => by
    obtain ⟨e1, e2, e3⟩ := h
    refine ⟨(h1 a (by simp)).trans e1, (h2 b (by simp)).trans e2, e3.congr (fun x hx => h1 x ?_) (fun x hx => h2 x ?_)⟩
    · rw [List.dropLast_cons_of_ne_nil (by simp)]; exact List.mem_cons_of_mem _ hx
    · simp at hx ⊢; exact Or.inr hx
theorem ch_app {aft bef : Nat → Nat} {x : Nat} : ∀ {a b : List Nat}, Ch aft bef (a ++ x :: b) ↔ Ch aft bef (a ++ [x]) ∧ Ch aft bef (x :: b)
  | [], b => by simp [Ch]
  | [y], b => by simp [Ch, and_assoc]
  | y :: z :: t, b => by
    have ih := ch_app (aft := aft) (bef := bef) (x := x) (a := z :: t) (b := b)
    simp only [List.cons_append, Ch] at ih ⊢
    rw [ih]
    simp [and_assoc]
theorem ch_two {aft bef : Nat → Nat} {x y : Nat} {a b : List Nat} : Ch aft bef (a ++ x :: y :: b) ↔ Ch aft bef (a ++ [x]) ∧ aft x = y ∧ bef y = x ∧ Ch aft bef (y :: b) := by
  rw [ch_app]
  simp [Ch]
/-- a ring: the root, then the links -/
structure Ring (aft bef : Nat → Nat) (r : Nat) (xs : List Nat) : Prop where
  ch : Ch aft bef (r :: (xs ++ [r]))
  nd : (r :: xs).Nodup
theorem last_split (r : Nat) (a : List Nat) : ∃ a' p, r :: a = a' ++ [p] := ⟨(r :: a).dropLast, (r :: a).getLast (by simp), (List.dropLast_concat_getLast _).symm⟩
theorem first_split (r : Nat) (b : List Nat) : ∃ q b', b ++ [r] = q :: b' := by
  cases b with
  | nil => exact ⟨r, [], rfl⟩
  | cons q t => exact ⟨q, t ++ [r], rfl⟩
theorem Ring.around {aft bef : Nat → Nat} {r x : Nat} {a b : List Nat} (h : Ring aft bef r (a ++ x :: b)) : ∃ a' b', r :: a = a' ++ [bef x] ∧ b ++ [r] = aft x :: b' ∧ Ch aft bef (a' ++ [bef x]) ∧ Ch aft bef (aft x :: b') := by
  obtain ⟨a', p, ha⟩ := last_split r a
  obtain ⟨q, b', hb⟩ := first_split r b
  have hc := h.ch
  have e : r :: ((a ++ x :: b) ++ [r]) = a' ++ p :: x :: q :: b' := by
    have : r :: ((a ++ x :: b) ++ [r]) = (r :: a) ++ x :: (b ++ [r]) := by simp
    rw [this, ha, hb]; simp
  rw [e, ch_two] at hc
  obtain ⟨c1, c2, c3, c4⟩ := hc
  simp only [Ch] at c4
  obtain ⟨c5, c6, c7⟩ := c4
  subst c3 c5
  exact ⟨a', b', ha, hb, c1, c7⟩
theorem Ring.cut {aft bef : Nat → Nat} {r x : Nat} {a b : List Nat} (h : Ring aft bef r (a ++ x :: b)) : Ring (upd aft (bef x) (aft x)) (upd bef (aft x) (bef x)) r (a ++ b) := by
  obtain ⟨a', b', ha, hb, c1, c2⟩ := h.around
  have hnd := h.nd
  have hnd2 : ((r :: a) ++ (x :: b)).Nodup := by simpa using hnd
  rw [List.nodup_append] at hnd2
  obtain ⟨n1, n2, n3⟩ := hnd2
  rw [List.nodup_cons] at n2
  have hp : bef x ∈ r :: a := by rw [ha]; simp
  have hq : aft x ∈ b ++ [r] := by rw [hb]; simp
  generalize bef x = p at *
  generalize aft x = q at *
  refine ⟨?_, ?_⟩
  · have e : r :: ((a ++ b) ++ [r]) = a' ++ p :: q :: b' := by
      have : r :: ((a ++ b) ++ [r]) = (r :: a) ++ (b ++ [r]) := by simp
      rw [this, ha, hb]; simp
    rw [e, ch_two]
    refine ⟨c1.congr (fun y hy => ?_) (fun y hy => ?_), upd_same _ _ _, upd_same _ _ _, c2.congr (fun y hy => ?_) (fun y hy => ?_)⟩
    · rw [List.dropLast_concat] at hy
      refine upd_other _ _ (fun e1 => ?_)
      subst e1
      rw [ha, List.nodup_append] at n1
      exact n1.2.2 y hy y (by simp) rfl
    · have ht : (a' ++ [p]).tail = a := by rw [← ha]; rfl
      rw [ht] at hy
      refine upd_other _ _ (fun e1 => ?_)
      subst e1
      rcases List.mem_append.1 hq with h1 | h1
      · exact n3 y (List.mem_cons_of_mem _ hy) y (List.mem_cons_of_mem _ h1) rfl
      · simp at h1; subst h1; exact (List.nodup_cons.1 n1).1 hy
    · have ht : (q :: b').dropLast = b := by rw [← hb, List.dropLast_concat]
      rw [ht] at hy
      refine upd_other _ _ (fun e1 => ?_)
      subst e1
      exact n3 y hp y (List.mem_cons_of_mem _ hy) rfl
    · refine upd_other _ _ (fun e1 => ?_)
      subst e1
      have hn : (b ++ [r]).Nodup := by
        rw [List.nodup_append]
        refine ⟨n2.2, by simp, fun u hu v hv => ?_⟩
        simp at hv; subst hv
        exact fun e => n3 v List.mem_cons_self u (List.mem_cons_of_mem _ hu) e.symm
      rw [hb, List.nodup_cons] at hn
      exact hn.1 hy
  · have : ((r :: a) ++ b).Nodup := by
      rw [List.nodup_append]
      exact ⟨n1, n2.2, fun u hu v hv => n3 u hu v (List.mem_cons_of_mem _ hv)⟩
    simpa using this
theorem Ring.lead {aft bef : Nat → Nat} {r x : Nat} {xs : List Nat} (h : Ring aft bef r xs) (hx : x ∉ r :: xs) : Ring (upd (upd aft x (aft r)) r x) (upd (upd bef x r) (aft r) x) r (x :: xs) := by
  obtain ⟨q, b', hb⟩ := first_split r xs
  have hc := h.ch
  rw [hb] at hc
  simp only [Ch] at hc
  obtain ⟨c1, c2, c3⟩ := hc
  obtain ⟨hxr, hxx⟩ : x ≠ r ∧ x ∉ xs := by simpa using hx
  have hq : q ∈ xs ++ [r] := by rw [hb]; simp
  have hqx : x ≠ q := fun e => by
    subst e
    rcases List.mem_append.1 hq with h1 | h1
    · exact hxx h1
    · simp at h1; exact hxr h1
  obtain ⟨hnr, hnx⟩ := List.nodup_cons.1 h.nd
  subst c1
  refine ⟨?_, ?_⟩
  · rw [List.cons_append, hb]
    simp only [Ch]
    refine ⟨upd_same _ _ _, ?_, ?_, upd_same _ _ _, c3.congr (fun y hy => ?_) (fun y hy => ?_)⟩
    · rw [upd_other _ _ hqx, upd_same]
    · rw [upd_other _ _ hxr, upd_same]
    · rw [← hb, List.dropLast_concat] at hy
      rw [upd_other _ _ (fun e => hnr (by rw [← e]; exact hy)), upd_other _ _ (fun e => hxx (by rw [← e]; exact hy))]
    · have hn : (xs ++ [r]).Nodup := by
        rw [List.nodup_append]
        refine ⟨hnx, by simp, fun u hu v hv => ?_⟩
        simp at hv; subst hv
        exact fun e => hnr (by rw [← e]; exact hu)
      have hyq : y ≠ aft r := fun e => by
        rw [hb, List.nodup_cons] at hn
        exact hn.1 (by rw [← e]; exact hy)
      have hyx : y ≠ x := fun e => by
        have h1 : y ∈ xs ++ [r] := by rw [hb]; exact List.mem_cons_of_mem _ hy
        rcases List.mem_append.1 h1 with h2 | h2
        · exact hxx (by rw [← e]; exact h2)
        · simp at h2; exact hxr (by rw [← e]; exact h2)
      rw [upd_other _ _ hyq, upd_other _ _ hyx]
  · rw [List.nodup_cons, List.nodup_cons]
    refine ⟨?_, hxx, hnx⟩
    simp only [List.mem_cons, not_or]
    exact ⟨fun e => hxr e.symm, hnr⟩
theorem Ring.aft_in {aft bef : Nat → Nat} {r x : Nat} {a b : List Nat} (h : Ring aft bef r (a ++ x :: b)) : aft x ∈ r :: (a ++ b) ∧ bef x ∈ r :: (a ++ b) ∧ aft x ≠ x ∧ bef x ≠ x := by
  obtain ⟨a', b', ha, hb, _, _⟩ := h.around
  have hp : bef x ∈ r :: a := by rw [ha]; simp
  have hq : aft x ∈ b ++ [r] := by rw [hb]; simp
  have hnd2 : ((r :: a) ++ (x :: b)).Nodup := by simpa using h.nd
  rw [List.nodup_append] at hnd2
  obtain ⟨n1, n2, n3⟩ := hnd2
  rw [List.nodup_cons] at n2
  refine ⟨?_, ?_, ?_, ?_⟩
  · rcases List.mem_append.1 hq with h1 | h1
    · simp [h1]
    · simp at h1; simp [h1]
  · rcases List.mem_cons.1 hp with h1 | h1
    · simp [h1]
    · simp [h1]
  · intro e
    rw [e] at hq
    rcases List.mem_append.1 hq with h1 | h1
    · exact n2.1 h1
    · simp at h1; exact n3 r List.mem_cons_self x List.mem_cons_self h1.symm
  · intro e
    rw [e] at hp
    exact n3 x hp x List.mem_cons_self rfl
theorem Ring.first {aft bef : Nat → Nat} {r : Nat} {xs : List Nat} (h : Ring aft bef r xs) : aft r = xs.headD r := by
  have hc := h.ch
  cases xs with
  | nil => simp only [List.nil_append, Ch] at hc; exact hc.1
  | cons y t => simp only [List.cons_append, Ch] at hc; exact hc.1
theorem Ring.next {aft bef : Nat → Nat} {r x : Nat} {a b : List Nat} (h : Ring aft bef r (a ++ x :: b)) : aft x = b.headD r := by
  obtain ⟨a', b', ha, hb, _, _⟩ := h.around
  cases b with
  | nil => simp at hb; exact hb.1.symm
  | cons y t => simp at hb; exact hb.1.symm
theorem Ring.last {aft bef : Nat → Nat} {r x : Nat} {a : List Nat} (h : Ring aft bef r (a ++ [x])) : bef r = x := by
  have hc := h.ch
  have e : r :: ((a ++ [x]) ++ [r]) = (r :: a) ++ x :: r :: [] := by simp
  rw [e, ch_two] at hc
  exact hc.2.2.1
theorem ring_new (r : Nat) {aft bef : Nat → Nat} (h1 : aft r = r) (h2 : bef r = r) : Ring aft bef r [] := ⟨by simp [Ch, h1, h2], by simp⟩
theorem Ring.in_of {aft bef : Nat → Nat} {r : Nat} {xs : List Nat} (h : Ring aft bef r xs) : aft r ∈ r :: xs := by
  rw [h.first]
  cases xs with
  | nil => simp
  | cons y t => simp
end Lr
