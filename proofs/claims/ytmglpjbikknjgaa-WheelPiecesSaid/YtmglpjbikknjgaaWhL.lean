/-
  The real wheel by its contracts alone ('WheelC': what a text of the seat shows of it); it beside the document's; the law's 'same'.
-/
import Derived.Test.YtmglpjbikknjgaaWhE
namespace Go.Proofs.Ytmglpjbikknjgaa
open Go.RowKit
set_option linter.unusedVariables false

/-- how a wheel lies: world, base, its block, its tick, its list, its blocks -/
abbrev WS := World → Nat → Nat → Int → List Wh.E → (Nat → Prop) → Prop
/-- it returns r; the wheel holds l' at tick n' -/
structure RetW (Is : WS) (r : Value) (B P : Nat) (n' : Int) (l' : List Wh.E) (F : Nat → Prop) (w : World) (e : Ending) (w' : World) : Prop where
  r : e = .returned r
  s : ∃ F', Is w' B P n' l' F' ∧ ∀ k, F' k → F k ∨ w.heap.size ≤ k
  c : Chg F w w'
/-- it returns what is due -/
structure RetWT (Is : WS) (t : List Wh.E) (B P : Nat) (n' : Int) (l' : List Wh.E) (F : Nat → Prop) (w : World) (e : Ending) (w' : World) : Prop where
  r : ∃ a cap, e = .returned (.slice a t.length cap) ∧ ViewO w' a t ∧ (∀ g off, a = some ⟨g, off, none⟩ → F g ∨ w.heap.size ≤ g) ∧ (a = none → cap = 0)
  s : ∃ F', Is w' B P n' l' F' ∧ ∀ k, F' k → F k ∨ w.heap.size ≤ k
  c : Chg F w w'
structure WheelC (Is : WS) : Prop where
  keep : ∀ {w w' : World} {B P : Nat} {now : Int} {l : List Wh.E} {F : Nat → Prop}, Is w B P now l F → w.heap.size ≤ w'.heap.size → (∀ k, F k → w'.heap[k]? = w.heap[k]?) → Is w' B P now l F
  lt : ∀ {w : World} {B P : Nat} {now : Int} {l : List Wh.E} {F : Nat → Prop}, Is w B P now l F → ∀ k, F k → B ≤ k ∧ k < w.heap.size
  new : ∀ (now : Int) (w : World) (B : Nat), (Lit.int .u64 now).wf = true → B ≤ w.heap.size → Calls Try.prog 7 #[.int .u64 now] w fun e w' => ∃ P F, e = .returned (.pointer (some ⟨P, 0, none⟩)) ∧ Is w' B P now [] F ∧ Below w.heap.size w w' ∧ ∀ k, F k → w.heap.size ≤ k
  put : ∀ (id a : Int) (w : World) (B P : Nat) (now : Int) (l : List Wh.E) (F : Nat → Prop), (Lit.int .i64 id).wf = true → (Lit.int .u64 a).wf = true → (l.map (·.1)).Nodup → l.length ≤ 1000 → Is w B P now l F →
    Calls Try.prog 9 #[.pointer (some ⟨P, 0, none⟩), .int .i64 id, .int .u64 a] w (RetW Is (.int .i64 (Wh.putErr l id)) B P now (Wh.putL l id a) F w)
  drop : ∀ (id : Int) (w : World) (B P : Nat) (now : Int) (l : List Wh.E) (F : Nat → Prop), (Lit.int .i64 id).wf = true → (l.map (·.1)).Nodup → l.length ≤ 1000 → Is w B P now l F →
    Calls Try.prog 11 #[.pointer (some ⟨P, 0, none⟩), .int .i64 id] w (RetW Is (.bool (Wh.has l id)) B P now (Wh.without l id) F w)
  at_ : ∀ (id : Int) (w : World) (B P : Nat) (now : Int) (l : List Wh.E) (F : Nat → Prop), (Lit.int .i64 id).wf = true → (l.map (·.1)).Nodup → l.length ≤ 1000 → Is w B P now l F →
    Calls Try.prog 20 #[.pointer (some ⟨P, 0, none⟩), .int .i64 id] w (RetW Is (atV (Wh.find l id)) B P now l F w)
  len : ∀ (w : World) (B P : Nat) (now : Int) (l : List Wh.E) (F : Nat → Prop), (l.map (·.1)).Nodup → l.length ≤ 1000 → Is w B P now l F →
    Calls Try.prog 18 #[.pointer (some ⟨P, 0, none⟩)] w (RetW Is (.int .i64 (l.length : Int)) B P now l F w)
  next : ∀ (w : World) (B P : Nat) (now : Int) (l : List Wh.E) (F : Nat → Prop), (l.map (·.1)).Nodup → l.length ≤ 1000 → Is w B P now l F →
    Calls Try.prog 21 #[.pointer (some ⟨P, 0, none⟩)] w (RetW Is (atV (Wh.nextR l)) B P now l F w)
  tick : ∀ (w : World) (B P : Nat) (now : Int) (l : List Wh.E) (F : Nat → Prop), (l.map (·.1)).Nodup → l.length ≤ 1000 → Is w B P now l F →
    Calls Try.prog 19 #[.pointer (some ⟨P, 0, none⟩)] w (RetW Is (.int .u64 now) B P now l F w)
  turn : ∀ (tm : Int) (w : World) (B P : Nat) (now : Int) (l : List Wh.E) (F : Nat → Prop), (Lit.int .u64 tm).wf = true → (l.map (·.1)).Nodup → l.length ≤ 1000 → Is w B P now l F →
    Calls Try.prog 14 #[.pointer (some ⟨P, 0, none⟩), .int .u64 tm] w (RetWT Is (Wh.turned l tm) B P (later now tm) (Wh.rest l tm) F w)

/-- the wheel and the document's, apart -/
structure Two (Is : WS) (w0 : World) (B P R : Nat) (v : Value) (nw : Int) (lw : List Wh.E) (nr : Int) (lr : List Wh.E) (w : World) : Prop where
  s : ∃ F, Is w B P nw lw F ∧ ∀ k, F k → ¬ RefF R v k
  r : Ref w B R nr v lr
  b : Below B w0 w
/-- behind what only makes memory -/
theorem Two.below {Is : WS} (K : WheelC Is) {w0 : World} {B P R : Nat} {v : Value} {nw nr : Int} {lw lr : List Wh.E} {w w' : World} (h : Two Is w0 B P R v nw lw nr lr w) (hb : Below w.heap.size w w') (hB : B ≤ w.heap.size) : Two Is w0 B P R v nw lw nr lr w' := by
  obtain ⟨F, h1, h2⟩ := h.s
  exact ⟨⟨F, K.keep h1 hb.size (fun k hk => hb.block k (K.lt h1 k hk).2), h2⟩, h.r.below hb, h.b.trans (hb.mono hB)⟩
/-- behind a call of the wheel -/
theorem Two.wheel {Is : WS} (K : WheelC Is) {w0 : World} {B P R : Nat} {v : Value} {nw nr n' : Int} {lw lr l' : List Wh.E} {F F' : Nat → Prop} {w w' : World} (h : Ref w B R nr v lr) (hb : Below B w0 w) (hB : B ≤ w.heap.size) (hI : Is w B P nw lw F) (hd : ∀ k, F k → ¬ RefF R v k)
    (hI' : Is w' B P n' l' F') (hF : ∀ k, F' k → F k ∨ w.heap.size ≤ k) (hc : Chg F w w') : Two Is w0 B P R v n' l' nr lr w' := by
  refine ⟨⟨F', hI', fun k hk hr => ?_⟩, h.apart hc (fun k hk hf => hd k hf hk), hb.trans (hc.below (fun k hk => (K.lt hI k hk).1) hB)⟩
  rcases hF k hk with e | e
  · exact hd k e hr
  · have := (h.lt k hr).2; omega
/-- behind a call of the document's -/
theorem Two.ref {Is : WS} (K : WheelC Is) {w0 : World} {B P R : Nat} {v v' : Value} {nw nr n' : Int} {lw lr l' : List Wh.E} {w w' : World} (h : Two Is w0 B P R v nw lw nr lr w) (hB : B ≤ w.heap.size)
    (hr : Ref w' B R n' v' l') (hl : ∀ k, v'.ownBlock = some k → v.ownBlock = some k ∨ w.heap.size ≤ k) (hc : Chg (RefF R v) w w') : Two Is w0 B P R v' nw lw n' l' w' := by
  obtain ⟨F, h1, h2⟩ := h.s
  refine ⟨⟨F, K.keep h1 hc.size (fun k hk => hc.block k (K.lt h1 k hk).2 (h2 k hk)), fun k hk hf => ?_⟩, hr, h.b.trans (hc.below (fun k hk => (h.r.lt k hk).1) hB)⟩
  rcases hf with e | e
  · exact h2 k hk (Or.inl e)
  · rcases hl k e with e | e
    · exact h2 k hk (Or.inr e)
    · have := (K.lt h1 k hk).2; omega

theorem numC (n : Int) (w : World) : Calls Try.prog 8 #[.int .i64 n] w (Same (.int .i64 n) w) := by
  go_enter Try.func8, Try.ntmps8
  go_wp2
  go_ret
  exact ⟨rfl, rfl⟩

/-- they tell the same -/
structure RetSame (Is : WS) (w0 : World) (B P R : Nat) (v : Value) (n : Int) (l : List Wh.E) (e : Ending) (w' : World) : Prop where
  e : e = .returned (.bool true)
  t : Two Is w0 B P R v n l n l w'
  z : B ≤ w'.heap.size
theorem Two.size {Is : WS} {w0 : World} {B P R : Nat} {v : Value} {nw nr : Int} {lw lr : List Wh.E} {w : World} (h : Two Is w0 B P R v nw lw nr lr w) : B ≤ w.heap.size := by
  have := h.r.lt R (Or.inl rfl); omega

/-- a call of the wheel that changes neither list nor tick -/
theorem two_ask {Is : WS} (K : WheelC Is) {w0 : World} {B P R : Nat} {v : Value} {n : Int} {l : List Wh.E} {f : FuncId} {args : Array Value} {r : Value}
    (hc : ∀ w F, Is w B P n l F → Calls Try.prog f args w (RetW Is r B P n l F w)) (w : World) (h : Two Is w0 B P R v n l n l w) : Calls Try.prog f args w fun e w' => e = .returned r ∧ Two Is w0 B P R v n l n l w' := by
  obtain ⟨F, h1, h2⟩ := h.s
  refine (hc w F h1).mono fun e w' hr => ?_
  obtain ⟨F', g1, g2⟩ := hr.s
  exact ⟨hr.r, Two.wheel K h.r h.b h.size h1 h2 g1 g2 hr.c⟩

set_option maxRecDepth 100000 in
set_option maxHeartbeats 8000000 in
theorem sameC {Is : WS} (K : WheelC Is) (w0 : World) (B P R : Nat) (v : Value) (n id : Int) (l : List Wh.E) (w : World) (hid : (Lit.int .i64 id).wf = true) (hn : (l.map (·.1)).Nodup) (hl : l.length ≤ 1000) (h : Two Is w0 B P R v n l n l w) :
    Calls Try.prog 16 #[.pointer (some ⟨P, 0, none⟩), .pointer (some ⟨R, 0, none⟩), .int .i64 id] w (RetSame Is w0 B P R v n l) := by
  obtain ⟨a, cap, rfl⟩ := own_some h.r.row
  have k1 := fun W h => two_ask K (fun w F h => K.at_ id w B P n l F hid hn hl h) (w0 := w0) (R := R) (v := .slice a l.length cap) W h
  have k2 := fun W h => two_ask K (fun w F h => K.next w B P n l F hn hl h) (w0 := w0) (R := R) (v := .slice a l.length cap) W h
  have k3 := fun W h => two_ask K (fun w F h => K.len w B P n l F hn hl h) (w0 := w0) (R := R) (v := .slice a l.length cap) W h
  have k4 := fun W h => two_ask K (fun w F h => K.tick w B P n l F hn hl h) (w0 := w0) (R := R) (v := .slice a l.length cap) W h
  have k5 := fun W hV => refAtC n id a cap l W (by omega) hV
  have k6 := fun W hV => refNextC n a cap l W (by omega) hV
  unfold atV at k1 k2 k5 k6
  have hvw : ∀ W, Two Is w0 B P R (.slice a l.length cap) n l n l W → ViewE W a l := fun W h => by
    obtain ⟨a', cap', e, hv⟩ := h.r.row.view
    cases e
    exact hv
  generalize (Wh.find l id).getD 0 = x at *
  generalize (Wh.find l id).isSome = b at *
  generalize (Wh.nextR l).getD 0 = y at *
  generalize (Wh.nextR l).isSome = d at *
  have K1 := Lib.hid k1; clear k1
  have K2 := Lib.hid k2; clear k2
  have K3 := Lib.hid k3; clear k3
  have K4 := Lib.hid k4; clear k4
  have K5 := Lib.hid k5; clear k5
  have K6 := Lib.hid k6; clear k6
  have KW := Lib.hid (fun w w' (h : Two Is w0 B P R (.slice a l.length cap) n l n l w) (hb : Below w.heap.size w w') => h.below K hb h.size)
  have HVW := Lib.hid hvw; clear hvw
  have hcell : ∀ W, Two Is w0 B P R (.slice a l.length cap) n l n l W → W.cell? ⟨R, 0, none⟩ = some (.int .u64 n) ∧ W.cell? ⟨R, 1, none⟩ = some (.slice a l.length cap) := fun W h => ⟨by rw [cell_of_row W R _ _ _ _ h.r.cell]; rfl, by rw [cell_of_row W R _ _ _ _ h.r.cell]; rfl⟩
  have HC := Lib.hid hcell; clear hcell
  clear hid hn
  have hV := Lib.hid h; clear h
  go_enter Try.func16, Try.ntmps16
  go_upto_region 5 with (first | (go_at_call 20; (with_reducible refine (K1.out _ hV.out).mono ?_); rintro e wA ⟨rfl, hT⟩; replace hV := Lib.hid hT; obtain ⟨c0, c1⟩ := HC.out _ hT; clear hT) | (go_at_call 21; (with_reducible refine (K2.out _ hV.out).mono ?_); rintro e wA ⟨rfl, hT⟩; replace hV := Lib.hid hT; obtain ⟨c0, c1⟩ := HC.out _ hT; clear hT) | (go_at_call 23; (with_reducible refine (K5.out _ (HVW.out _ hV.out)).mono ?_); rintro e wA ⟨rfl, hbA⟩; replace hV := Lib.hid (KW.out _ _ hV.out hbA); clear hbA) | (go_at_call 29; (with_reducible refine (K6.out _ (HVW.out _ hV.out)).mono ?_); rintro e wA ⟨rfl, hbA⟩; replace hV := Lib.hid (KW.out _ _ hV.out hbA); clear hbA))
  refine wp_region_any (by kernel_rfl) ?_
  change wpAny _ _ _ _ _ _ _ (World.drew _)
  refine wpAny_of_held (S := Two Is w0 B P R (.slice a l.length cap) n l n l) _ _ _ _ ?_
  have hS := KW.out _ _ hV.out (Below.refl _ _).drew
  refine takeH 0 41 ?_ rfl rfl (by kernel_rfl) (by kernel_rfl) (by kernel_rfl) (fun _ _ _ h => h) (Or.inl ⟨by kernel_rfl, ?_⟩) hS ?_; rotate_left; (intro w' hw; skip; first | (go_simp; done) | (go_simp; with_reducible rfl)); rotate_left
  try simp only [List.setIfInBounds_toArray, List.set_cons_zero, List.set_cons_succ]
  refine takeH 1 42 ?_ rfl rfl (by kernel_rfl) (by kernel_rfl) (by kernel_rfl) (fun _ _ _ h => h) (Or.inl ⟨by kernel_rfl, ?_⟩) hS ?_; rotate_left; (intro w' hw; skip; first | (go_simp; done) | (go_simp; with_reducible rfl)); rotate_left
  try simp only [List.setIfInBounds_toArray, List.set_cons_zero, List.set_cons_succ]
  refine takeH 2 43 ?_ rfl rfl (by kernel_rfl) (by kernel_rfl) (by kernel_rfl) (fun _ _ _ h => h) (Or.inl ⟨by kernel_rfl, ?_⟩) hS ?_; rotate_left; (intro w' hw; skip; first | (go_simp; done) | (go_simp; with_reducible rfl)); rotate_left
  try simp only [List.setIfInBounds_toArray, List.set_cons_zero, List.set_cons_succ]
  refine takeH 3 44 ?_ rfl rfl (by kernel_rfl) (by kernel_rfl) (by kernel_rfl) (fun _ _ _ h => h) (Or.inl ⟨by kernel_rfl, ?_⟩) hS ?_; rotate_left; (intro w' hw; skip; first | (go_simp; done) | (go_simp; with_reducible rfl)); rotate_left
  try simp only [List.setIfInBounds_toArray, List.set_cons_zero, List.set_cons_succ]
  refine takeH 4 45 ?_ rfl rfl (by kernel_rfl) (by kernel_rfl) (by kernel_rfl) (fun _ _ _ h => h) (Or.inl ⟨by kernel_rfl, ?_⟩) hS ?_; rotate_left; (intro w' hw; skip; first | (go_simp; done) | (go_simp; with_reducible rfl)); rotate_left
  try simp only [List.setIfInBounds_toArray, List.set_cons_zero, List.set_cons_succ]
  refine takeH 5 46 ?_ rfl rfl (by kernel_rfl) (by kernel_rfl) (by kernel_rfl) (fun _ _ _ h => h) (Or.inl ⟨by kernel_rfl, ?_⟩) hS ?_; rotate_left; (intro w' hw; skip; first | (go_simp; done) | (go_simp; with_reducible rfl)); rotate_left
  try simp only [List.setIfInBounds_toArray, List.set_cons_zero, List.set_cons_succ]
  refine takeH 6 47 ?_ rfl rfl (by kernel_rfl) (by kernel_rfl) (by kernel_rfl) (fun _ _ _ h => h) (Or.inl ⟨by kernel_rfl, ?_⟩) hS ?_; rotate_left; (intro w' hw; skip; first | (go_simp; done) | (go_simp; with_reducible rfl)); rotate_left
  try simp only [List.setIfInBounds_toArray, List.set_cons_zero, List.set_cons_succ]
  refine takeH 7 48 ?_ rfl rfl (by kernel_rfl) (by kernel_rfl) (by kernel_rfl) (fun _ _ _ h => h) (Or.inl ⟨by kernel_rfl, ?_⟩) hS ?_; rotate_left; (intro w' hw; skip; first | (go_simp; done) | (go_simp; with_reducible rfl)); rotate_left
  try simp only [List.setIfInBounds_toArray, List.set_cons_zero, List.set_cons_succ]
  refine takeH 8 49 ?_ rfl rfl (by kernel_rfl) (by kernel_rfl) (by kernel_rfl) (fun _ _ _ h => h) (Or.inl ⟨by kernel_rfl, ?_⟩) hS ?_; rotate_left; (intro w' hw; skip; first | (go_simp; done) | (go_simp; with_reducible rfl)); rotate_left
  try simp only [List.setIfInBounds_toArray, List.set_cons_zero, List.set_cons_succ]
  refine takeH 9 50 ?_ rfl rfl (by kernel_rfl) (by kernel_rfl) (by kernel_rfl) (fun _ _ _ h => h) (Or.inl ⟨by kernel_rfl, ?_⟩) hS ?_; rotate_left; (intro w' hw; skip; first | (go_simp; done) | (go_simp; with_reducible rfl)); rotate_left
  try simp only [List.setIfInBounds_toArray, List.set_cons_zero, List.set_cons_succ]
  refine takeH 10 51 ?_ rfl rfl (by kernel_rfl) (by kernel_rfl) (by kernel_rfl) (fun _ _ _ h => h) (Or.inl ⟨by kernel_rfl, ?_⟩) hS ?_; rotate_left; (intro w' hw; skip; first | (go_simp; done) | (go_simp; with_reducible rfl)); rotate_left
  try simp only [List.setIfInBounds_toArray, List.set_cons_zero, List.set_cons_succ]
  refine takeH 11 52 ?_ rfl rfl (by kernel_rfl) (by kernel_rfl) (by kernel_rfl) (fun _ _ _ h => h) (Or.inl ⟨by kernel_rfl, ?_⟩) hS ?_; rotate_left; (intro w' hw; skip; first | (go_simp; done) | (go_simp; with_reducible rfl)); rotate_left
  try simp only [List.setIfInBounds_toArray, List.set_cons_zero, List.set_cons_succ]
  refine takeH 12 53 ?_ rfl rfl (by kernel_rfl) (by kernel_rfl) (by kernel_rfl) (fun _ _ _ h => h) (Or.inl ⟨by kernel_rfl, ?_⟩) hS ?_; rotate_left; (intro w' hw; skip; first | (go_simp; done) | (go_simp; with_reducible rfl)); rotate_left
  try simp only [List.setIfInBounds_toArray, List.set_cons_zero, List.set_cons_succ]
  refine takeH 13 54 ?_ rfl rfl (by kernel_rfl) (by kernel_rfl) (by kernel_rfl) (fun _ _ _ h => h) (Or.inl ⟨by kernel_rfl, ?_⟩) hS ?_; rotate_left; (intro w' hw; skip; first | (go_simp; done) | (go_simp; with_reducible rfl)); rotate_left
  try simp only [List.setIfInBounds_toArray, List.set_cons_zero, List.set_cons_succ]
  refine takeH 14 55 ?_ rfl rfl (by kernel_rfl) (by kernel_rfl) (by kernel_rfl) (fun _ _ _ h => h) (Or.inl ⟨by kernel_rfl, ?_⟩) hS ?_; rotate_left; (intro w' hw; skip; first | (go_simp; done) | (go_simp; with_reducible rfl)); rotate_left
  try simp only [List.setIfInBounds_toArray, List.set_cons_zero, List.set_cons_succ]
  refine takeH 15 56 ?_ rfl rfl (by kernel_rfl) (by kernel_rfl) (by kernel_rfl) (fun _ _ _ h => h) (Or.inl ⟨by kernel_rfl, ?_⟩) hS ?_; rotate_left; (intro w' hw; skip; first | (go_simp; done) | (go_simp; with_reducible rfl)); rotate_left
  try simp only [List.setIfInBounds_toArray, List.set_cons_zero, List.set_cons_succ]
  refine takeH 16 57 ?_ rfl rfl (by kernel_rfl) (by kernel_rfl) (by kernel_rfl) (fun _ _ _ h => h) (Or.inl ⟨by kernel_rfl, ?_⟩) hS ?_; rotate_left; (intro w' hw; skip; first | (go_simp; done) | (go_simp; with_reducible rfl)); rotate_left
  try simp only [List.setIfInBounds_toArray, List.set_cons_zero, List.set_cons_succ]
  refine takeH 17 58 ?_ rfl rfl (by kernel_rfl) (by kernel_rfl) (by kernel_rfl) (fun _ _ _ h => h) (Or.inl ⟨by kernel_rfl, ?_⟩) hS ?_; rotate_left; (intro w' hw; skip; first | (go_simp; done) | (go_simp; with_reducible rfl)); rotate_left
  try simp only [List.setIfInBounds_toArray, List.set_cons_zero, List.set_cons_succ]
  refine takeH 18 59 ?_ rfl rfl (by kernel_rfl) (by kernel_rfl) (by kernel_rfl) (fun _ _ _ h => h) (Or.inl ⟨by kernel_rfl, ?_⟩) hS ?_; rotate_left; (intro w' hw; skip; first | (go_simp; done) | (go_simp; with_reducible rfl)); rotate_left
  try simp only [List.setIfInBounds_toArray, List.set_cons_zero, List.set_cons_succ]
  refine takeH 19 60 ?_ rfl rfl (by kernel_rfl) (by kernel_rfl) (by kernel_rfl) (fun _ _ _ h => h) (Or.inl ⟨by kernel_rfl, ?_⟩) hS ?_; rotate_left; (intro w' hw; skip; first | (go_simp; done) | (go_simp; with_reducible rfl)); rotate_left
  try simp only [List.setIfInBounds_toArray, List.set_cons_zero, List.set_cons_succ]
  refine takeH 21 62 ?_ rfl rfl (by kernel_rfl) (by kernel_rfl) (by kernel_rfl) (fun _ _ _ h => h) (Or.inl ⟨by kernel_rfl, ?_⟩) hS ?_; rotate_left; (intro w' hw; skip; first | (go_simp; done) | (go_simp; with_reducible rfl)); rotate_left
  try simp only [List.setIfInBounds_toArray, List.set_cons_zero, List.set_cons_succ]
  refine takeH 22 63 ?_ rfl rfl (by kernel_rfl) (by kernel_rfl) (by kernel_rfl) (fun _ _ _ h => h) (Or.inl ⟨by kernel_rfl, ?_⟩) hS ?_; rotate_left; (intro w' hw; skip; first | (go_simp; done) | (go_simp; with_reducible rfl)); rotate_left
  try simp only [List.setIfInBounds_toArray, List.set_cons_zero, List.set_cons_succ]
  refine takeH 23 64 ?_ rfl rfl (by kernel_rfl) (by kernel_rfl) (by kernel_rfl) (fun _ _ _ h => h) (Or.inl ⟨by kernel_rfl, ?_⟩) hS ?_; rotate_left; (intro w' hw; skip; first | (go_simp; done) | (go_simp; with_reducible rfl)); rotate_left
  try simp only [List.setIfInBounds_toArray, List.set_cons_zero, List.set_cons_succ]
  refine takeH 24 65 ?_ rfl rfl (by kernel_rfl) (by kernel_rfl) (by kernel_rfl) (fun _ _ _ h => h) (Or.inl ⟨by kernel_rfl, ?_⟩) hS ?_; rotate_left; (intro w' hw; obtain ⟨z0, z1⟩ := HC.out _ hw; first | (go_simp; done) | (go_simp; with_reducible rfl)); rotate_left
  try simp only [List.setIfInBounds_toArray, List.set_cons_zero, List.set_cons_succ]
  refine takeH 25 66 ?_ rfl rfl (by kernel_rfl) (by kernel_rfl) (by kernel_rfl) (fun _ _ _ h => h) (Or.inl ⟨by kernel_rfl, ?_⟩) hS ?_; rotate_left; (intro w' hw; skip; first | (go_simp; done) | (go_simp; with_reducible rfl)); rotate_left
  try simp only [List.setIfInBounds_toArray, List.set_cons_zero, List.set_cons_succ]
  refine wpAnyH_ready (rs := [20]) (by kernel_rfl) (by simp) ?_; refine AllReadyH.cons rfl (fun K hK => ?_) AllReadyH.nil; go_simp; go_wp2_with (go_at_call 18; (with_reducible refine (K3.out _ hS).mono ?_); rintro e wA ⟨rfl, hT⟩; replace hS := hT; clear hT); refine hK.out _ _ ?_ (fun _ => ?_); (exact hS); clear hK K
  refine takeH 26 67 ?_ rfl rfl (by kernel_rfl) (by kernel_rfl) (by kernel_rfl) (fun _ _ _ h => h) (Or.inl ⟨by kernel_rfl, ?_⟩) hS ?_; rotate_left; (intro w' hw; skip; first | (go_simp; done) | (go_simp; with_reducible rfl)); rotate_left
  try simp only [List.setIfInBounds_toArray, List.set_cons_zero, List.set_cons_succ]
  refine takeH 27 68 ?_ rfl rfl (by kernel_rfl) (by kernel_rfl) (by kernel_rfl) (fun _ _ _ h => h) (Or.inl ⟨by kernel_rfl, ?_⟩) hS ?_; rotate_left; (intro w' hw; skip; first | (go_simp; done) | (go_simp; with_reducible rfl)); rotate_left
  try simp only [List.setIfInBounds_toArray, List.set_cons_zero, List.set_cons_succ]
  refine takeH 28 69 ?_ rfl rfl (by kernel_rfl) (by kernel_rfl) (by kernel_rfl) (fun _ _ _ h => h) (Or.inl ⟨by kernel_rfl, ?_⟩) hS ?_; rotate_left; (intro w' hw; skip; first | (go_simp; done) | (go_simp; with_reducible rfl)); rotate_left
  try simp only [List.setIfInBounds_toArray, List.set_cons_zero, List.set_cons_succ]
  refine takeH 29 70 ?_ rfl rfl (by kernel_rfl) (by kernel_rfl) (by kernel_rfl) (fun _ _ _ h => h) (Or.inl ⟨by kernel_rfl, ?_⟩) hS ?_; rotate_left; (intro w' hw; skip; first | (go_simp; done) | (go_simp; with_reducible rfl)); rotate_left
  try simp only [List.setIfInBounds_toArray, List.set_cons_zero, List.set_cons_succ]
  refine takeH 31 72 ?_ rfl rfl (by kernel_rfl) (by kernel_rfl) (by kernel_rfl) (fun _ _ _ h => h) (Or.inl ⟨by kernel_rfl, ?_⟩) hS ?_; rotate_left; (intro w' hw; skip; first | (go_simp; done) | (go_simp; with_reducible rfl)); rotate_left
  try simp only [List.setIfInBounds_toArray, List.set_cons_zero, List.set_cons_succ]
  refine takeH 32 73 ?_ rfl rfl (by kernel_rfl) (by kernel_rfl) (by kernel_rfl) (fun _ _ _ h => h) (Or.inl ⟨by kernel_rfl, ?_⟩) hS ?_; rotate_left; (intro w' hw; skip; first | (go_simp; done) | (go_simp; with_reducible rfl)); rotate_left
  try simp only [List.setIfInBounds_toArray, List.set_cons_zero, List.set_cons_succ]
  refine takeH 33 74 ?_ rfl rfl (by kernel_rfl) (by kernel_rfl) (by kernel_rfl) (fun _ _ _ h => h) (Or.inl ⟨by kernel_rfl, ?_⟩) hS ?_; rotate_left; (intro w' hw; skip; first | (go_simp; done) | (go_simp; with_reducible rfl)); rotate_left
  try simp only [List.setIfInBounds_toArray, List.set_cons_zero, List.set_cons_succ]
  refine takeH 34 75 ?_ rfl rfl (by kernel_rfl) (by kernel_rfl) (by kernel_rfl) (fun _ _ _ h => h) (Or.inl ⟨by kernel_rfl, ?_⟩) hS ?_; rotate_left; (intro w' hw; obtain ⟨z0, z1⟩ := HC.out _ hw; first | (go_simp; done) | (go_simp; with_reducible rfl)); rotate_left
  try simp only [List.setIfInBounds_toArray, List.set_cons_zero, List.set_cons_succ]
  refine wpAnyH_ready (rs := [30]) (by kernel_rfl) (by simp) ?_; refine AllReadyH.cons rfl (fun K hK => ?_) AllReadyH.nil; go_simp; go_wp2_with (go_at_call 19; (with_reducible refine (K4.out _ hS).mono ?_); rintro e wA ⟨rfl, hT⟩; replace hS := hT; clear hT); refine hK.out _ _ ?_ (fun _ => ?_); (exact hS); clear hK K
  refine takeH 35 76 ?_ rfl rfl (by kernel_rfl) (by kernel_rfl) (by kernel_rfl) (fun _ _ _ h => h) (Or.inl ⟨by kernel_rfl, ?_⟩) hS ?_; rotate_left; (intro w' hw; skip; first | (go_simp; done) | (go_simp; with_reducible rfl)); rotate_left
  try simp only [List.setIfInBounds_toArray, List.set_cons_zero, List.set_cons_succ]
  refine takeH 36 77 ?_ rfl rfl (by kernel_rfl) (by kernel_rfl) (by kernel_rfl) (fun _ _ _ h => h) (Or.inl ⟨by kernel_rfl, ?_⟩) hS ?_; rotate_left; (intro w' hw; skip; first | (go_simp; done) | (go_simp; with_reducible rfl)); rotate_left
  try simp only [List.setIfInBounds_toArray, List.set_cons_zero, List.set_cons_succ]
  refine takeH 37 6 ?_ rfl rfl (by kernel_rfl) (by kernel_rfl) (by kernel_rfl) (fun _ _ _ h => h) (Or.inl ⟨by kernel_rfl, ?_⟩) hS ?_; rotate_left; (intro w' hw; skip; first | (go_simp; done) | (go_simp; with_reducible rfl)); rotate_left
  try simp only [List.setIfInBounds_toArray, List.set_cons_zero, List.set_cons_succ]
  refine wpAnyH_done (by kernel_rfl) ?_ _
  go_wp2
  go_ret
  exact ⟨rfl, hS, hS.size⟩
end Go.Proofs.Ytmglpjbikknjgaa
