/-
  What each call of the two sets returns and leaves, by one function each; the program's set alone; the page's example.
-/
import Derived.Test.YtmmfmpnkjienfaaDuV
namespace Go.Proofs.Ytmmfmpnkjienfaa
open Go.RowKit
set_option linter.unusedVariables false

/-- the first that is due -/
def firstDue (l : List Wh.E) (to_ : Int) : Option Wh.E := match Wh.firstOf l with
  | some x => if x.2 ≤ to_ then some x else none
  | none => none
def tickF (now : Int) : Option Wh.E → Int
  | none => now
  | some x => later now x.2
def restF (l : List Wh.E) : Option Wh.E → List Wh.E
  | none => l
  | some x => Wh.without l x.1
def setR (k i : Int) : Int := if Wh.May k i then 0 else 1
def setLL (l : List Wh.E) (k i t : Int) : List Wh.E := if Wh.May k i then Wh.setL l (Wh.key k i) t else l
def goB (l : List Wh.E) (to_ : Int) : Bool := (firstDue l to_).isNone
def tickG (l : List Wh.E) (now to_ : Int) : Int := if goB l to_ = true then later now to_ else now
theorem firstDue_none {l : List Wh.E} {to_ : Int} (h : ∀ x, Wh.firstOf l = some x → to_ < x.2) : firstDue l to_ = none := by
  unfold firstDue
  cases hf : Wh.firstOf l with
  | none => rfl
  | some x =>
    have := h x hf
    show (if x.2 ≤ to_ then some x else none) = none
    rw [if_neg (by omega)]
theorem firstDue_some {l : List Wh.E} {to_ : Int} {x : Wh.E} (h : Wh.firstOf l = some x) (hx : x.2 ≤ to_) : firstDue l to_ = some x := by
  unfold firstDue
  rw [h]
  show (if x.2 ≤ to_ then some x else none) = some x
  rw [if_pos hx]
theorem firstDue_is {l : List Wh.E} {to_ : Int} {x : Wh.E} (h : firstDue l to_ = some x) : Wh.firstOf l = some x ∧ x.2 ≤ to_ := by
  unfold firstDue at h
  cases hf : Wh.firstOf l with
  | none => rw [hf] at h; cases h
  | some y =>
    rw [hf] at h
    replace h : (if y.2 ≤ to_ then some y else none) = some x := h
    split at h
    · cases h; exact ⟨rfl, by assumption⟩
    · cases h
theorem firstDue_ends {l : List Wh.E} {to_ : Int} (h : firstDue l to_ = none) : ∀ x, Wh.firstOf l = some x → to_ < x.2 := by
  intro x hx
  rcases Int.lt_or_le to_ x.2 with h1 | h1
  · exact h1
  · rw [firstDue_some hx h1] at h; cases h

theorem dSetC (k i t : Int) (w : World) (B D : Nat) (now : Int) (l : List Wh.E) (G : Nat → Prop) (hl : l.length ≤ 900) (ht : (Lit.int .u64 t).wf = true) (h : DIs w B D now l G) :
    Calls Try.prog 15 #[.pointer (some ⟨D, 0, none⟩), .int .i64 k, .int .i64 i, .int .u64 t] w (RetW DIs (.int .i64 (setR k i)) B D now (setLL l k i t) G w) := by
  unfold setR setLL
  by_cases hm : Wh.May k i
  · rw [if_pos hm, if_pos hm]
    by_cases hf : t ≤ now
    · exact setNear k i t w B D now l G hl hm ht hf h
    · exact setFar k i t w B D now l G hl hm ht (by omega) h
  · rw [if_neg hm, if_neg hm]
    exact setBad k i t w B D now l G hm h
theorem dFirstC (to_ : Int) (w : World) (B D : Nat) (now : Int) (l : List Wh.E) (G : Nat → Prop) (hl : l.length ≤ 900) (h : DIs w B D now l G) :
    Calls Try.prog 16 #[.pointer (some ⟨D, 0, none⟩), .int .u64 to_] w (RetW DIs (firstV (firstDue l to_)) B D (tickF now (firstDue l to_)) (restF l (firstDue l to_)) G w) := by
  rcases firstC to_ w B D now l G hl h with ⟨h1, h2⟩ | ⟨x, h1, h2, h3⟩
  · rw [firstDue_none h1]; exact h2
  · rw [firstDue_some h1 h2]; exact h3
theorem dGoC (to_ : Int) (w : World) (B D : Nat) (now : Int) (l : List Wh.E) (G : Nat → Prop) (hl : l.length ≤ 900) (ht : (Lit.int .u64 to_).wf = true) (h : DIs w B D now l G) :
    Calls Try.prog 17 #[.pointer (some ⟨D, 0, none⟩), .int .u64 to_] w (RetW DIs (.bool (goB l to_)) B D (tickG l now to_) l G w) := by
  unfold tickG goB
  cases hf : firstDue l to_ with
  | none =>
    have := goYes to_ w B D now l G hl ht h (firstDue_ends hf)
    simpa using this
  | some x =>
    obtain ⟨h1, h2⟩ := firstDue_is hf
    have := goNo to_ w B D now l x G hl h h1 h2
    simpa using this
theorem rSetC (k i t now : Int) (B R : Nat) (v : Value) (l : List Wh.E) (w : World) (hl : l.length ≤ 1000000) (hn : (l.map (·.1)).Nodup) (hg : Wh.Good l) (h : RefS w B R now v l) :
    Calls Try.prog 22 #[.pointer (some ⟨R, 0, none⟩), .int .i64 k, .int .i64 i, .int .u64 t] w (RetRS (.int .i64 (setR k i)) B R now v (setLL l k i t) w) := by
  unfold setR setLL
  by_cases hm : Wh.May k i
  · rw [if_pos hm, if_pos hm]
    exact refSetYes k i t now B R v l w hl hn hg hm h
  · rw [if_neg hm, if_neg hm]
    exact refSetNo k i t now B R v l w hm h
theorem rFirstC (to_ now : Int) (B R : Nat) (v : Value) (l : List Wh.E) (w : World) (hl : l.length ≤ 1000000) (hn : (l.map (·.1)).Nodup) (h : RefS w B R now v l) :
    Calls Try.prog 24 #[.pointer (some ⟨R, 0, none⟩), .int .u64 to_] w (RetRS (firstV (firstDue l to_)) B R (tickF now (firstDue l to_)) v (restF l (firstDue l to_)) w) := by
  rcases refFirstC to_ now B R v l w hl hn h with ⟨h1, h2⟩ | ⟨x, h1, h2, h3⟩
  · rw [firstDue_none h1]; exact h2
  · rw [firstDue_some h1 h2]; exact h3
theorem rGoC (to_ now : Int) (B R : Nat) (v : Value) (l : List Wh.E) (w : World) (hl : l.length ≤ 1000000) (hn : l.Nodup) (h : RefS w B R now v l) :
    Calls Try.prog 25 #[.pointer (some ⟨R, 0, none⟩), .int .u64 to_] w (RetRS (.bool (goB l to_)) B R (tickG l now to_) v l w) := by
  unfold tickG goB
  rcases refGoC to_ now B R v l w hl hn h with ⟨h1, h2⟩ | ⟨⟨x, h1, h2⟩, h3⟩
  · rw [firstDue_none h1]; simpa using h2
  · rw [firstDue_some h1 h2]; simpa using h3
/-- lengths, distinct keys and good keys stay -/
structure OkL (l : List Wh.E) : Prop where
  nd : (l.map (·.1)).Nodup
  good : Wh.Good l
theorem OkL.nil : OkL [] := ⟨by simp, fun e he => by cases he⟩
theorem OkL.set {l : List Wh.E} (h : OkL l) {k i t : Int} (ht : (Lit.int .u64 t).wf = true) : OkL (setLL l k i t) := by
  unfold setLL
  split
  · rename_i hm
    exact ⟨Wh.nodup_set h.nd _ _, (h.good.without _).snoc hm (wf_u64 ht)⟩
  · exact h
theorem OkL.clear {l : List Wh.E} (h : OkL l) (k i : Int) : OkL (clearL l k i) := by
  unfold clearL
  split
  · exact ⟨Wh.nodup_without h.nd, h.good.without _⟩
  · exact h
theorem OkL.rest {l : List Wh.E} (h : OkL l) (o : Option Wh.E) : OkL (restF l o) := by
  cases o with
  | none => exact h
  | some x => exact ⟨Wh.nodup_without h.nd, h.good.without _⟩
theorem len_setLL (l : List Wh.E) (k i t : Int) : (setLL l k i t).length ≤ l.length + 1 := by
  unfold setLL
  split
  · exact Wh.len_set _ _ _
  · omega
theorem len_clearL (l : List Wh.E) (k i : Int) : (clearL l k i).length ≤ l.length := by
  unfold clearL
  split
  · exact List.length_filter_le _ _
  · omega
theorem len_restF (l : List Wh.E) (o : Option Wh.E) : (restF l o).length ≤ l.length := by
  cases o with
  | none => exact Nat.le_refl _
  | some x => exact List.length_filter_le _ _

theorem DIs.lt {w : World} {B D : Nat} {n : Int} {l : List Wh.E} {G : Nat → Prop} (h : DIs w B D n l G) : ∀ k, G k → B ≤ k ∧ k < w.heap.size := by
  obtain ⟨P, F, a, cap, h, rfl⟩ := h
  exact h.lt
theorem DIs.keep {w w' : World} {B D : Nat} {n : Int} {l : List Wh.E} {G : Nat → Prop} (h : DIs w B D n l G) (hs : w.heap.size ≤ w'.heap.size) (hk : ∀ k, G k → w'.heap[k]? = w.heap[k]?) : DIs w' B D n l G := by
  obtain ⟨P, F, a, cap, h, rfl⟩ := h
  exact ⟨P, F, a, cap, h.keep hs hk, rfl⟩

/-! ### the program's set alone, beside blocks that stay -/
structure SoloD (w0 : World) (D : Nat) (n : Int) (l : List Wh.E) (qs : List (Nat × Obj)) (w : World) : Prop where
  s : ∃ G, DIs w w0.heap.size D n l G ∧ ∀ q ∈ qs, ¬ G q.1
  c : ∀ q ∈ qs, w.heap[q.1]? = some q.2
  b : Below w0.heap.size w0 w
theorem SoloD.below {w0 w w' : World} {D : Nat} {n : Int} {l : List Wh.E} {qs : List (Nat × Obj)} (h : SoloD w0 D n l qs w) (hb : Below w.heap.size w w') : SoloD w0 D n l qs w' := by
  obtain ⟨G, h1, h2⟩ := h.s
  exact ⟨⟨G, h1.keep hb.size (fun k hk => hb.block k (h1.lt k hk).2), h2⟩, fun q hq => (hb.block q.1 (lt_block (h.c q hq))).trans (h.c q hq), h.b.trans (hb.mono h.b.size)⟩
theorem SoloD.box {w0 w : World} {D : Nat} {n : Int} {l : List Wh.E} {qs : List (Nat × Obj)} (h : SoloD w0 D n l qs w) (o : Obj) : SoloD w0 D n l ((w.heap.size, o) :: qs) (w.alloc o) := by
  have h' := h.below (w' := w.alloc o) ((Below.refl _ _).alloc (Nat.le_refl _) _)
  obtain ⟨G, h1, h2⟩ := h.s
  have hb : Below w.heap.size w (w.alloc o) := (Below.refl _ _).alloc (Nat.le_refl _) _
  refine ⟨⟨G, h1.keep hb.size (fun k hk => hb.block k (h1.lt k hk).2), fun q hq => ?_⟩, fun q hq => ?_, h'.b⟩
  · rcases List.mem_cons.1 hq with rfl | hq
    · intro hg; have := (h1.lt _ hg).2; simp at this
    · exact h2 q hq
  · rcases List.mem_cons.1 hq with rfl | hq
    · exact heap_alloc_new _ _
    · exact h'.c q hq
theorem SoloD.less {w0 w : World} {D : Nat} {n : Int} {l : List Wh.E} {qs ps : List (Nat × Obj)} (h : SoloD w0 D n l qs w) (hp : ∀ q ∈ ps, q ∈ qs) : SoloD w0 D n l ps w := by
  obtain ⟨G, h1, h2⟩ := h.s
  exact ⟨⟨G, h1, fun q hq => h2 q (hp q hq)⟩, fun q hq => h.c q (hp q hq), h.b⟩
theorem solo_do {w0 : World} {D : Nat} {n n' : Int} {l l' : List Wh.E} {qs : List (Nat × Obj)} {f : FuncId} {args : Array Value} {r : Value}
    (hc : ∀ w G, DIs w w0.heap.size D n l G → Calls Try.prog f args w (RetW DIs r w0.heap.size D n' l' G w)) (w : World) (h : SoloD w0 D n l qs w) : Calls Try.prog f args w fun e w' => e = .returned r ∧ SoloD w0 D n' l' qs w' := by
  obtain ⟨G, h1, h2⟩ := h.s
  refine (hc w G h1).mono fun e w' hr => ?_
  obtain ⟨G', g1, g2⟩ := hr.s
  refine ⟨hr.r, ⟨G', g1, fun q hq hg => ?_⟩, fun q hq => hr.c.keep (h.c q hq) (h2 q hq), h.b.trans (hr.c.below (fun k hk => (h1.lt k hk).1) h.b.size)⟩
  rcases g2 _ hg with e | e
  · exact h2 q hq e
  · have := lt_block (h.c q hq); omega
theorem solo_same {w0 : World} {D : Nat} {n : Int} {l : List Wh.E} {qs : List (Nat × Obj)} {f : FuncId} {args : Array Value} {r : Value}
    (hc : ∀ w P F a cap, DAt w w0.heap.size D n l (Wh.turned l n) P F a cap → Calls Try.prog f args w (Same r w)) (w : World) (h : SoloD w0 D n l qs w) : Calls Try.prog f args w (Same r w) := by
  obtain ⟨G, ⟨P, F, a, cap, h1, _⟩, _⟩ := h.s
  exact hc w P F a cap h1
theorem solo_new (w0 : World) (now : Int) (hn : (Lit.int .u64 now).wf = true) (w : World) (hb : Below w0.heap.size w0 w) : Calls Try.prog 7 #[.int .u64 now] w fun e w' => ∃ D, e = .returned (.pointer (some ⟨D, 0, none⟩)) ∧ SoloD w0 D now [] [] w' := by
  refine (dNewC now w w0.heap.size hn hb.size).mono fun e w' hr => ?_
  obtain ⟨D, G, e1, e2, e3⟩ := hr.r
  exact ⟨D, e1, ⟨G, e2, fun q hq => by cases hq⟩, fun q hq => (by cases hq), hb.trans (hr.b.mono hb.size)⟩
theorem SoloD.cells {w0 w : World} {D : Nat} {n : Int} {l : List Wh.E} {qs : List (Nat × Obj)} (h : SoloD w0 D n l qs w) {q : Nat} {x y z : Value} (hq : (q, Obj.cells #[x, y, z] 39) ∈ qs) :
    w.cell? ⟨q, 0, none⟩ = some x ∧ w.cell? ⟨q, 1, none⟩ = some y ∧ w.cell? ⟨q, 2, none⟩ = some z ∧ w.frozen? ⟨q, 0, none⟩ = false ∧ w.frozen? ⟨q, 1, none⟩ = false ∧ w.frozen? ⟨q, 2, none⟩ = false := cellsT (h.c _ hq)
theorem firstV_some {x : Wh.E} {a b c : Int} (h1 : Wh.kd x = a) (h2 : Wh.nm x = b) (h3 : x.2 = c) : firstV (some x) = .tuple #[.agg #[.int .i64 a, .int .i64 b, .int .u64 c], .bool true] := by
  subst h1 h2 h3; rfl

theorem numC (n : Int) (w : World) : Calls Try.prog 19 #[.int .i64 n] w (Same (.int .i64 n) w) := by
  go_enter Try.func19, Try.ntmps19
  go_wp2
  go_ret
  exact ⟨rfl, rfl⟩

theorem live_1 : setR 4 7 = 0 ∧ setLL [] 4 7 9 = [(Wh.key 4 7, 9)] := by decide
theorem live_2 : setR 1 8 = 0 ∧ setLL [(Wh.key 4 7, 9)] 1 8 9 = [(Wh.key 4 7, 9), (Wh.key 1 8, 9)] := by decide
theorem live_3 : firstDue [(Wh.key 4 7, 9), (Wh.key 1 8, 9)] 9 = some (Wh.key 1 8, 9) ∧ tickF 0 (some (Wh.key 1 8, 9)) = 9 ∧ restF [(Wh.key 4 7, 9), (Wh.key 1 8, 9)] (some (Wh.key 1 8, 9)) = [(Wh.key 4 7, 9)] := by decide
theorem live_4 : firstDue [(Wh.key 4 7, 9)] 9 = some (Wh.key 4 7, 9) ∧ tickF 9 (some (Wh.key 4 7, 9)) = 9 ∧ restF [(Wh.key 4 7, 9)] (some (Wh.key 4 7, 9)) = [] := by decide
theorem live_5 : Wh.kd (Wh.key 1 8, 9) = 1 ∧ Wh.nm (Wh.key 1 8, 9) = 8 ∧ Wh.kd (Wh.key 4 7, 9) = 4 ∧ Wh.nm (Wh.key 4 7, 9) = 7 := by decide
set_option maxRecDepth 100000 in
set_option maxHeartbeats 8000000 in
theorem liveOk (w : World) : Calls Try.prog 6 #[] w (Ret (.bool true) w) := by
  have K0 := Lib.hid (fun W hb => solo_new w 0 (by decide) W hb)
  have k1 := fun D W h => solo_do (w0 := w) (D := D) (qs := []) (n := 0) (l := []) (fun w' G h => dSetC 4 7 9 w' w.heap.size D 0 [] G (by decide) (by decide) h) W h
  have k2 := fun D W h => solo_do (w0 := w) (D := D) (qs := []) (n := 0) (l := [(Wh.key 4 7, 9)]) (fun w' G h => dSetC 1 8 9 w' w.heap.size D 0 _ G (by decide) (by decide) h) W h
  have k3 := fun D W qs h => solo_do (w0 := w) (D := D) (qs := qs) (n := 0) (l := [(Wh.key 4 7, 9), (Wh.key 1 8, 9)]) (fun w' G h => dFirstC 9 w' w.heap.size D 0 _ G (by decide) h) W h
  have k4 := fun D W qs h => solo_do (w0 := w) (D := D) (qs := qs) (n := 9) (l := [(Wh.key 4 7, 9)]) (fun w' G h => dFirstC 9 w' w.heap.size D 9 _ G (by decide) h) W h
  have k5 := fun D W qs h => solo_do (w0 := w) (D := D) (qs := qs) (n := 9) (l := []) (fun w' G h => dGoC 9 w' w.heap.size D 9 [] G (by decide) (by decide) h) W h
  rw [live_1.1, live_1.2] at k1
  rw [live_2.1, live_2.2] at k2
  rw [live_3.1, live_3.2.1, live_3.2.2, firstV_some (a := 1) (b := 8) (c := 9) live_5.1 live_5.2.1 rfl] at k3
  rw [live_4.1, live_4.2.1, live_4.2.2, firstV_some (a := 4) (b := 7) (c := 9) live_5.2.2.1 live_5.2.2.2 rfl] at k4
  rw [show goB [] 9 = true from by decide] at k5
  have K1 := Lib.hid k1
  have K2 := Lib.hid k2
  have K3 := Lib.hid k3
  have K4 := Lib.hid k4
  have K5 := Lib.hid k5
  have K6 := Lib.hid numC
  clear k1 k2 k3 k4 k5
  go_enter Try.func6, Try.ntmps6
  go_wp2_with (first | (go_at_call 7; (with_reducible refine (K0.out _ (Below.refl _ _)).mono ?_); rintro e wA ⟨D, rfl, hV⟩; have HV := Lib.hid hV; clear hV) | (go_at_call 15; (first | (with_reducible refine (K1.out _ _ HV.out).mono ?_) | (with_reducible refine (K2.out _ _ HV.out).mono ?_)); rintro e wA ⟨rfl, hT⟩; replace HV := Lib.hid hT; clear hT) | (go_at_call 16; (with_reducible refine (K3.out _ _ _ HV.out).mono ?_); rintro e wB ⟨rfl, hT⟩; replace HV := Lib.hid (hT.box (.cells #[.int .i64 1, .int .i64 8, .int .u64 9] 39)); clear hT) | (go_at_call 16; (with_reducible refine (K4.out _ _ _ HV.out).mono ?_); rintro e wC ⟨rfl, hT⟩; replace HV := Lib.hid (hT.box (.cells #[.int .i64 4, .int .i64 7, .int .u64 9] 39)); clear hT; obtain ⟨c0, c1, c2, _⟩ := HV.out.cells (q := wC.heap.size) List.mem_cons_self; obtain ⟨d0, d1, d2, _⟩ := HV.out.cells (q := wB.heap.size) (List.mem_cons_of_mem _ List.mem_cons_self)) | (go_at_call 19; (with_reducible refine (K6.out _ _).mono ?_); rintro e wD ⟨rfl, rfl⟩) | (go_at_call 17; (with_reducible refine (K5.out _ _ _ HV.out).mono ?_); rintro e wE ⟨rfl, hT⟩; replace HV := Lib.hid hT; clear hT))
  go_ret
  exact ⟨rfl, HV.out.b⟩
end Go.Proofs.Ytmmfmpnkjienfaa
