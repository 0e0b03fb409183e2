/-
  A queue: Push walks.
-/
import Derived.Test.YtgeoebodlcbebaaFifoD
namespace Go.Proofs.Ytgeoebodlcbebaa
open Go.RowKit
open Ff (Nd)
set_option linter.unusedVariables false

theorem QIs.asks {r : Value} {B P : Nat} {l : List Ff.E} {F : Nat → Prop} {w w' : World} {e : Ending} (he : e = .returned r) (h : QIs w B P l F) (hb : Below w.heap.size w w') : RetQ r B P l F w e w' :=
  ⟨he, ⟨F, h.below hb, fun k hk => Or.inl hk⟩, Chg.of_below hb⟩
theorem RetQ.drew {r : Value} {B P : Nat} {l : List Ff.E} {F : Nat → Prop} {w w' : World} {e : Ending} (h : RetQ r B P l F w e w') : RetQ r B P l F w e w'.drew := by
  obtain ⟨F', h1, h2⟩ := h.s
  exact ⟨h.r, ⟨F', h1.keep (fun _ _ => rfl), h2⟩, h.c.drew⟩
set_option maxRecDepth 100000 in
set_option maxHeartbeats 1000000 in
theorem pushBad (B P : Nat) (l : List Ff.E) (F : Nat → Prop) (id co : Int) (w : World) (h : QIs w B P l F) (hb : Ff.bad id co = true) :
    Calls Try.prog 36 #[.pointer (some ⟨P, 0, none⟩), .agg #[.int .i64 id, .int .i64 co]] w (RetQ (.int .i64 1) B P l F w) := by
  have H := Lib.hid (h.asks (r := .int .i64 1) rfl ((Below.refl w.heap.size w).alloc (Nat.le_refl _) (itO id co)))
  clear h
  by_cases h1 : id < 1
  · have t1 : decide (id < 1) = true := decide_eq_true h1
    clear hb h1
    go_enter Try.func36, Try.ntmps36
    go_wp2
    go_ret
    exact H.out
  · have t1 : decide (id < 1) = false := decide_eq_false h1
    by_cases h2 : co < 1
    · have t2 : decide (co < 1) = true := decide_eq_true h2
      clear hb h1 h2
      go_enter Try.func36, Try.ntmps36
      go_wp2
      go_ret
      exact H.out
    · have t2 : decide (co < 1) = false := decide_eq_false h2
      have h3 : 64 < co := by simpa [Ff.bad, t1, t2] using hb
      have t3 : decide (64 < co) = true := decide_eq_true h3
      clear hb h1 h2 h3
      go_enter Try.func36, Try.ntmps36
      go_wp2
      go_ret
      exact H.out
set_option maxRecDepth 100000 in
set_option maxHeartbeats 1000000 in
theorem pushThere (B P : Nat) (l : List Ff.E) (F : Nat → Prop) (id co : Int) (w : World) (h : QIs w B P l F) (hid : (Lit.int .i64 id).wf = true) (hb : Ff.bad id co = false) (hh : Ff.has l id = true) :
    Calls Try.prog 36 #[.pointer (some ⟨P, 0, none⟩), .agg #[.int .i64 id, .int .i64 co]] w (RetQ (.int .i64 8) B P l F w) := by
  have hbx := (Below.refl w.heap.size w).alloc (Nat.le_refl _) (itO id co)
  have K := Lib.hid (hasC B P l F id _ (h.below hbx) hid)
  rw [hh] at K
  have H := Lib.hid (h.asks (r := .int .i64 8) rfl hbx)
  obtain ⟨b1, b2, b3⟩ := Ff.bad_no hb
  have t1 : decide (id < 1) = false := decide_eq_false (by omega)
  have t2 : decide (co < 1) = false := decide_eq_false (by omega)
  have t3 : decide (64 < co) = false := decide_eq_false (by omega)
  clear h hb hh hbx b1 b2 b3
  go_enter Try.func36, Try.ntmps36
  go_wp2_with (go_at_call 55; (with_reducible refine K.out.mono ?_); rintro e wA ⟨rfl, rfl⟩)
  go_ret
  exact H.out
theorem pq_join {w0 : World} {F : Nat → Prop} {P m X : Nat} {c id co : Int} {ns : List Nd} {aft bef : Int → Int} (u v : Int) (W : World) (h : PQ w0 F P m X c id co ns aft bef W) (hu : u ∈ ns.map (·.id)) (hv : v ∈ ns.map (·.id)) :
    Calls Try.prog 56 #[.pointer (some ⟨P, 0, none⟩), .int .i64 u, .int .i64 v] W fun e W' => e = .returned (.tuple #[]) ∧ PQ w0 F P m X c id co ns (Ff.upd aft u v) (Ff.upd bef v u) W' := by
  obtain ⟨x, hx, rfl⟩ := List.mem_map.1 hu
  obtain ⟨y, hy, rfl⟩ := List.mem_map.1 hv
  exact (joinC P m c ns aft bef x y W h.j hx hy).mono fun e W' hr => ⟨hr.e, h.join hr⟩
theorem PQ.cost {w0 : World} {F : Nat → Prop} {P m X : Nat} {c id co : Int} {ns : List Nd} {aft bef : Int → Int} {W : World} (h : PQ w0 F P m X c id co ns aft bef W) (c' : Int) : PQ w0 F P m X c' id co ns aft bef (W.setCell ⟨P, 1, none⟩ (.int .i64 c')) :=
  ⟨h.j.cost c', (Below.heap_setCell _ _ _ _ (fun e => h.xn (Or.inl e))).trans h.x, h.xn, h.c.setCell (p := ⟨P, 1, none⟩) (h.f P (Or.inl rfl)) _, h.f⟩
set_option maxRecDepth 100000 in
set_option maxHeartbeats 4000000 in
theorem pushNew (B P : Nat) (l : List Ff.E) (F : Nat → Prop) (id co : Int) (w : World) (h : QIs w B P l F) (hid : (Lit.int .i64 id).wf = true) (hb : Ff.bad id co = false) (hh : Ff.has l id = false) (hl : l.length ≤ 1000000) (hB : B ≤ w.heap.size) :
    Calls Try.prog 36 #[.pointer (some ⟨P, 0, none⟩), .agg #[.int .i64 id, .int .i64 co]] w (RetQ (.int .i64 0) B P (l ++ [(id, co)]) F w) := by
  have hbx := (Below.refl w.heap.size w).alloc (Nat.le_refl _) (itO id co)
  have K := Lib.hid (hasC B P l F id _ (h.below hbx) hid)
  rw [hh] at K
  obtain ⟨b1, b2, b3⟩ := Ff.bad_no hb
  have b4 := (wf_i64 hid).2
  have t1 : decide (id < 1) = false := decide_eq_false (by omega)
  have t2 : decide (co < 1) = false := decide_eq_false (by omega)
  have t3 : decide (64 < co) = false := decide_eq_false (by omega)
  obtain ⟨m, s, ns, aft, bef, h1, h2, rfl, h4, h5, h6⟩ := h
  have hcb := Ff.cost_bound h4.co
  have hnew : ∀ n ∈ ns, n.id ≠ id := fun n hn => Ff.has_no.1 hh n.kv (List.mem_map.2 ⟨n, hn, rfl⟩)
  have hnl : ns.length ≤ 1000000 := by simpa using hl
  have hnew1 : ∀ n ∈ (⟨s, 0, 0⟩ :: ns : List Nd), n.id ≠ id := fun n hn => by
    rcases List.mem_cons.1 hn with e | e
    · subst e; show (0 : Int) ≠ id; omega
    · exact hnew n e
  have hxr : id ∉ (0 : Int) :: ns.map (·.id) := by
    intro hm
    rcases List.mem_cons.1 hm with e | e
    · omega
    · obtain ⟨n, hn, e⟩ := List.mem_map.1 e
      exact hnew n hn e
  have hpi := h2.bef_in
  have hpush := h2.push hxr
  have hpne : bef 0 ≠ id := fun e => hxr (by rw [← e]; exact hpi)
  have hP1 : PQ w F P m w.heap.size (Ff.cost (ns.map Nd.kv)) id co (⟨s, 0, 0⟩ :: ns) aft bef (w.alloc (itO id co)) := ⟨h1.grown _, heap_alloc_new _ _, fun hf => by have := h1.lt _ hf; omega, Chg.of_below hbx, fun k hk => Or.inl ((h5 k).2 hk)⟩
  have hgood := h4.push b1 b4 b2 b3 (fun e he => by obtain ⟨n, hn, rfl⟩ := List.mem_map.1 he; exact hnew n hn)
  have hfin : ∀ b W, PQ w F P m w.heap.size (Ff.cost (ns.map Nd.kv) + co) id co (⟨b, id, co⟩ :: ⟨s, 0, 0⟩ :: ns) (Ff.upd (Ff.upd (Ff.upd aft id 0) (bef 0) id) id 0) (Ff.upd (Ff.upd (Ff.upd bef id 0) id (bef 0)) 0 id) W → RetQ (.int .i64 0) B P (ns.map Nd.kv ++ [(id, co)]) F w (.returned (.int .i64 0)) W := by
    intro b W hQ
    have hp : (⟨b, id, co⟩ :: ⟨s, 0, 0⟩ :: ns : List Nd).Perm (⟨s, 0, 0⟩ :: (ns ++ [⟨b, id, co⟩])) := by
      refine (List.Perm.swap _ _ _).trans (List.Perm.cons _ ?_)
      exact (List.perm_append_singleton _ _).symm
    have e1 : Ff.cost (ns.map Nd.kv ++ [(id, co)]) = Ff.cost (ns.map Nd.kv) + co := by rw [Ff.cost_append]; simp [Ff.cost]
    refine ⟨rfl, ⟨footJ P m (⟨s, 0, 0⟩ :: (ns ++ [⟨b, id, co⟩])), ⟨m, s, ns ++ [⟨b, id, co⟩], _, _, by rw [e1]; exact hQ.j.perm hp, ?_, by simp [Nd.kv], hgood, fun k => Iff.rfl, ?_⟩, ?_⟩, hQ.c⟩
    · rw [List.map_append]
      refine hpush.congr (fun x hx => ?_) (fun x hx => ?_)
      · unfold Ff.upd
        by_cases e : x = id
        · simp [e]
        · simp [e]
      · unfold Ff.upd
        by_cases e : x = 0
        · simp [e]
        · by_cases e2 : x = id
          · simp [e2]
          · simp [e, e2]
    · intro k hk
      have hk2 : footJ P m (⟨b, id, co⟩ :: ⟨s, 0, 0⟩ :: ns) k := by
        rcases hk with e | e | e
        · exact Or.inl e
        · exact Or.inr (Or.inl e)
        · exact Or.inr (Or.inr ((hp.map _).mem_iff.2 e))
      rcases hQ.f k hk2 with e | e
      · exact h6 k e
      · omega
    · intro k hk
      refine hQ.f k ?_
      rcases hk with e | e | e
      · exact Or.inl e
      · exact Or.inr (Or.inl e)
      · exact Or.inr (Or.inr ((hp.map _).mem_iff.2 e))
  have hbef0 : Ff.upd bef id 0 0 = bef 0 := Ff.upd_other _ _ (by omega)
  have J1 := Lib.hid (fun (b : Nat) (W : World) (hQ : PQ w F P m w.heap.size (Ff.cost (ns.map Nd.kv)) id co (⟨b, id, co⟩ :: ⟨s, 0, 0⟩ :: ns) (Ff.upd aft id 0) (Ff.upd bef id 0) W) => pq_join (bef 0) id W hQ (by simp only [List.map_cons, List.mem_cons] at hpi ⊢; exact Or.inr hpi) (by simp))
  have J2 := Lib.hid (fun (b : Nat) (W : World) (hQ : PQ w F P m w.heap.size (Ff.cost (ns.map Nd.kv)) id co (⟨b, id, co⟩ :: ⟨s, 0, 0⟩ :: ns) (Ff.upd (Ff.upd aft id 0) (bef 0) id) (Ff.upd (Ff.upd bef id 0) id (bef 0)) W) => pq_join id 0 W hQ (by simp) (by simp))
  have HS1 := Lib.hid (fun (W : World) (hw : W.heap[P]? = some (quO m (Ff.cost (ns.map Nd.kv))) ∧ W.heap[w.heap.size]? = some (itO id co)) => (show W.cell? ⟨P, 0, none⟩ = some (.map (some m)) ∧ W.cell? ⟨w.heap.size, 0, none⟩ = some (.int .i64 id) ∧ W.cell? ⟨w.heap.size, 1, none⟩ = some (.int .i64 co) from ⟨by rw [cell_of_row W _ _ _ _ _ hw.1]; rfl, by rw [cell_of_row W _ _ _ _ _ hw.2]; rfl, by rw [cell_of_row W _ _ _ _ _ hw.2]; rfl⟩))
  have HS2 := Lib.hid (fun (W : World) (hw : ∃ b aft' bef', PQ w F P m w.heap.size (Ff.cost (ns.map Nd.kv)) id co (⟨b, id, co⟩ :: ⟨s, 0, 0⟩ :: ns) aft' bef' W ∧ bef' 0 = bef 0) => (show W.cell? ⟨P, 0, none⟩ = some (.map (some m)) ∧ (Instr.lookup 105 (.map (some m)) (.int .i64 0) false).run Try.prog W = .ok (.pointer (some ⟨s, 0, none⟩)) W ∧ W.cell? ⟨s, 2, none⟩ = some (.int .i64 (bef 0)) ∧ W.cell? ⟨w.heap.size, 0, none⟩ = some (.int .i64 id) ∧ W.cell? ⟨w.heap.size, 1, none⟩ = some (.int .i64 co) from by
    obtain ⟨b, aft', bef', hw, hbef0'⟩ := hw
    have g := (hw.j.n0 (n := ⟨s, 0, 0⟩) (by simp)).2.2.1
    rw [hbef0'] at g
    exact ⟨hw.j.c0, hw.j.look (n := ⟨s, 0, 0⟩) (by simp), g, hw.xs.1, hw.xs.2⟩))
  have HPUT := Lib.hid (fun (W : World) (hQ : PQ w F P m w.heap.size (Ff.cost (ns.map Nd.kv)) id co (⟨s, 0, 0⟩ :: ns) aft bef W) (W1 W3 : World) hW1 hM hc => hQ.put (W1 := W1) (W3 := W3) hW1 hM hc ⟨by omega, b4⟩ hnew1)
  have HMAP := Lib.hid (fun (W : World) (hQ : PQ w F P m w.heap.size (Ff.cost (ns.map Nd.kv)) id co (⟨s, 0, 0⟩ :: ns) aft bef W) => hQ.j.map)
  have HTWO := Lib.hid (fun (W : World) (hQ : PQ w F P m w.heap.size (Ff.cost (ns.map Nd.kv)) id co (⟨s, 0, 0⟩ :: ns) aft bef W) => (show W.heap[P]? = some (quO m (Ff.cost (ns.map Nd.kv))) ∧ W.heap[w.heap.size]? = some (itO id co) from ⟨hQ.j.tab, hQ.x⟩))
  have HS3 := Lib.hid (fun (b : Nat) (W : World) (hw : PQ w F P m w.heap.size (Ff.cost (ns.map Nd.kv)) id co (⟨b, id, co⟩ :: ⟨s, 0, 0⟩ :: ns) (Ff.upd aft id 0) (Ff.upd bef id 0) W) => (show ∃ b aft' bef', PQ w F P m w.heap.size (Ff.cost (ns.map Nd.kv)) id co (⟨b, id, co⟩ :: ⟨s, 0, 0⟩ :: ns) aft' bef' W ∧ bef' 0 = bef 0 from ⟨b, _, _, hw, hbef0⟩))
  have HS4 := Lib.hid (fun (b : Nat) (W : World) (hw : PQ w F P m w.heap.size (Ff.cost (ns.map Nd.kv)) id co (⟨b, id, co⟩ :: ⟨s, 0, 0⟩ :: ns) (Ff.upd (Ff.upd aft id 0) (bef 0) id) (Ff.upd (Ff.upd bef id 0) id (bef 0)) W) => (show ∃ b aft' bef', PQ w F P m w.heap.size (Ff.cost (ns.map Nd.kv)) id co (⟨b, id, co⟩ :: ⟨s, 0, 0⟩ :: ns) aft' bef' W ∧ bef' 0 = bef 0 from ⟨b, _, _, hw, by rw [Ff.upd_other _ _ (by omega), Ff.upd_other _ _ (by omega)]⟩))
  have HCST := Lib.hid (fun (b : Nat) (W : World) (hw : PQ w F P m w.heap.size (Ff.cost (ns.map Nd.kv)) id co (⟨b, id, co⟩ :: ⟨s, 0, 0⟩ :: ns) (Ff.upd (Ff.upd (Ff.upd aft id 0) (bef 0) id) id 0) (Ff.upd (Ff.upd (Ff.upd bef id 0) id (bef 0)) 0 id) W) => hfin b _ (hw.cost (Ff.cost (ns.map Nd.kv) + co)))
  have HZ : Hid ((w.alloc (itO id co)).heap.size = w.heap.size + 1) := Lib.hid (by simp)
  have hbx2 : ((w.alloc (itO id co)).alloc (lkO id co 0 0)).drew.heap[P]? = some (quO m (Ff.cost (ns.map Nd.kv))) ∧ ((w.alloc (itO id co)).alloc (lkO id co 0 0)).drew.heap[w.heap.size]? = some (itO id co) := by
    have hz : (w.alloc (itO id co)).heap.size = w.heap.size + 1 := by simp
    have g := HTWO.out _ hP1
    exact ⟨(Lib.alloc_old _ _ _ (lt_block g.1)).trans g.1, (Lib.alloc_old _ _ _ (by omega)).trans g.2⟩
  have hbx3 : MapL ((w.alloc (itO id co)).alloc (lkO id co 0 0)).drew m (⟨s, 0, 0⟩ :: ns) := (HMAP.out _ hP1).keep (Lib.alloc_old _ _ _ (HMAP.out _ hP1).lt)
  have HBX := Lib.hid (And.intro hbx2 hbx3)
  clear hbx2 hbx3

  have HQ := Lib.hid hP1
  have HW := Lib.hid hid
  have HN1 := Lib.hid hnew1
  have HL1 : Hid ((⟨s, 0, 0⟩ :: ns : List Nd).length ≤ 1000001) := Lib.hid (by simp; omega)
  have hcs : Ff.cost (ns.map Nd.kv) ≤ 64000000 := by have : ((ns.map Nd.kv).length : Int) ≤ 1000000 := by omega
                                                     omega
  have hc0 := hcb.1
  clear h1 h2 h4 h5 h6 hb hh hbx hcb hnew hxr hpi hpush hpne hP1 hgood hfin hbef0 hid hl hnl b1 b4 hnew1 hB
  generalize hcc : Ff.cost (ns.map Nd.kv) = c at *
  clear hcc
  go_enter Try.func36, Try.ntmps36
  go_upto_region 7 with (go_at_call 55; (with_reducible refine K.out.mono ?_); rintro e wA ⟨rfl, rfl⟩)
  refine wp_region_any (by kernel_rfl) ?_
  change wpAny _ _ _ _ _ _ _ (World.drew _)
  refine wpAny_of_held (S := fun W => W.heap[P]? = some (quO m c) ∧ W.heap[w.heap.size]? = some (itO id co)) _ _ _ _ ?_
  have hS := HTWO.out _ HQ.out.drew
  refine takeH 0 24 ?_ rfl rfl (by kernel_rfl) (by kernel_rfl) (by kernel_rfl) (fun _ _ _ h => h) (Or.inl ⟨by kernel_rfl, ?_⟩) hS ?_; rotate_left; (intro w' hw; skip; first | (go_simp; done) | (go_simp; with_reducible rfl)); rotate_left
  try simp only [List.setIfInBounds_toArray, List.set_cons_zero, List.set_cons_succ]
  refine takeH 1 25 ?_ rfl rfl (by kernel_rfl) (by kernel_rfl) (by kernel_rfl) (fun _ _ _ h => h) (Or.inl ⟨by kernel_rfl, ?_⟩) hS ?_; rotate_left; (intro w' hw; skip; first | (go_simp; done) | (go_simp; with_reducible rfl)); rotate_left
  try simp only [List.setIfInBounds_toArray, List.set_cons_zero, List.set_cons_succ]
  refine takeH 2 26 ?_ rfl rfl (by kernel_rfl) (by kernel_rfl) (by kernel_rfl) (fun _ _ _ h => h) (Or.inl ⟨by kernel_rfl, ?_⟩) hS ?_; rotate_left; (intro w' hw; skip; first | (go_simp; done) | (go_simp; with_reducible rfl)); rotate_left
  try simp only [List.setIfInBounds_toArray, List.set_cons_zero, List.set_cons_succ]
  refine takeH 3 27 ?_ rfl rfl (by kernel_rfl) (by kernel_rfl) (by kernel_rfl) (fun _ _ _ h => h) (Or.inl ⟨by kernel_rfl, ?_⟩) hS ?_; rotate_left; (intro w' hw; obtain ⟨z0, z1, z2⟩ := HS1.out _ hw; first | (go_simp; done) | (go_simp; with_reducible rfl)); rotate_left
  try simp only [List.setIfInBounds_toArray, List.set_cons_zero, List.set_cons_succ]
  refine takeH 4 28 ?_ rfl rfl (by kernel_rfl) (by kernel_rfl) (by kernel_rfl) (fun _ _ _ h => h) (Or.inl ⟨by kernel_rfl, ?_⟩) hS ?_; rotate_left; (intro w' hw; skip; first | (go_simp; done) | (go_simp; with_reducible rfl)); rotate_left
  try simp only [List.setIfInBounds_toArray, List.set_cons_zero, List.set_cons_succ]
  refine takeH 5 29 ?_ rfl rfl (by kernel_rfl) (by kernel_rfl) (by kernel_rfl) (fun _ _ _ h => h) (Or.inl ⟨by kernel_rfl, ?_⟩) hS ?_; rotate_left; (intro w' hw; obtain ⟨z0, z1, z2⟩ := HS1.out _ hw; first | (go_simp; done) | (go_simp; with_reducible rfl)); rotate_left
  try simp only [List.setIfInBounds_toArray, List.set_cons_zero, List.set_cons_succ]
  refine takeH 6 30 ?_ rfl rfl (by kernel_rfl) (by kernel_rfl) (by kernel_rfl) (fun _ _ _ h => h) (Or.inl ⟨by kernel_rfl, ?_⟩) hS ?_; rotate_left; (intro w' hw; obtain ⟨z0, z1, z2⟩ := HS1.out _ hw; first | (go_simp; done) | (go_simp; with_reducible rfl)); rotate_left
  try simp only [List.setIfInBounds_toArray, List.set_cons_zero, List.set_cons_succ]
  refine takeH 7 31 ?_ rfl rfl (by kernel_rfl) (by kernel_rfl) (by kernel_rfl) (fun _ _ _ h => h) (Or.inl ⟨by kernel_rfl, ?_⟩) hS ?_; rotate_left; (intro w' hw; skip; first | (go_simp; done) | (go_simp; with_reducible rfl)); rotate_left
  try simp only [List.setIfInBounds_toArray, List.set_cons_zero, List.set_cons_succ]
  refine wpAnyH_ready (rs := [8]) (by kernel_rfl) (by simp) ?_; refine AllReadyH.cons rfl (fun K2 hK => ?_) AllReadyH.nil; go_simp; refine hK.out _ _ ?_ (fun _ => ?_); (exact HBX.out.1); clear hK K2; replace hS := HBX.out.1
  refine wpAnyH_ready (rs := [9]) (by kernel_rfl) (by simp) ?_; refine AllReadyH.cons rfl (fun K2 hK => ?_) AllReadyH.nil; rw [if_pos (by kernel_rfl)]; refine wp_putL _ _ _ _ rfl m (⟨s, 0, 0⟩ :: ns) rfl HBX.out.2 ⟨w.heap.size + 1, id, co⟩ rfl rfl HW.out HL1.out HN1.out ?_; intro w3 hm3 hc3; have hQ3 := Lib.hid (HPUT.out _ HQ.out _ w3 (Or.inl rfl) (by rw [HZ.out]; exact hm3) hc3); refine hK.out _ _ ⟨hQ3.out.j.tab, hQ3.out.x⟩ (fun _ => ?_); clear hK K2 hm3 hc3
  refine wpAnyH_done (by kernel_rfl) ?_ _
  simp only [Act.put, List.getElem_toArray, List.getElem_cons_zero, List.getElem_cons_succ]
  clear hS HBX HTWO HPUT HMAP HN1 HL1 HW HQ HS1 K
  rw [HZ.out] at hQ3
  generalize w.heap.size + 1 = nb at *
  go_upto_region 8 with fail
  refine wp_region_any (by kernel_rfl) ?_
  change wpAny _ _ _ _ _ _ _ (World.drew _)
  refine wpAny_of_held (S := fun W => ∃ b aft' bef', PQ w F P m w.heap.size c id co (⟨b, id, co⟩ :: ⟨s, 0, 0⟩ :: ns) aft' bef' W ∧ bef' 0 = bef 0) _ _ _ _ ?_
  replace hQ3 := Lib.hid hQ3.out.drew
  have hS := HS3.out nb _ hQ3.out
  refine takeH 0 33 ?_ rfl rfl (by kernel_rfl) (by kernel_rfl) (by kernel_rfl) (fun _ _ _ h => h) (Or.inl ⟨by kernel_rfl, ?_⟩) hS ?_; rotate_left; (intro w' hw; skip; first | (go_simp; done) | (go_simp; with_reducible rfl)); rotate_left
  try simp only [List.setIfInBounds_toArray, List.set_cons_zero, List.set_cons_succ]
  refine takeH 1 34 ?_ rfl rfl (by kernel_rfl) (by kernel_rfl) (by kernel_rfl) (fun _ _ _ h => h) (Or.inl ⟨by kernel_rfl, ?_⟩) hS ?_; rotate_left; (intro w' hw; skip; first | (go_simp; done) | (go_simp; with_reducible rfl)); rotate_left
  try simp only [List.setIfInBounds_toArray, List.set_cons_zero, List.set_cons_succ]
  refine takeH 2 35 ?_ rfl rfl (by kernel_rfl) (by kernel_rfl) (by kernel_rfl) (fun _ _ _ h => h) (Or.inl ⟨by kernel_rfl, ?_⟩) hS ?_; rotate_left; (intro w' hw; skip; first | (go_simp; done) | (go_simp; with_reducible rfl)); rotate_left
  try simp only [List.setIfInBounds_toArray, List.set_cons_zero, List.set_cons_succ]
  refine takeH 3 36 ?_ rfl rfl (by kernel_rfl) (by kernel_rfl) (by kernel_rfl) (fun _ _ _ h => h) (Or.inl ⟨by kernel_rfl, ?_⟩) hS ?_; rotate_left; (intro w' hw; skip; first | (go_simp; done) | (go_simp; with_reducible rfl)); rotate_left
  try simp only [List.setIfInBounds_toArray, List.set_cons_zero, List.set_cons_succ]
  refine takeH 4 37 ?_ rfl rfl (by kernel_rfl) (by kernel_rfl) (by kernel_rfl) (fun _ _ _ h => h) (Or.inl ⟨by kernel_rfl, ?_⟩) hS ?_; rotate_left; (intro w' hw; obtain ⟨z0, z1, z2, z3, z4⟩ := HS2.out _ hw; first | (go_simp; done) | (go_simp; with_reducible rfl)); rotate_left
  try simp only [List.setIfInBounds_toArray, List.set_cons_zero, List.set_cons_succ]
  refine takeH 5 38 ?_ rfl rfl (by kernel_rfl) (by kernel_rfl) (by kernel_rfl) (fun _ _ _ h => h) (Or.inl ⟨by kernel_rfl, ?_⟩) hS ?_; rotate_left; (intro w' hw; obtain ⟨z0, z1, z2, z3, z4⟩ := HS2.out _ hw; first | (go_simp; done) | (go_simp; with_reducible rfl)); rotate_left
  try simp only [List.setIfInBounds_toArray, List.set_cons_zero, List.set_cons_succ]
  refine takeH 6 39 ?_ rfl rfl (by kernel_rfl) (by kernel_rfl) (by kernel_rfl) (fun _ _ _ h => h) (Or.inl ⟨by kernel_rfl, ?_⟩) hS ?_; rotate_left; (intro w' hw; skip; first | (go_simp; done) | (go_simp; with_reducible rfl)); rotate_left
  try simp only [List.setIfInBounds_toArray, List.set_cons_zero, List.set_cons_succ]
  refine takeH 7 40 ?_ rfl rfl (by kernel_rfl) (by kernel_rfl) (by kernel_rfl) (fun _ _ _ h => h) (Or.inl ⟨by kernel_rfl, ?_⟩) hS ?_; rotate_left; (intro w' hw; skip; first | (go_simp; done) | (go_simp; with_reducible rfl)); rotate_left
  try simp only [List.setIfInBounds_toArray, List.set_cons_zero, List.set_cons_succ]
  refine takeH 8 41 ?_ rfl rfl (by kernel_rfl) (by kernel_rfl) (by kernel_rfl) (fun _ _ _ h => h) (Or.inl ⟨by kernel_rfl, ?_⟩) hS ?_; rotate_left; (intro w' hw; obtain ⟨z0, z1, z2, z3, z4⟩ := HS2.out _ hw; first | (go_simp; done) | (go_simp; with_reducible rfl)); rotate_left
  try simp only [List.setIfInBounds_toArray, List.set_cons_zero, List.set_cons_succ]
  refine takeH 9 42 ?_ rfl rfl (by kernel_rfl) (by kernel_rfl) (by kernel_rfl) (fun _ _ _ h => h) (Or.inl ⟨by kernel_rfl, ?_⟩) hS ?_; rotate_left; (intro w' hw; skip; first | (go_simp; done) | (go_simp; with_reducible rfl)); rotate_left
  try simp only [List.setIfInBounds_toArray, List.set_cons_zero, List.set_cons_succ]
  refine takeH 10 43 ?_ rfl rfl (by kernel_rfl) (by kernel_rfl) (by kernel_rfl) (fun _ _ _ h => h) (Or.inl ⟨by kernel_rfl, ?_⟩) hS ?_; rotate_left; (intro w' hw; obtain ⟨z0, z1, z2, z3, z4⟩ := HS2.out _ hw; first | (go_simp; done) | (go_simp; with_reducible rfl)); rotate_left
  try simp only [List.setIfInBounds_toArray, List.set_cons_zero, List.set_cons_succ]
  refine wpAnyH_ready (rs := [11]) (by kernel_rfl) (by simp) ?_; refine AllReadyH.cons rfl (fun K2 hK => ?_) AllReadyH.nil; go_simp; go_wp2_with (go_at_call 56; (with_reducible refine (J1.out nb _ hQ3.out).mono ?_); rintro e wB ⟨rfl, hB⟩; have HB2 := Lib.hid hB; clear hB); refine hK.out _ _ ?_ (fun _ => ?_); (exact HS4.out nb _ HB2.out); clear hK K2
  refine wpAnyH_done (by kernel_rfl) ?_ _
  clear hS hQ3 HS2 HS3 HS4 J1
  have z0 := HB2.out.xs.1
  go_upto_region 10 with (go_at_call 56; (with_reducible refine (J2.out nb _ HB2.out).mono ?_); rintro e wC ⟨rfl, hC⟩; have HC3 := Lib.hid hC; clear hC)
  obtain ⟨y0, y1⟩ := HC3.out.xs
  have y2 := HC3.out.j.c1
  have y3 := HC3.out.j.fr 1
  have HE := Lib.hid (HCST.out nb _ HC3.out)
  have hwr : IntKind.i64.wrap (c + co) = c + co := by rw [IntKind.wrap_i64]; omega
  go_region
  go_wp2
  go_ret
  exact HE.out.drew
theorem pushC (B P : Nat) (l : List Ff.E) (F : Nat → Prop) (id co : Int) (w : World) (h : QIs w B P l F) (hid : (Lit.int .i64 id).wf = true) (hl : l.length ≤ 1000000) (hB : B ≤ w.heap.size) :
    Calls Try.prog 36 #[.pointer (some ⟨P, 0, none⟩), .agg #[.int .i64 id, .int .i64 co]] w (RetQ (.int .i64 (Ff.pushE l id co)) B P (Ff.pushL l id co) F w) := by
  unfold Ff.pushE Ff.pushL
  cases hb : Ff.bad id co with
  | true => exact pushBad B P l F id co w h hb
  | false =>
    cases hh : Ff.has l id with
    | true => exact pushThere B P l F id co w h hid hb hh
    | false => exact pushNew B P l F id co w h hid hb hh hl hB
end Go.Proofs.Ytgeoebodlcbebaa
