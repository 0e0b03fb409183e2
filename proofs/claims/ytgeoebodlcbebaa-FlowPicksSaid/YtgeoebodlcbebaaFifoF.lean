/-
  A queue: Drop, Pop.
-/
import Derived.Test.YtgeoebodlcbebaaFifoE
namespace Go.Proofs.Ytgeoebodlcbebaa
open Go.RowKit
open Ff (Nd)
set_option linter.unusedVariables false

/-- a queue beside a box that a call made for itself -/
structure QX (w : World) (B P : Nat) (l : List Ff.E) (F : Nat → Prop) (X : Nat) (W : World) : Prop where
  s : ∃ F', QIs W B P l F' ∧ (∀ k, F' k → F k ∨ w.heap.size ≤ k) ∧ ¬ F' X
  c : Chg F w W
theorem QX.set {w : World} {B P : Nat} {l : List Ff.E} {F : Nat → Prop} {X : Nat} {W : World} (h : QX w B P l F X W) (hX : w.heap.size ≤ X) (i : Nat) (u : Value) : QX w B P l F X (W.setCell ⟨X, i, none⟩ u) := by
  obtain ⟨F', h1, h2, h3⟩ := h.s
  exact ⟨⟨F', h1.keep (fun k hk => Below.heap_setCell _ _ _ _ (fun e => h3 (by rw [← show k = X from e]; exact hk))), h2, h3⟩, h.c.setCell (p := ⟨X, i, none⟩) (Or.inr hX) _⟩
theorem QX.ret {w : World} {B P : Nat} {l : List Ff.E} {F : Nat → Prop} {X : Nat} {W : World} (h : QX w B P l F X W) (r : Value) : RetQ r B P l F w (.returned r) W := by
  obtain ⟨F', h1, h2, h3⟩ := h.s
  exact ⟨rfl, ⟨F', h1, h2⟩, h.c⟩
theorem QX.drew {w : World} {B P : Nat} {l : List Ff.E} {F : Nat → Prop} {X : Nat} {W : World} (h : QX w B P l F X W) : QX w B P l F X W.drew := by
  obtain ⟨F', h1, h2, h3⟩ := h.s
  exact ⟨⟨F', h1.keep (fun _ _ => rfl), h2, h3⟩, h.c.drew⟩

set_option maxRecDepth 100000 in
set_option maxHeartbeats 1000000 in
theorem dropNone (B P : Nat) (l : List Ff.E) (F : Nat → Prop) (id : Int) (w : World) (h : QIs w B P l F) (hid : (Lit.int .i64 id).wf = true) (hh : Ff.has l id = false) :
    Calls Try.prog 41 #[.pointer (some ⟨P, 0, none⟩), .int .i64 id] w (RetQ (itemV none) B P l F w) := by
  have hbx := (Below.refl w.heap.size w).alloc (Nat.le_refl _) zeroI
  have K := Lib.hid (hasC B P l F id _ (h.below hbx) hid)
  rw [hh] at K
  have H := Lib.hid (h.asks (r := itemV none) rfl hbx)
  clear h hh hbx hid
  go_enter Try.func41, Try.ntmps41
  go_wp2_with (go_at_call 55; (with_reducible refine K.out.mono ?_); rintro e wA ⟨rfl, rfl⟩)
  (try simp only [Exit.inBlock, Exit.then])
  refine bodyPost_ret (v := itemV none) ?_ rfl ?_
  · rw [results_cell_tmp rfl]; go_simp; (try rfl)
  · exact H.out

/-- a link taken out of the map -/
theorem PQ.del {w0 : World} {F : Nat → Prop} {P m X : Nat} {c id co : Int} {a b : List Nd} {n : Nd} {aft bef : Int → Int} {W W' : World} (h : PQ w0 F P m X c id co (a ++ n :: b) aft bef W) (hM : MapL W' m (a ++ b)) (hc : Chg (fun k => k = m) W W') :
    PQ w0 F P m X c id co (a ++ b) aft bef W' ∧ W'.heap[n.b]? = some (lkO n.id n.c (bef n.id) (aft n.id)) ∧ n.b ≠ P ∧ n.b ≠ X ∧ n.b ∉ (a ++ b).map (·.b) := by
  obtain ⟨k1, k2⟩ := h.j.kinds
  have hsub : (a ++ b).Sublist (a ++ n :: b) := (List.Sublist.refl a).append (List.sublist_cons_self n b)
  have hnb : n.b ∈ (a ++ n :: b).map (·.b) := List.mem_map.2 ⟨n, by simp, rfl⟩
  have hf : ∀ k, footJ P m (a ++ b) k → footJ P m (a ++ n :: b) k := fun k hk => by
    rcases hk with e | e | e
    · exact Or.inl e
    · exact Or.inr (Or.inl e)
    · exact Or.inr (Or.inr ((hsub.map _).subset e))
  refine ⟨⟨⟨hc.keep h.j.tab k1, hM, fun x hx => ?_, (hsub.map _).nodup h.j.ndb, (hsub.map _).nodup h.j.ndi, fun x hx => h.j.small x (hsub.subset hx)⟩, hc.keep h.x (fun e => h.xn (Or.inr (Or.inl e))), fun hk => h.xn (hf X hk), h.c.trans hc (fun k hk => h.f k (Or.inr (Or.inl hk))), fun k hk => h.f k (hf k hk)⟩, hc.keep (h.j.node n (by simp)) (k2 _ hnb).2, (k2 _ hnb).1, fun e => h.xn (Or.inr (Or.inr (by rw [← e]; exact hnb))), ?_⟩
  · have hx2 := hsub.subset hx
    exact hc.keep (h.j.node x hx2) (k2 _ (List.mem_map.2 ⟨x, hx2, rfl⟩)).2
  · have := h.j.ndb
    rw [List.map_append, List.map_cons, List.nodup_append] at this
    obtain ⟨_, h2, h3⟩ := this
    rw [List.nodup_cons] at h2
    rw [List.map_append, List.mem_append]
    rintro (e | e)
    · exact h3 _ e n.b List.mem_cons_self rfl
    · exact h2.1 e
set_option maxRecDepth 100000 in
set_option maxHeartbeats 4000000 in
theorem dropSome (B P : Nat) (l : List Ff.E) (F : Nat → Prop) (id co : Int) (la lb : List Ff.E) (w : World) (h : QIs w B P l F) (hid : (Lit.int .i64 id).wf = true) (hl : l.length ≤ 1000000) (he : l = la ++ (id, co) :: lb) :
    Calls Try.prog 41 #[.pointer (some ⟨P, 0, none⟩), .int .i64 id] w (RetQ (itemV (some (id, co))) B P (la ++ lb) F w) := by
  have hbx := (Below.refl w.heap.size w).alloc (Nat.le_refl _) zeroI
  have K := Lib.hid (hasC B P l F id _ (h.below hbx) hid)
  rw [show Ff.has l id = true by rw [he]; exact Ff.has_mid _ _ _ _] at K
  obtain ⟨m, s, ns, aft, bef, h1, h2, h3, h4, h5, h6⟩ := h
  have hcb := Ff.cost_bound h4.co
  have hgood : Ff.Good (la ++ lb) := h4.sub (by rw [he]; exact (List.Sublist.refl la).append (List.sublist_cons_self _ lb))
  have hcost : Ff.cost l = Ff.cost (la ++ lb) + co := by rw [he, Ff.cost_append, Ff.cost_append]; simp [Ff.cost]; omega
  have hcco : 1 ≤ co ∧ co ≤ 64 := h4.co (id, co) (by rw [he]; simp)
  rw [he] at h3
  obtain ⟨na, nr, rfl, e1, e2⟩ := List.map_eq_append_iff.1 h3
  obtain ⟨n, nb, rfl, e3, e4⟩ := List.map_eq_cons_iff.1 e2
  have en1 : n.id = id := congrArg Prod.fst e3
  have en2 : n.c = co := congrArg Prod.snd e3
  subst en1 en2
  rw [List.map_append, List.map_cons] at h2
  obtain ⟨i1, i2, i3, i4⟩ := h2.aft_in
  have hcut := h2.cut
  have hP1 : PQ w F P m w.heap.size (Ff.cost l) 0 0 ((⟨s, 0, 0⟩ :: na) ++ n :: nb) aft bef (w.alloc zeroI) := ⟨h1.grown _, heap_alloc_new _ _, fun hf => by have := h1.lt _ hf; omega, Chg.of_below hbx, fun k hk => Or.inl ((h5 k).2 hk)⟩
  have hmem : n ∈ ((⟨s, 0, 0⟩ :: na) ++ n :: nb : List Nd) := by simp
  have J1 := Lib.hid (fun (W : World) (hQ : PQ w F P m w.heap.size (Ff.cost l) 0 0 ((⟨s, 0, 0⟩ :: na) ++ n :: nb) aft bef W) => pq_join (bef n.id) (aft n.id) W hQ (by simp at i2 ⊢; rcases i2 with e | e | e; exact Or.inl e; exact Or.inr (Or.inl e); exact Or.inr (Or.inr (Or.inr e))) (by simp at i1 ⊢; rcases i1 with e | e | e; exact Or.inl e; exact Or.inr (Or.inl e); exact Or.inr (Or.inr (Or.inr e))))
  have hlook : ∀ {W : World} {aft' bef' : Int → Int} {c : Int}, JAt W P m c ((⟨s, 0, 0⟩ :: na) ++ n :: nb) aft' bef' → W.cell? ⟨P, 0, none⟩ = some (.map (some m)) ∧ (Instr.lookup 105 (.map (some m)) (.int .i64 n.id) false).run Try.prog W = .ok (.pointer (some ⟨n.b, 0, none⟩)) W := fun g => ⟨g.c0, g.look hmem⟩
  obtain ⟨x0, x1⟩ := hlook hP1.j
  have HS1 := Lib.hid (fun (W : World) (hw : ∃ aft' bef', PQ w F P m w.heap.size (Ff.cost l) 0 0 ((⟨s, 0, 0⟩ :: na) ++ n :: nb) aft' bef' W ∧ bef' n.id = bef n.id ∧ aft' n.id = aft n.id) => (show W.cell? ⟨n.b, 2, none⟩ = some (.int .i64 (bef n.id)) ∧ W.cell? ⟨n.b, 3, none⟩ = some (.int .i64 (aft n.id)) from by
    obtain ⟨aft', bef', hw, e1, e2⟩ := hw
    obtain ⟨_, _, g2, g3⟩ := hw.j.n0 hmem
    rw [e1] at g2
    rw [e2] at g3
    exact ⟨g2, g3⟩))
  have HS2 := Lib.hid (fun (W : World) (hw : PQ w F P m w.heap.size (Ff.cost l) 0 0 ((⟨s, 0, 0⟩ :: na) ++ n :: nb) (Ff.upd aft (bef n.id) (aft n.id)) (Ff.upd bef (aft n.id) (bef n.id)) W) => (show (∃ aft' bef', PQ w F P m w.heap.size (Ff.cost l) 0 0 ((⟨s, 0, 0⟩ :: na) ++ n :: nb) aft' bef' W ∧ bef' n.id = bef n.id ∧ aft' n.id = aft n.id) ∧ W.cell? ⟨P, 0, none⟩ = some (.map (some m)) ∧ MapL W m ((⟨s, 0, 0⟩ :: na) ++ n :: nb) from ⟨⟨_, _, hw, Ff.upd_other _ _ (fun e => i3 e.symm), Ff.upd_other _ _ (fun e => i4 e.symm)⟩, hw.j.c0, hw.j.map⟩))
  have HD := Lib.hid (fun (W W' : World) (hw : PQ w F P m w.heap.size (Ff.cost l) 0 0 ((⟨s, 0, 0⟩ :: na) ++ n :: nb) (Ff.upd aft (bef n.id) (aft n.id)) (Ff.upd bef (aft n.id) (bef n.id)) W) hM hc => hw.del (W' := W') hM hc)
  have HFIN := Lib.hid (fun (W : World) (hw : PQ w F P m w.heap.size (Ff.cost l) 0 0 ((⟨s, 0, 0⟩ :: na) ++ nb) (Ff.upd aft (bef n.id) (aft n.id)) (Ff.upd bef (aft n.id) (bef n.id)) W) => (show QX w B P (la ++ lb) F w.heap.size (W.setCell ⟨P, 1, none⟩ (.int .i64 (Ff.cost l - n.c))) from by
    have hw2 := hw.cost (Ff.cost l - n.c)
    have hc : Ff.cost l - n.c = Ff.cost (la ++ lb) := by omega
    refine ⟨⟨footJ P m (⟨s, 0, 0⟩ :: (na ++ nb)), ⟨m, s, na ++ nb, _, _, by rw [← hc]; exact hw2.j, by rw [List.map_append]; exact hcut, by rw [List.map_append, e1, e4], hgood, fun k => Iff.rfl, fun k hk => ?_⟩, fun k hk => hw2.f k hk, hw2.xn⟩, hw2.c⟩
    have hk2 : footJ P m (⟨s, 0, 0⟩ :: (na ++ n :: nb)) k := by
      rcases hk with e | e | e
      · exact Or.inl e
      · exact Or.inr (Or.inl e)
      · refine Or.inr (Or.inr ?_)
        simp at e ⊢
        rcases e with e | e | e
        · exact Or.inl e
        · exact Or.inr (Or.inl e)
        · exact Or.inr (Or.inr (Or.inr e))
    exact h6 k ((h5 k).2 hk2)))
  have HQ := Lib.hid hP1
  have HNI := Lib.hid hP1.j.ndi
  have HW := Lib.hid hid
  have hcl : Ff.cost l ≤ 64000000 := by have : ((l.length : Nat) : Int) ≤ 1000000 := by omega
                                        omega
  have hc0 := hcb.1
  have hc1 := hcco.1
  have hc2 := hcco.2
  have he1 : itemV (some (n.id, n.c)) = .tuple #[.agg #[.int .i64 n.id, .int .i64 n.c], .bool true] := rfl
  rw [he1]
  generalize hna : (⟨s, 0, 0⟩ :: na : List Nd) = nz at *
  clear hna h1 h2 h3 h4 h5 h6 e1 e2 e3 e4 he he1 i1 i2 i3 i4 hcut hP1 hmem hlook hbx hcb hgood hcost hcco hid hl
  generalize Ff.cost l = c at *
  obtain ⟨x, hx⟩ : ∃ x, x = n.b := ⟨_, rfl⟩
  obtain ⟨k, hk⟩ : ∃ k, k = n.id := ⟨_, rfl⟩
  obtain ⟨d, hd⟩ : ∃ d, d = n.c := ⟨_, rfl⟩
  rw [← hx, ← hk] at x1
  rw [← hx, ← hk] at HS1
  rw [← hk] at K J1 HS2 HW HD HFIN
  rw [← hd] at hc1 hc2 HFIN
  rw [← hk, ← hd]
  have HK := Lib.hid hk
  have HX := Lib.hid hx
  have HDC := Lib.hid hd
  clear hk hx hd
  go_enter Try.func41, Try.ntmps41
  go_upto_region 4 with (go_at_call 55; (with_reducible refine K.out.mono ?_); rintro e wA ⟨rfl, rfl⟩)
  refine wp_region_any (by kernel_rfl) ?_
  change wpAny _ _ _ _ _ _ _ (World.drew _)
  refine wpAny_of_held (S := fun W => ∃ aft' bef', PQ w F P m w.heap.size c 0 0 (nz ++ n :: nb) aft' bef' W ∧ bef' k = bef k ∧ aft' k = aft k) _ _ _ _ ?_
  replace HQ := Lib.hid HQ.out.drew
  have hS := (⟨aft, bef, HQ.out, rfl, rfl⟩ : ∃ aft' bef', PQ w F P m w.heap.size c 0 0 (nz ++ n :: nb) aft' bef' (w.alloc zeroI).drew ∧ bef' k = bef k ∧ aft' k = aft k)
  refine takeH 0 18 ?_ rfl rfl (by kernel_rfl) (by kernel_rfl) (by kernel_rfl) (fun _ _ _ h => h) (Or.inl ⟨by kernel_rfl, ?_⟩) hS ?_; rotate_left; (intro w' hw; skip; first | (go_simp; done) | (go_simp; with_reducible rfl)); rotate_left
  try simp only [List.setIfInBounds_toArray, List.set_cons_zero, List.set_cons_succ]
  refine takeH 1 19 ?_ rfl rfl (by kernel_rfl) (by kernel_rfl) (by kernel_rfl) (fun _ _ _ h => h) (Or.inl ⟨by kernel_rfl, ?_⟩) hS ?_; rotate_left; (intro w' hw; skip; first | (go_simp; done) | (go_simp; with_reducible rfl)); rotate_left
  try simp only [List.setIfInBounds_toArray, List.set_cons_zero, List.set_cons_succ]
  refine takeH 2 20 ?_ rfl rfl (by kernel_rfl) (by kernel_rfl) (by kernel_rfl) (fun _ _ _ h => h) (Or.inl ⟨by kernel_rfl, ?_⟩) hS ?_; rotate_left; (intro w' hw; skip; first | (go_simp; done) | (go_simp; with_reducible rfl)); rotate_left
  try simp only [List.setIfInBounds_toArray, List.set_cons_zero, List.set_cons_succ]
  refine takeH 3 21 ?_ rfl rfl (by kernel_rfl) (by kernel_rfl) (by kernel_rfl) (fun _ _ _ h => h) (Or.inl ⟨by kernel_rfl, ?_⟩) hS ?_; rotate_left; (intro w' hw; skip; first | (go_simp; done) | (go_simp; with_reducible rfl)); rotate_left
  try simp only [List.setIfInBounds_toArray, List.set_cons_zero, List.set_cons_succ]
  refine takeH 4 22 ?_ rfl rfl (by kernel_rfl) (by kernel_rfl) (by kernel_rfl) (fun _ _ _ h => h) (Or.inl ⟨by kernel_rfl, ?_⟩) hS ?_; rotate_left; (intro w' hw; obtain ⟨z0, z1⟩ := HS1.out _ hw; first | (go_simp; done) | (go_simp; with_reducible rfl)); rotate_left
  try simp only [List.setIfInBounds_toArray, List.set_cons_zero, List.set_cons_succ]
  refine takeH 5 23 ?_ rfl rfl (by kernel_rfl) (by kernel_rfl) (by kernel_rfl) (fun _ _ _ h => h) (Or.inl ⟨by kernel_rfl, ?_⟩) hS ?_; rotate_left; (intro w' hw; skip; first | (go_simp; done) | (go_simp; with_reducible rfl)); rotate_left
  try simp only [List.setIfInBounds_toArray, List.set_cons_zero, List.set_cons_succ]
  refine takeH 6 24 ?_ rfl rfl (by kernel_rfl) (by kernel_rfl) (by kernel_rfl) (fun _ _ _ h => h) (Or.inl ⟨by kernel_rfl, ?_⟩) hS ?_; rotate_left; (intro w' hw; skip; first | (go_simp; done) | (go_simp; with_reducible rfl)); rotate_left
  try simp only [List.setIfInBounds_toArray, List.set_cons_zero, List.set_cons_succ]
  refine takeH 7 25 ?_ rfl rfl (by kernel_rfl) (by kernel_rfl) (by kernel_rfl) (fun _ _ _ h => h) (Or.inl ⟨by kernel_rfl, ?_⟩) hS ?_; rotate_left; (intro w' hw; skip; first | (go_simp; done) | (go_simp; with_reducible rfl)); rotate_left
  try simp only [List.setIfInBounds_toArray, List.set_cons_zero, List.set_cons_succ]
  refine takeH 8 26 ?_ rfl rfl (by kernel_rfl) (by kernel_rfl) (by kernel_rfl) (fun _ _ _ h => h) (Or.inl ⟨by kernel_rfl, ?_⟩) hS ?_; rotate_left; (intro w' hw; obtain ⟨z0, z1⟩ := HS1.out _ hw; first | (go_simp; done) | (go_simp; with_reducible rfl)); rotate_left
  try simp only [List.setIfInBounds_toArray, List.set_cons_zero, List.set_cons_succ]
  refine wpAnyH_ready (rs := [9]) (by kernel_rfl) (by simp) ?_; refine AllReadyH.cons rfl (fun K2 hK => ?_) AllReadyH.nil; go_simp; go_wp2_with (go_at_call 56; (with_reducible refine (J1.out _ HQ.out).mono ?_); rintro e wB ⟨rfl, hB⟩; have HB2 := Lib.hid hB; clear hB); refine hK.out _ _ ?_ (fun _ => ?_); (exact (HS2.out _ HB2.out).1); clear hK K2
  refine wpAnyH_done (by kernel_rfl) ?_ _
  clear hS HQ J1 HS1 x0 x1
  obtain ⟨_, x0, hmp⟩ := HS2.out _ HB2.out
  have HMP := Lib.hid hmp
  clear hmp
  go_upto_region 6 with (at_delete; (refine wpDelL _ rfl _ _ rfl m nz nb n rfl HMP.out (by rw [← HK.out]; rfl) (by rw [← HK.out]; exact HW.out) HNI.out ?_); intro wC hmC hcC hsz; have HDD := Lib.hid (HD.out _ wC HB2.out hmC hcC); clear hmC hcC hsz)
  obtain ⟨g1, g2, g3, g4, g5⟩ := HDD.out
  have HF := Lib.hid (HFIN.out _ g1)
  rw [← HDC.out, ← HX.out] at g2
  rw [← HX.out] at g3 g4 g5
  have y0 : wC.cell? ⟨x, 0, none⟩ = some (.int .i64 k) := by rw [cell_of_row wC _ _ _ _ _ g2]; rfl
  have y1 : wC.cell? ⟨x, 1, none⟩ = some (.int .i64 d) := by rw [cell_of_row wC _ _ _ _ _ g2]; rfl
  have y2 := g1.j.c1
  have y3 := g1.j.fr 1
  have hwr : IntKind.i64.wrap (c - d) = c - d := by rw [IntKind.wrap_i64]; omega
  have hx5 : (wC.setCell ⟨P, 1, none⟩ (.int .i64 (c - d))).heap[x]? = wC.heap[x]? := Below.heap_setCell _ _ _ _ g3
  have hX5 : (wC.setCell ⟨P, 1, none⟩ (.int .i64 (c - d))).heap[w.heap.size]? = some (itO 0 0) := (Below.heap_setCell _ _ _ _ (fun e => g1.xn (Or.inl e))).trans g1.x
  have z0 : (wC.setCell ⟨P, 1, none⟩ (.int .i64 (c - d))).cell? ⟨x, 0, none⟩ = some (.int .i64 k) := by rw [cell_of_row _ _ _ _ _ _ (hx5.trans g2)]; rfl
  have z1 : (wC.setCell ⟨P, 1, none⟩ (.int .i64 (c - d))).cell? ⟨x, 1, none⟩ = some (.int .i64 d) := by rw [cell_of_row _ _ _ _ _ _ (hx5.trans g2)]; rfl
  have z2 : (wC.setCell ⟨P, 1, none⟩ (.int .i64 (c - d))).cell? ⟨w.heap.size, 0, none⟩ = some (.int .i64 0) := by rw [cell_of_row _ _ _ _ _ _ hX5]; rfl
  have z3 : (wC.setCell ⟨P, 1, none⟩ (.int .i64 (c - d))).cell? ⟨w.heap.size, 1, none⟩ = some (.int .i64 0) := by rw [cell_of_row _ _ _ _ _ _ hX5]; rfl
  have z4 := frozen_of _ w.heap.size 0 _ _ hX5
  have z5 := frozen_of _ w.heap.size 1 _ _ hX5
  have z6 := frozen_of wC w.heap.size 0 _ _ g1.x
  have z7 := frozen_of wC w.heap.size 1 _ _ g1.x
  have HF5 := Lib.hid HF.out.drew
  clear g1 g2 g3 g4 g5 HDD HD HB2 HMP HF HFIN HS2 hx5 hX5 HW HNI
  go_region
  all_goals
    go_wp2
    try simp only [Exit.inBlock, Exit.then]
    refine bodyPost_ret (v := .tuple #[.agg #[.int .i64 k, .int .i64 d], .bool true]) ?_ rfl ?_
    · rw [results_cell_tmp rfl]; go_simp; (try rfl)
    · exact ((HF5.out.set (Nat.le_refl _) _ _).set (Nat.le_refl _) _ _).ret _
theorem dropC (B P : Nat) (l : List Ff.E) (F : Nat → Prop) (id : Int) (w : World) (h : QIs w B P l F) (hid : (Lit.int .i64 id).wf = true) (hl : l.length ≤ 1000000) :
    Calls Try.prog 41 #[.pointer (some ⟨P, 0, none⟩), .int .i64 id] w (RetQ (itemV (l.find? (fun e => e.1 == id))) B P (Ff.drop l id) F w) := by
  cases hh : Ff.has l id with
  | false =>
    have hn := Ff.has_no.1 hh
    rw [Ff.drop_no hn, show l.find? (fun e => e.1 == id) = none from List.find?_eq_none.2 (fun x hx => by simpa using hn x hx)]
    exact dropNone B P l F id w h hid hh
  | true =>
    obtain ⟨a, c, b, rfl, ha⟩ := Ff.has_yes hh
    have hd : Ff.drop (a ++ (id, c) :: b) id = a ++ b := Ff.drop_mid (e := (id, c)) h.good.nd
    have hf : (a ++ (id, c) :: b).find? (fun e => e.1 == id) = some (id, c) := by
      rw [List.find?_append, List.find?_eq_none.2 (fun x hx => by simpa using ha x hx)]
      simp
    rw [hd, hf]
    exact dropSome B P _ F id c a b w h hid hl rfl
theorem box_at {W : World} {X : Nat} {a b : Int} (hX : W.heap[X]? = some (itO a b)) (o : Obj) : (W.alloc o).cell? ⟨X, 0, none⟩ = some (.int .i64 a) ∧ (W.alloc o).cell? ⟨X, 1, none⟩ = some (.int .i64 b) ∧ (W.alloc o).frozen? ⟨X, 0, none⟩ = false ∧ (W.alloc o).frozen? ⟨X, 1, none⟩ = false := by
  have h := (Lib.alloc_old W o X (lt_block hX)).trans hX
  exact ⟨by rw [cell_of_row _ _ _ _ _ _ h]; rfl, by rw [cell_of_row _ _ _ _ _ _ h]; rfl, frozen_of _ X 0 _ _ h, frozen_of _ X 1 _ _ h⟩
set_option maxRecDepth 100000 in
set_option maxHeartbeats 1000000 in
theorem popNone (B P : Nat) (F : Nat → Prop) (w : World) (h : QIs w B P [] F) :
    Calls Try.prog 78 #[.pointer (some ⟨P, 0, none⟩)] w (RetQ (itemV none) B P [] F w) := by
  have hbx := (Below.refl w.heap.size w).alloc (Nat.le_refl _) zeroI
  have kh := (headC B P [] F _ (h.below hbx) (by simp)).mono (R' := fun e w' => e = .returned (.tuple #[.agg #[.int .i64 0, .int .i64 0], .bool false]) ∧ w'.heap[w.heap.size]? = some (itO 0 0) ∧ Hid (Below w.heap.size w w')) fun e w' hr => ⟨hr.e, (hr.b.block w.heap.size (by simp)).trans (heap_alloc_new _ _), Lib.hid (hbx.trans (hr.b.mono hbx.size))⟩
  have K := Lib.hid kh
  have H := Lib.hid h
  clear h kh hbx
  go_enter Try.func78, Try.ntmps78
  go_wp2_with (go_at_call 77; (with_reducible refine K.out.mono ?_); rintro e wA ⟨rfl, hX, hA⟩; obtain ⟨z2, z3, z4, z5⟩ := box_at hX (itO 0 0))
  try simp only [Exit.inBlock, Exit.then]
  refine bodyPost_ret (v := itemV none) ?_ rfl ?_
  · rw [results_cell_tmp rfl]; go_simp; (try rfl)
  · exact H.out.asks rfl (((hA.out.alloc hA.out.size _).setCell (Nat.le_refl _) _).setCell (Nat.le_refl _) _)
set_option maxRecDepth 100000 in
set_option maxHeartbeats 2000000 in
theorem popSome (B P : Nat) (x : Ff.E) (l : List Ff.E) (F : Nat → Prop) (w : World) (h : QIs w B P (x :: l) F) (hl : l.length ≤ 90000) :
    Calls Try.prog 78 #[.pointer (some ⟨P, 0, none⟩)] w (RetQ (itemV (some x)) B P l F w) := by
  have hbx := (Below.refl w.heap.size w).alloc (Nat.le_refl _) zeroI
  have hx := h.good.id x (by simp)
  have kh := (headSome B P x l F _ (h.below hbx) (by omega)).mono (R' := fun e w' => e = .returned (.tuple #[.agg #[.int .i64 x.1, .int .i64 x.2], .bool true]) ∧ w'.heap[w.heap.size]? = some (itO 0 0) ∧ Hid (Below w.heap.size w w')) fun e w' hr => ⟨hr.e, (hr.b.block w.heap.size (by simp)).trans (heap_alloc_new _ _), Lib.hid (hbx.trans (hr.b.mono hbx.size))⟩
  have kd : ∀ wA, Below w.heap.size w wA → wA.heap[w.heap.size]? = some (itO 0 0) → Calls Try.prog 41 #[.pointer (some ⟨P, 0, none⟩), .int .i64 x.1] (wA.alloc (itO x.1 x.2)) fun e wC => e = .returned (.tuple #[.agg #[.int .i64 x.1, .int .i64 x.2], .bool true]) ∧ wC.heap[w.heap.size]? = some (itO 0 0) ∧ Hid (QX w B P l F w.heap.size wC) := fun wA hb hX => by
    have hb2 := hb.alloc hb.size (itO x.1 x.2)
    have hXl := lt_block hX
    refine (dropSome B P (x :: l) F x.1 x.2 [] l _ (h.below hb2) (wf_i64' (by omega) hx.2) (by simp; omega) rfl).mono fun e wC hr => ?_
    obtain ⟨F', g1, g2⟩ := hr.s
    have hXF : ¬ F w.heap.size := fun hf => by have := (h.lt _ hf).2; omega
    have hz : (wA.alloc (itO x.1 x.2)).heap.size = wA.heap.size + 1 := by simp
    refine ⟨hr.r, hr.c.keep ((Lib.alloc_old _ _ _ hXl).trans hX) hXF, Lib.hid ⟨⟨F', g1, fun k hk => ?_, fun hf => ?_⟩, (Chg.of_below hb2).trans hr.c (fun k hk => Or.inl hk)⟩⟩
    · rcases g2 k hk with e | e
      · exact Or.inl e
      · right; omega
    · rcases g2 _ hf with e | e
      · exact hXF e
      · omega
  have K := Lib.hid kh
  have KD := Lib.hid kd
  obtain ⟨x1, x2⟩ := x
  have he1 : itemV (some (x1, x2)) = .tuple #[.agg #[.int .i64 x1, .int .i64 x2], .bool true] := rfl
  rw [he1]
  simp only at K KD
  clear h kh kd hbx hx he1
  go_enter Try.func78, Try.ntmps78
  go_wp2_with (first | (go_at_call 77; (with_reducible refine K.out.mono ?_); rintro e wA ⟨rfl, hX, hA⟩; obtain ⟨z2, z3, z4, z5⟩ := box_at hX (itO x1 x2)) | (go_at_call 41; (with_reducible refine (KD.out wA hA.out hX).mono ?_); rintro e wC ⟨rfl, hX2, hC⟩; have y0 := frozen_of _ w.heap.size 0 _ _ hX2; have y1 := frozen_of _ w.heap.size 1 _ _ hX2; have y2 : wC.cell? ⟨w.heap.size, 0, none⟩ = some (.int .i64 0) := (by rw [cell_of_row _ _ _ _ _ _ hX2]; rfl); have y3 : wC.cell? ⟨w.heap.size, 1, none⟩ = some (.int .i64 0) := (by rw [cell_of_row _ _ _ _ _ _ hX2]; rfl)))
  try simp only [Exit.inBlock, Exit.then]
  refine bodyPost_ret (v := .tuple #[.agg #[.int .i64 x1, .int .i64 x2], .bool true]) ?_ rfl ?_
  · rw [results_cell_tmp rfl]; go_simp; (try rfl)
  · exact ((hC.out.set (Nat.le_refl _) _ _).set (Nat.le_refl _) _ _).ret _
theorem popC (B P : Nat) (l : List Ff.E) (F : Nat → Prop) (w : World) (h : QIs w B P l F) (hl : l.length ≤ 90000) :
    Calls Try.prog 78 #[.pointer (some ⟨P, 0, none⟩)] w (RetQ (itemV l.head?) B P l.tail F w) := by
  cases l with
  | nil => exact popNone B P F w h
  | cons x l => exact popSome B P x l F w h (by simp at hl; omega)
end Go.Proofs.Ytgeoebodlcbebaa
