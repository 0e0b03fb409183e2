/-
  A ring of flows: Settle, a link cut out.
-/
import Derived.Test.YtgeoebodlcbebaaRobG
namespace Go.Proofs.Ytgeoebodlcbebaa
open Go.RowKit
open Rb (Nd)
set_option linter.unusedVariables false

theorem RIn.gqd {W : World} {B R m : Nat} {q : Int} {g : Bool} {ns : List Nd} {x y : Nat → Nat} (h : RIn W B R m q g ns x y) : GQ W (footG R m ns) B R m q (visOf ns) g ns (fun k => pB (x k)) (fun k => pB (y k)) W.drew := h.gq.drew
set_option maxRecDepth 100000 in
set_option maxHeartbeats 8000000 in
theorem settleLater (B R m : Nat) (q : Int) (g : Bool) (v : Nd) (a b : List Nd) (n : Nd) (x y : Nat → Nat) (w : World) (h : RIn w B R m q g ((v :: a) ++ n :: b) x y) (hi : n.r.its = []) :
    Calls Try.prog 42 #[.pointer (some ⟨R, 0, none⟩), .int .i64 n.r.f] w (RetS B R m q g (v :: a) n b w) := by
  have hn : n ∈ (v :: a) ++ n :: b := by simp
  have hvm : v ∈ (v :: a) ++ n :: b := by simp
  obtain ⟨_, c1, c2, _⟩ := h.r.cs
  replace c2 : w.cell? ⟨R, 2, none⟩ = some (.pointer (some ⟨v.b, 0, none⟩)) := c2
  have r1 := h.r.look hn
  obtain ⟨d0, _, _, _, _, _⟩ := h.r.nd6 hn
  unfold Nd.src at d0
  rw [h.qs.src n hn] at d0
  have hm1 := run_mLen n.q
  simp only [Try.types_size, Made.depth, Nat.reduceAdd] at hm1
  have KL := Lib.hid (lenC B n.q n.r.its n.F w (h.qs.q n hn) (by rw [hi]; decide))
  rw [hi] at KL
  have hne : n.b ≠ v.b := by
    have h1 := h.r.ndb
    rw [List.map_append, List.map_cons, List.map_cons, List.cons_append, List.nodup_cons] at h1
    intro e
    exact h1.1 (by rw [← e]; simp)
  have hq2 := eqOtherR hne (h.r.node n hn) (h.r.node v hvm)
  have HR := Lib.hid h
  clear h hn hvm hi hne
  go_enter Try.func42, Try.ntmps42
  go_upto_region 4 with (go_at_call 33; (with_reducible refine KL.out.mono ?_); rintro e wA ⟨rfl, rfl⟩)
  clear c1 c2 r1 d0 hm1 KL hq2
  have HLO := Lib.hid (HR.out.lo)
  have HRING := Lib.hid (HR.out.ring)
  have HQ := Lib.hid HR.out.gqd
  have HW := Lib.hid (HR.out.r.small n (by simp))
  have hin := HR.out.ring.in_of (x := n.b) (by simp)
  have J1 := Lib.hid (fun W' hW => gq_join (w0 := w) (F := footG R m ((v :: a) ++ n :: b)) (B := B) (R := R) (m := m) (q := q) (v := visOf ((v :: a) ++ n :: b)) (g := g) (ns := ((v :: a) ++ n :: b)) (aft := fun k => pB (x k)) (bef := fun k => pB (y k)) (y n.b) (x n.b) W' hW hin.2 hin.1)
  clear hin
  obtain ⟨S, hSd⟩ : ∃ S : World → Prop, S = fun W' => ∃ aft' bef', GQ w (footG R m ((v :: a) ++ n :: b)) B R m q (visOf ((v :: a) ++ n :: b)) g ((v :: a) ++ n :: b) aft' bef' W' ∧ aft' n.b = .pointer (some ⟨x n.b, 0, none⟩) ∧ bef' n.b = .pointer (some ⟨y n.b, 0, none⟩) := ⟨_, rfl⟩
  have HS1 : Hid (∀ W', S W' → W'.cell? ⟨n.b, 4, none⟩ = some (.pointer (some ⟨y n.b, 0, none⟩)) ∧ W'.cell? ⟨n.b, 5, none⟩ = some (.pointer (some ⟨x n.b, 0, none⟩))) := Lib.hid (fun W' hW' => by
    rw [hSd] at hW'
    obtain ⟨aft', bef', hg, h1, h2⟩ := hW'
    obtain ⟨_, _, _, _, g4, g5⟩ := hg.r.nd6 (n := n) (by simp)
    rw [h2] at g4
    rw [h1] at g5
    exact ⟨g4, g5⟩)
  have HS2 : Hid (∀ W', GQ w (footG R m ((v :: a) ++ n :: b)) B R m q (visOf ((v :: a) ++ n :: b)) g ((v :: a) ++ n :: b) (updV (fun k => pB (x k)) (y n.b) (.pointer (some ⟨x n.b, 0, none⟩))) (updV (fun k => pB (y k)) (x n.b) (.pointer (some ⟨y n.b, 0, none⟩))) W' → S W') := Lib.hid (fun W' hW' => by
    rw [hSd]
    exact ⟨_, _, hW', by unfold updV; split <;> rfl, by unfold updV; split <;> rfl⟩)
  have hS : S (World.drew w) := by rw [hSd]; exact ⟨_, _, HQ.out, rfl, rfl⟩
  clear hSd
  go_upto_region 4 with fail
  refine wp_region_any (by kernel_rfl) ?_
  change wpAny _ _ _ _ _ _ _ (World.drew _)
  refine wpAny_of_held (S := S) _ _ _ _ ?_
  refine takeH 0 34 ?_ rfl rfl (by kernel_rfl) (by kernel_rfl) (by kernel_rfl) (fun _ _ _ h => h) (Or.inl ⟨by kernel_rfl, ?_⟩) hS ?_; rotate_left; (intro w' hw; skip; first | (go_simp; done) | (go_simp; with_reducible rfl)); rotate_left
  try simp only [List.setIfInBounds_toArray, List.set_cons_zero, List.set_cons_succ]
  refine takeH 1 35 ?_ rfl rfl (by kernel_rfl) (by kernel_rfl) (by kernel_rfl) (fun _ _ _ h => h) (Or.inl ⟨by kernel_rfl, ?_⟩) hS ?_; rotate_left; (intro w' hw; skip; first | (go_simp; done) | (go_simp; with_reducible rfl)); rotate_left
  try simp only [List.setIfInBounds_toArray, List.set_cons_zero, List.set_cons_succ]
  refine takeH 2 36 ?_ rfl rfl (by kernel_rfl) (by kernel_rfl) (by kernel_rfl) (fun _ _ _ h => h) (Or.inl ⟨by kernel_rfl, ?_⟩) hS ?_; rotate_left; (intro w' hw; skip; first | (go_simp; done) | (go_simp; with_reducible rfl)); rotate_left
  try simp only [List.setIfInBounds_toArray, List.set_cons_zero, List.set_cons_succ]
  refine takeH 3 37 ?_ rfl rfl (by kernel_rfl) (by kernel_rfl) (by kernel_rfl) (fun _ _ _ h => h) (Or.inl ⟨by kernel_rfl, ?_⟩) hS ?_; rotate_left; (intro w' hw; obtain ⟨z4, z5⟩ := HS1.out _ hw; first | (go_simp; done) | (go_simp; with_reducible rfl)); rotate_left
  try simp only [List.setIfInBounds_toArray, List.set_cons_zero, List.set_cons_succ]
  refine takeH 4 38 ?_ rfl rfl (by kernel_rfl) (by kernel_rfl) (by kernel_rfl) (fun _ _ _ h => h) (Or.inl ⟨by kernel_rfl, ?_⟩) hS ?_; rotate_left; (intro w' hw; skip; first | (go_simp; done) | (go_simp; with_reducible rfl)); rotate_left
  try simp only [List.setIfInBounds_toArray, List.set_cons_zero, List.set_cons_succ]
  refine takeH 5 39 ?_ rfl rfl (by kernel_rfl) (by kernel_rfl) (by kernel_rfl) (fun _ _ _ h => h) (Or.inl ⟨by kernel_rfl, ?_⟩) hS ?_; rotate_left; (intro w' hw; skip; first | (go_simp; done) | (go_simp; with_reducible rfl)); rotate_left
  try simp only [List.setIfInBounds_toArray, List.set_cons_zero, List.set_cons_succ]
  refine takeH 6 40 ?_ rfl rfl (by kernel_rfl) (by kernel_rfl) (by kernel_rfl) (fun _ _ _ h => h) (Or.inl ⟨by kernel_rfl, ?_⟩) hS ?_; rotate_left; (intro w' hw; skip; first | (go_simp; done) | (go_simp; with_reducible rfl)); rotate_left
  try simp only [List.setIfInBounds_toArray, List.set_cons_zero, List.set_cons_succ]
  refine takeH 7 41 ?_ rfl rfl (by kernel_rfl) (by kernel_rfl) (by kernel_rfl) (fun _ _ _ h => h) (Or.inl ⟨by kernel_rfl, ?_⟩) hS ?_; rotate_left; (intro w' hw; obtain ⟨z4, z5⟩ := HS1.out _ hw; first | (go_simp; done) | (go_simp; with_reducible rfl)); rotate_left
  try simp only [List.setIfInBounds_toArray, List.set_cons_zero, List.set_cons_succ]
  refine wpAnyH_ready (rs := [8]) (by kernel_rfl) (by simp) ?_; refine AllReadyH.cons rfl (fun K2 hK => ?_) AllReadyH.nil; go_simp; go_wp2_with (go_at_call 57; (with_reducible refine (J1.out _ HQ.out).mono ?_); rintro e wB ⟨rfl, hB⟩); refine hK.out _ _ ?_ (fun _ => ?_); (exact HS2.out _ hB.out); clear hK K2
  refine wpAnyH_done (by kernel_rfl) ?_ _
  clear hS HQ J1 HS1 HS2
  obtain ⟨_, x1, _, _⟩ := hB.out.r.cs
  have hmp := hB.out.r.map
  rw [List.map_append, List.map_cons] at hmp
  have hni : (((v :: a).map Nd.key ++ n.key :: b.map Nd.key).map (·.id)).Nodup := by
    have := hB.out.r.ndi
    rw [← Rb.keys_id, List.map_append, List.map_cons] at this
    exact this
  have HMP := Lib.hid hmp
  have HNI := Lib.hid hni
  have HB := Lib.hid hB.out
  clear hmp hni hB
  go_upto_region 6 with (at_delete; (refine wpDelR _ rfl _ _ rfl m ((v :: a).map Nd.key) (b.map Nd.key) n.key rfl HMP.out rfl HW.out HNI.out ?_); intro wC hmC hcC hsz; have HD := Lib.hid (HB.out.del hmC hcC); clear hmC hcC hsz)
  clear HMP HNI HB HW
  obtain ⟨_, x2, _, _⟩ := HD.out.r.cs
  have HM2 := Lib.hid HD.out.r.map
  obtain ⟨N, hNd⟩ : ∃ N, (((v :: a) ++ b).map Nd.key).length = N + 1 := ⟨(a ++ b).length, by simp⟩
  have t0 : ((((N + 1 : Nat) : Nat) : Int) == 0) = false := by simp; omega
  have HND := Lib.hid hNd
  clear hNd
  go_wp2_with (at_len; refine wpLenR _ rfl _ rfl m _ rfl HM2.out ?_; rw [HND.out])
  go_end0
  exact ⟨rfl, GQ.cut HRING.out (fun h => by cases h) HLO.out HD.out rfl, HD.out.c⟩
set_option maxRecDepth 100000 in
set_option maxHeartbeats 8000000 in
theorem settleMore (B R m : Nat) (q : Int) (g : Bool) (n : Nd) (v : Nd) (t : List Nd) (x y : Nat → Nat) (w : World) (h : RIn w B R m q g (n :: (v :: t)) x y) (hi : n.r.its = []) :
    Calls Try.prog 42 #[.pointer (some ⟨R, 0, none⟩), .int .i64 n.r.f] w (RetS B R m q false [] n (v :: t) w) := by
  have hn : n ∈ n :: (v :: t) := by simp
  obtain ⟨_, c1, c2, _⟩ := h.r.cs
  replace c2 : w.cell? ⟨R, 2, none⟩ = some (.pointer (some ⟨n.b, 0, none⟩)) := c2
  have r1 := h.r.look hn
  obtain ⟨d0, _, _, _, _, _⟩ := h.r.nd6 hn
  unfold Nd.src at d0
  rw [h.qs.src n hn] at d0
  have hm1 := run_mLen n.q
  simp only [Try.types_size, Made.depth, Nat.reduceAdd] at hm1
  have KL := Lib.hid (lenC B n.q n.r.its n.F w (h.qs.q n hn) (by rw [hi]; decide))
  rw [hi] at KL
  have hq2 := eqSameR ⟨n.b, 0, none⟩ w
  have KV := Lib.hid (visitC B R m q g n (v :: t) x y w h)
  have hp : ((v :: t) ++ [n]).Perm ([] ++ n :: (v :: t)) := List.perm_append_singleton n (v :: t)
  have HFP := Lib.hid (fun k => footG_perm (R := R) (m := m) hp k)
  clear h hn hi hp
  go_enter Try.func42, Try.ntmps42
  go_upto_region 4 with (first | (go_at_call 33; (with_reducible refine KL.out.mono ?_); rintro e wA ⟨rfl, rfl⟩) | (go_at_call 58; (with_reducible refine KV.out.mono ?_); rintro e wV ⟨rfl, hV, hVc⟩))
  have HR := Lib.hid (show RIn wV B R m q false ((v :: t) ++ n :: []) x y from hV)
  have HVC := Lib.hid hVc
  clear c1 c2 r1 d0 hm1 KL hq2 hV hVc KV
  have HLO := Lib.hid (HR.out.lo)
  have HRING := Lib.hid (HR.out.ring)
  have HQ := Lib.hid HR.out.gqd
  have HW := Lib.hid (HR.out.r.small n (by simp))
  have hin := HR.out.ring.in_of (x := n.b) (by simp)
  have J1 := Lib.hid (fun W' hW => gq_join (w0 := wV) (F := footG R m ((v :: t) ++ n :: [])) (B := B) (R := R) (m := m) (q := q) (v := visOf ((v :: t) ++ n :: [])) (g := false) (ns := ((v :: t) ++ n :: [])) (aft := fun k => pB (x k)) (bef := fun k => pB (y k)) (y n.b) (x n.b) W' hW hin.2 hin.1)
  clear hin
  obtain ⟨S, hSd⟩ : ∃ S : World → Prop, S = fun W' => ∃ aft' bef', GQ wV (footG R m ((v :: t) ++ n :: [])) B R m q (visOf ((v :: t) ++ n :: [])) false ((v :: t) ++ n :: []) aft' bef' W' ∧ aft' n.b = .pointer (some ⟨x n.b, 0, none⟩) ∧ bef' n.b = .pointer (some ⟨y n.b, 0, none⟩) := ⟨_, rfl⟩
  have HS1 : Hid (∀ W', S W' → W'.cell? ⟨n.b, 4, none⟩ = some (.pointer (some ⟨y n.b, 0, none⟩)) ∧ W'.cell? ⟨n.b, 5, none⟩ = some (.pointer (some ⟨x n.b, 0, none⟩))) := Lib.hid (fun W' hW' => by
    rw [hSd] at hW'
    obtain ⟨aft', bef', hg, h1, h2⟩ := hW'
    obtain ⟨_, _, _, _, g4, g5⟩ := hg.r.nd6 (n := n) (by simp)
    rw [h2] at g4
    rw [h1] at g5
    exact ⟨g4, g5⟩)
  have HS2 : Hid (∀ W', GQ wV (footG R m ((v :: t) ++ n :: [])) B R m q (visOf ((v :: t) ++ n :: [])) false ((v :: t) ++ n :: []) (updV (fun k => pB (x k)) (y n.b) (.pointer (some ⟨x n.b, 0, none⟩))) (updV (fun k => pB (y k)) (x n.b) (.pointer (some ⟨y n.b, 0, none⟩))) W' → S W') := Lib.hid (fun W' hW' => by
    rw [hSd]
    exact ⟨_, _, hW', by unfold updV; split <;> rfl, by unfold updV; split <;> rfl⟩)
  have hS : S (World.drew wV) := by rw [hSd]; exact ⟨_, _, HQ.out, rfl, rfl⟩
  clear hSd
  go_upto_region 4 with fail
  refine wp_region_any (by kernel_rfl) ?_
  change wpAny _ _ _ _ _ _ _ (World.drew _)
  refine wpAny_of_held (S := S) _ _ _ _ ?_
  refine takeH 0 34 ?_ rfl rfl (by kernel_rfl) (by kernel_rfl) (by kernel_rfl) (fun _ _ _ h => h) (Or.inl ⟨by kernel_rfl, ?_⟩) hS ?_; rotate_left; (intro w' hw; skip; first | (go_simp; done) | (go_simp; with_reducible rfl)); rotate_left
  try simp only [List.setIfInBounds_toArray, List.set_cons_zero, List.set_cons_succ]
  refine takeH 1 35 ?_ rfl rfl (by kernel_rfl) (by kernel_rfl) (by kernel_rfl) (fun _ _ _ h => h) (Or.inl ⟨by kernel_rfl, ?_⟩) hS ?_; rotate_left; (intro w' hw; skip; first | (go_simp; done) | (go_simp; with_reducible rfl)); rotate_left
  try simp only [List.setIfInBounds_toArray, List.set_cons_zero, List.set_cons_succ]
  refine takeH 2 36 ?_ rfl rfl (by kernel_rfl) (by kernel_rfl) (by kernel_rfl) (fun _ _ _ h => h) (Or.inl ⟨by kernel_rfl, ?_⟩) hS ?_; rotate_left; (intro w' hw; skip; first | (go_simp; done) | (go_simp; with_reducible rfl)); rotate_left
  try simp only [List.setIfInBounds_toArray, List.set_cons_zero, List.set_cons_succ]
  refine takeH 3 37 ?_ rfl rfl (by kernel_rfl) (by kernel_rfl) (by kernel_rfl) (fun _ _ _ h => h) (Or.inl ⟨by kernel_rfl, ?_⟩) hS ?_; rotate_left; (intro w' hw; obtain ⟨z4, z5⟩ := HS1.out _ hw; first | (go_simp; done) | (go_simp; with_reducible rfl)); rotate_left
  try simp only [List.setIfInBounds_toArray, List.set_cons_zero, List.set_cons_succ]
  refine takeH 4 38 ?_ rfl rfl (by kernel_rfl) (by kernel_rfl) (by kernel_rfl) (fun _ _ _ h => h) (Or.inl ⟨by kernel_rfl, ?_⟩) hS ?_; rotate_left; (intro w' hw; skip; first | (go_simp; done) | (go_simp; with_reducible rfl)); rotate_left
  try simp only [List.setIfInBounds_toArray, List.set_cons_zero, List.set_cons_succ]
  refine takeH 5 39 ?_ rfl rfl (by kernel_rfl) (by kernel_rfl) (by kernel_rfl) (fun _ _ _ h => h) (Or.inl ⟨by kernel_rfl, ?_⟩) hS ?_; rotate_left; (intro w' hw; skip; first | (go_simp; done) | (go_simp; with_reducible rfl)); rotate_left
  try simp only [List.setIfInBounds_toArray, List.set_cons_zero, List.set_cons_succ]
  refine takeH 6 40 ?_ rfl rfl (by kernel_rfl) (by kernel_rfl) (by kernel_rfl) (fun _ _ _ h => h) (Or.inl ⟨by kernel_rfl, ?_⟩) hS ?_; rotate_left; (intro w' hw; skip; first | (go_simp; done) | (go_simp; with_reducible rfl)); rotate_left
  try simp only [List.setIfInBounds_toArray, List.set_cons_zero, List.set_cons_succ]
  refine takeH 7 41 ?_ rfl rfl (by kernel_rfl) (by kernel_rfl) (by kernel_rfl) (fun _ _ _ h => h) (Or.inl ⟨by kernel_rfl, ?_⟩) hS ?_; rotate_left; (intro w' hw; obtain ⟨z4, z5⟩ := HS1.out _ hw; first | (go_simp; done) | (go_simp; with_reducible rfl)); rotate_left
  try simp only [List.setIfInBounds_toArray, List.set_cons_zero, List.set_cons_succ]
  refine wpAnyH_ready (rs := [8]) (by kernel_rfl) (by simp) ?_; refine AllReadyH.cons rfl (fun K2 hK => ?_) AllReadyH.nil; go_simp; go_wp2_with (go_at_call 57; (with_reducible refine (J1.out _ HQ.out).mono ?_); rintro e wB ⟨rfl, hB⟩); refine hK.out _ _ ?_ (fun _ => ?_); (exact HS2.out _ hB.out); clear hK K2
  refine wpAnyH_done (by kernel_rfl) ?_ _
  clear hS HQ J1 HS1 HS2
  obtain ⟨_, x1, _, _⟩ := hB.out.r.cs
  have hmp := hB.out.r.map
  rw [List.map_append, List.map_cons] at hmp
  have hni : (((v :: t).map Nd.key ++ n.key :: [].map Nd.key).map (·.id)).Nodup := by
    have := hB.out.r.ndi
    rw [← Rb.keys_id, List.map_append, List.map_cons] at this
    exact this
  have HMP := Lib.hid hmp
  have HNI := Lib.hid hni
  have HB := Lib.hid hB.out
  clear hmp hni hB
  go_upto_region 6 with (at_delete; (refine wpDelR _ rfl _ _ rfl m ((v :: t).map Nd.key) ([].map Nd.key) n.key rfl HMP.out rfl HW.out HNI.out ?_); intro wC hmC hcC hsz; have HD := Lib.hid (HB.out.del hmC hcC); clear hmC hcC hsz)
  clear HMP HNI HB HW
  obtain ⟨_, x2, _, _⟩ := HD.out.r.cs
  have HM2 := Lib.hid HD.out.r.map
  obtain ⟨N, hNd⟩ : ∃ N, (((v :: t) ++ []).map Nd.key).length = N + 1 := ⟨t.length, by simp⟩
  have t0 : ((((N + 1 : Nat) : Nat) : Int) == 0) = false := by simp; omega
  have HND := Lib.hid hNd
  clear hNd
  go_wp2_with (at_len; refine wpLenR _ rfl _ rfl m _ rfl HM2.out ?_; rw [HND.out])
  go_end0
  have hfc : Chg (footG R m ([] ++ n :: (v :: t))) w wC := (HVC.out.mono (fun k hk => Or.inl (Or.inl (Or.inl hk)))).trans HD.out.c (fun k hk => Or.inl ((HFP.out k).1 hk))
  exact ⟨rfl, (by have := GQ.cut HRING.out (fun h => by cases h) HLO.out HD.out rfl; rw [List.append_nil] at this; exact this), hfc⟩
set_option maxRecDepth 100000 in
set_option maxHeartbeats 8000000 in
theorem settleOne (B R m : Nat) (q : Int) (g : Bool) (n : Nd) (x y : Nat → Nat) (w : World) (h : RIn w B R m q g (n :: []) x y) (hi : n.r.its = []) :
    Calls Try.prog 42 #[.pointer (some ⟨R, 0, none⟩), .int .i64 n.r.f] w (RetS B R m q false [] n [] w) := by
  have hn : n ∈ n :: [] := by simp
  obtain ⟨_, c1, c2, _⟩ := h.r.cs
  replace c2 : w.cell? ⟨R, 2, none⟩ = some (.pointer (some ⟨n.b, 0, none⟩)) := c2
  have r1 := h.r.look hn
  obtain ⟨d0, _, _, _, _, _⟩ := h.r.nd6 hn
  unfold Nd.src at d0
  rw [h.qs.src n hn] at d0
  have hm1 := run_mLen n.q
  simp only [Try.types_size, Made.depth, Nat.reduceAdd] at hm1
  have KL := Lib.hid (lenC B n.q n.r.its n.F w (h.qs.q n hn) (by rw [hi]; decide))
  rw [hi] at KL
  have hq2 := eqSameR ⟨n.b, 0, none⟩ w
  have KV := Lib.hid (visitC B R m q g n [] x y w h)
  have hp : ([] ++ [n]).Perm ([] ++ n :: []) := List.perm_append_singleton n []
  have HFP := Lib.hid (fun k => footG_perm (R := R) (m := m) hp k)
  clear h hn hi hp
  go_enter Try.func42, Try.ntmps42
  go_upto_region 4 with (first | (go_at_call 33; (with_reducible refine KL.out.mono ?_); rintro e wA ⟨rfl, rfl⟩) | (go_at_call 58; (with_reducible refine KV.out.mono ?_); rintro e wV ⟨rfl, hV, hVc⟩))
  have HR := Lib.hid (show RIn wV B R m q false (([] : List Nd) ++ n :: []) x y from hV)
  have HVC := Lib.hid hVc
  clear c1 c2 r1 d0 hm1 KL hq2 hV hVc KV
  have HLO := Lib.hid (HR.out.lo)
  have HRING := Lib.hid (HR.out.ring)
  have HQ := Lib.hid HR.out.gqd
  have HW := Lib.hid (HR.out.r.small n (by simp))
  have hin := HR.out.ring.in_of (x := n.b) (by simp)
  have J1 := Lib.hid (fun W' hW => gq_join (w0 := wV) (F := footG R m (([] : List Nd) ++ n :: ([] : List Nd))) (B := B) (R := R) (m := m) (q := q) (v := visOf (([] : List Nd) ++ n :: ([] : List Nd))) (g := false) (ns := (([] : List Nd) ++ n :: ([] : List Nd))) (aft := fun k => pB (x k)) (bef := fun k => pB (y k)) (y n.b) (x n.b) W' hW hin.2 hin.1)
  clear hin
  obtain ⟨S, hSd⟩ : ∃ S : World → Prop, S = fun W' => ∃ aft' bef', GQ wV (footG R m (([] : List Nd) ++ n :: ([] : List Nd))) B R m q (visOf (([] : List Nd) ++ n :: ([] : List Nd))) false (([] : List Nd) ++ n :: ([] : List Nd)) aft' bef' W' ∧ aft' n.b = .pointer (some ⟨x n.b, 0, none⟩) ∧ bef' n.b = .pointer (some ⟨y n.b, 0, none⟩) := ⟨_, rfl⟩
  have HS1 : Hid (∀ W', S W' → W'.cell? ⟨n.b, 4, none⟩ = some (.pointer (some ⟨y n.b, 0, none⟩)) ∧ W'.cell? ⟨n.b, 5, none⟩ = some (.pointer (some ⟨x n.b, 0, none⟩))) := Lib.hid (fun W' hW' => by
    rw [hSd] at hW'
    obtain ⟨aft', bef', hg, h1, h2⟩ := hW'
    obtain ⟨_, _, _, _, g4, g5⟩ := hg.r.nd6 (n := n) (by simp)
    rw [h2] at g4
    rw [h1] at g5
    exact ⟨g4, g5⟩)
  have HS2 : Hid (∀ W', GQ wV (footG R m (([] : List Nd) ++ n :: ([] : List Nd))) B R m q (visOf (([] : List Nd) ++ n :: ([] : List Nd))) false (([] : List Nd) ++ n :: ([] : List Nd)) (updV (fun k => pB (x k)) (y n.b) (.pointer (some ⟨x n.b, 0, none⟩))) (updV (fun k => pB (y k)) (x n.b) (.pointer (some ⟨y n.b, 0, none⟩))) W' → S W') := Lib.hid (fun W' hW' => by
    rw [hSd]
    exact ⟨_, _, hW', by unfold updV; split <;> rfl, by unfold updV; split <;> rfl⟩)
  have hS : S (World.drew wV) := by rw [hSd]; exact ⟨_, _, HQ.out, rfl, rfl⟩
  clear hSd
  go_upto_region 4 with fail
  refine wp_region_any (by kernel_rfl) ?_
  change wpAny _ _ _ _ _ _ _ (World.drew _)
  refine wpAny_of_held (S := S) _ _ _ _ ?_
  refine takeH 0 34 ?_ rfl rfl (by kernel_rfl) (by kernel_rfl) (by kernel_rfl) (fun _ _ _ h => h) (Or.inl ⟨by kernel_rfl, ?_⟩) hS ?_; rotate_left; (intro w' hw; skip; first | (go_simp; done) | (go_simp; with_reducible rfl)); rotate_left
  try simp only [List.setIfInBounds_toArray, List.set_cons_zero, List.set_cons_succ]
  refine takeH 1 35 ?_ rfl rfl (by kernel_rfl) (by kernel_rfl) (by kernel_rfl) (fun _ _ _ h => h) (Or.inl ⟨by kernel_rfl, ?_⟩) hS ?_; rotate_left; (intro w' hw; skip; first | (go_simp; done) | (go_simp; with_reducible rfl)); rotate_left
  try simp only [List.setIfInBounds_toArray, List.set_cons_zero, List.set_cons_succ]
  refine takeH 2 36 ?_ rfl rfl (by kernel_rfl) (by kernel_rfl) (by kernel_rfl) (fun _ _ _ h => h) (Or.inl ⟨by kernel_rfl, ?_⟩) hS ?_; rotate_left; (intro w' hw; skip; first | (go_simp; done) | (go_simp; with_reducible rfl)); rotate_left
  try simp only [List.setIfInBounds_toArray, List.set_cons_zero, List.set_cons_succ]
  refine takeH 3 37 ?_ rfl rfl (by kernel_rfl) (by kernel_rfl) (by kernel_rfl) (fun _ _ _ h => h) (Or.inl ⟨by kernel_rfl, ?_⟩) hS ?_; rotate_left; (intro w' hw; obtain ⟨z4, z5⟩ := HS1.out _ hw; first | (go_simp; done) | (go_simp; with_reducible rfl)); rotate_left
  try simp only [List.setIfInBounds_toArray, List.set_cons_zero, List.set_cons_succ]
  refine takeH 4 38 ?_ rfl rfl (by kernel_rfl) (by kernel_rfl) (by kernel_rfl) (fun _ _ _ h => h) (Or.inl ⟨by kernel_rfl, ?_⟩) hS ?_; rotate_left; (intro w' hw; skip; first | (go_simp; done) | (go_simp; with_reducible rfl)); rotate_left
  try simp only [List.setIfInBounds_toArray, List.set_cons_zero, List.set_cons_succ]
  refine takeH 5 39 ?_ rfl rfl (by kernel_rfl) (by kernel_rfl) (by kernel_rfl) (fun _ _ _ h => h) (Or.inl ⟨by kernel_rfl, ?_⟩) hS ?_; rotate_left; (intro w' hw; skip; first | (go_simp; done) | (go_simp; with_reducible rfl)); rotate_left
  try simp only [List.setIfInBounds_toArray, List.set_cons_zero, List.set_cons_succ]
  refine takeH 6 40 ?_ rfl rfl (by kernel_rfl) (by kernel_rfl) (by kernel_rfl) (fun _ _ _ h => h) (Or.inl ⟨by kernel_rfl, ?_⟩) hS ?_; rotate_left; (intro w' hw; skip; first | (go_simp; done) | (go_simp; with_reducible rfl)); rotate_left
  try simp only [List.setIfInBounds_toArray, List.set_cons_zero, List.set_cons_succ]
  refine takeH 7 41 ?_ rfl rfl (by kernel_rfl) (by kernel_rfl) (by kernel_rfl) (fun _ _ _ h => h) (Or.inl ⟨by kernel_rfl, ?_⟩) hS ?_; rotate_left; (intro w' hw; obtain ⟨z4, z5⟩ := HS1.out _ hw; first | (go_simp; done) | (go_simp; with_reducible rfl)); rotate_left
  try simp only [List.setIfInBounds_toArray, List.set_cons_zero, List.set_cons_succ]
  refine wpAnyH_ready (rs := [8]) (by kernel_rfl) (by simp) ?_; refine AllReadyH.cons rfl (fun K2 hK => ?_) AllReadyH.nil; go_simp; go_wp2_with (go_at_call 57; (with_reducible refine (J1.out _ HQ.out).mono ?_); rintro e wB ⟨rfl, hB⟩); refine hK.out _ _ ?_ (fun _ => ?_); (exact HS2.out _ hB.out); clear hK K2
  refine wpAnyH_done (by kernel_rfl) ?_ _
  clear hS HQ J1 HS1 HS2
  obtain ⟨_, x1, _, _⟩ := hB.out.r.cs
  have hmp := hB.out.r.map
  rw [List.map_append, List.map_cons] at hmp
  have hni : ((([] : List Nd).map Nd.key ++ n.key :: ([] : List Nd).map Nd.key).map (·.id)).Nodup := by
    have := hB.out.r.ndi
    rw [← Rb.keys_id, List.map_append, List.map_cons] at this
    exact this
  have HMP := Lib.hid hmp
  have HNI := Lib.hid hni
  have HB := Lib.hid hB.out
  clear hmp hni hB
  go_upto_region 6 with (at_delete; (refine wpDelR _ rfl _ _ rfl m (([] : List Nd).map Nd.key) (([] : List Nd).map Nd.key) n.key rfl HMP.out rfl HW.out HNI.out ?_); intro wC hmC hcC hsz; have HD := Lib.hid (HB.out.del hmC hcC); clear hmC hcC hsz)
  clear HMP HNI HB HW
  obtain ⟨_, x2, _, _⟩ := HD.out.r.cs
  have HM2 := Lib.hid HD.out.r.map
  have HV2 := Lib.hid (HD.out.vis (.pointer none))
  have f2 := HD.out.r.fr 2
  obtain ⟨_, _, x3, _⟩ := HD.out.r.cs
  replace x3 : wC.cell? ⟨R, 2, none⟩ = some (.pointer (some ⟨n.b, 0, none⟩)) := x3
  have HND : Hid ((((([] : List Nd) ++ []).map Nd.key).length : Nat) = 0) := Lib.hid rfl
  go_wp2_with (at_len; refine wpLenR _ rfl _ rfl m _ rfl HM2.out ?_; rw [HND.out])
  go_end0
  have hfc : Chg (footG R m ([] ++ n :: [])) w _ := (HVC.out.mono (fun k hk => Or.inl (Or.inl (Or.inl hk)))).trans HV2.out.c (fun k hk => Or.inl (hk))
  exact ⟨rfl, GQ.cut (a := []) (b := []) (n := n) HRING.out (fun _ => rfl) HLO.out HV2.out rfl, hfc⟩
end Go.Proofs.Ytgeoebodlcbebaa
