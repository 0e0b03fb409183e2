/-
  A table: Drop; Put of a key that is there.
-/
import Derived.Test.YtmdpfinadffcaaaLhE
import Derived.OrdersHeld
import Derived.Deep.RegionHeld
import Derived.Deep.Cut
namespace Go.Proofs.Ytmdpfinadffcaaa
open Go.RowKit
open Lr (Nd)
set_option linter.unusedVariables false

theorem sub_mid {α : Type} (a b : List α) (n : α) : (a ++ b).Sublist (a ++ n :: b) := (List.Sublist.refl a).append (List.sublist_cons_self n b)
theorem foot_less {P m r : Nat} {a b : List Nd} {n : Nd} {k : Nat} (h : foot P m r (a ++ b) k) : foot P m r (a ++ n :: b) k := by
  rcases h with h | h | h | h
  · exact Or.inl h
  · exact Or.inr (Or.inl h)
  · refine Or.inr (Or.inr (Or.inl ?_))
    rcases List.mem_cons.1 h with h | h
    · exact List.mem_cons.2 (Or.inl h)
    · exact List.mem_cons.2 (Or.inr (((sub_mid a b n).map _).subset h))
  · exact Or.inr (Or.inr (Or.inr (((sub_mid a b n).map _).subset h)))
/-- a link cut, its key deleted -/
theorem TAt.dropped {w wA wB : World} {P m r : Nat} {room : Int} {a b : List Nd} {n : Nd} (h : TAt w P m r room (a ++ n :: b)) (hs : RA wA r (a ++ b)) (hc : Chg (fun k => k ∈ r :: (a ++ b).map (·.b)) w wA)
    (hm : MapL wB m (a ++ b)) (hc2 : Chg (fun k => k = m) wA wB) : TAt wB P m r room (a ++ b) ∧ Chg (foot P m r (a ++ n :: b)) w wB := by
  obtain ⟨k1, k2, k3⟩ := h.kinds
  have hsub := sub_mid a b n
  have hin : ∀ k ∈ r :: (a ++ b).map (·.b), k ∈ r :: (a ++ n :: b).map (·.b) := fun k hk => by
    rcases List.mem_cons.1 hk with h | h
    · exact List.mem_cons.2 (Or.inl h)
    · exact List.mem_cons.2 (Or.inr ((hsub.map _).subset h))
  have hcc : Chg (foot P m r (a ++ n :: b)) w wB := (hc.mono (G := foot P m r (a ++ n :: b)) (fun k hk => Or.inl (Or.inr (Or.inr (Or.inl (hin k hk)))))).trans hc2 (fun k hk => Or.inl (Or.inr (Or.inl hk)))
  refine ⟨⟨?_, hm, hs.keep (fun k hk => hc2.block k (hs.lt k hk) (fun e => (k2 k (hin k hk)).2.1 e)), fun x hx => ?_, (hsub.map _).nodup h.nde, h.good.sub (hsub.map _), fun x hx => h.small x (hsub.subset hx)⟩, hcc⟩
  · exact hc2.keep (hc.keep h.tab (fun hm => (k2 _ (hin _ hm)).1 rfl)) k1
  · have hx2 := hsub.subset hx
    have hxe : x.e ∈ (a ++ n :: b).map (·.e) := List.mem_map.2 ⟨x, hx2, rfl⟩
    exact hc2.keep (hc.keep (h.ent x hx2) (fun hm => (k2 _ (hin _ hm)).2.2 hxe)) (k3 _ hxe).2

set_option maxRecDepth 100000 in
theorem dropNone (P m r : Nat) (room : Int) (ns : List Nd) (key : ByteArray) (w : World) (h : TAt w P m r room ns) (hk : key.size ≤ 9223372036854775807) (hn : Lr.find (Lr.kvs ns) key = none) :
    Calls Try.prog 37 #[.pointer (some ⟨P, 0, none⟩), .string key] w (Same (.bool false) w) := by
  have K := Lib.hid (findNone P m r room ns key w h hk hn)
  clear h hn
  go_enter Try.func37, Try.ntmps37
  go_wp2_with (go_at_call 30; (with_reducible refine K.out.mono ?_); rintro e wA ⟨rfl, rfl⟩)
  go_ret
  exact ⟨rfl, rfl⟩
set_option maxRecDepth 100000 in
theorem dropSome (P m r : Nat) (room : Int) (a b : List Nd) (n : Nd) (w : World) (h : TAt w P m r room (a ++ n :: b)) :
    Calls Try.prog 37 #[.pointer (some ⟨P, 0, none⟩), .string n.k] w fun e w' => e = .returned (.bool true) ∧ TAt w' P m r room (a ++ b) ∧ Chg (foot P m r (a ++ n :: b)) w w' := by
  have K := Lib.hid (findSome P m r room a b n w h)
  have hk := h.small n (by simp)
  obtain ⟨k1, k2, k3⟩ := h.kinds
  have K1 := Lib.hid ((ringCut r a b n w h.ring).mono (R' := fun e w' => e = .returned (.tuple #[]) ∧ w'.cell? ⟨P, 1, none⟩ = some (.map (some m)) ∧ Hid (MapL w' m (a ++ n :: b)) ∧ Hid (∀ wB, MapL wB m (a ++ b) → Chg (fun k => k = m) w' wB → TAt wB P m r room (a ++ b) ∧ Chg (foot P m r (a ++ n :: b)) w wB)) fun e w' hr => by
    have hin : ∀ k ∈ r :: (a ++ b).map (·.b), k ∈ r :: (a ++ n :: b).map (·.b) := fun k hk => by
      rcases List.mem_cons.1 hk with h | h
      · exact List.mem_cons.2 (Or.inl h)
      · exact List.mem_cons.2 (Or.inr (((sub_mid a b n).map _).subset h))
    refine ⟨hr.e, ?_, Lib.hid (h.map.keep (hr.c.block m h.map.lt (fun hm => (k2 _ (hin _ hm)).2.1 rfl))), Lib.hid (fun wB hm hc => h.dropped hr.s hr.c hm hc)⟩
    rw [cell_of_row w' P _ _ _ _ (hr.c.keep h.tab (fun hm => (k2 _ (hin _ hm)).1 rfl))]; rfl)
  have HG := Lib.hid h.good
  have HK := Lib.hid hk
  clear h k1 k2 k3 hk
  go_enter Try.func37, Try.ntmps37
  go_wp2_with (first | (go_at_call 30; (with_reducible refine K.out.mono ?_); rintro e wA ⟨rfl, rfl⟩) | (go_at_call 50; (with_reducible refine K1.out.mono ?_); rintro e wA ⟨rfl, c1, hM, hT⟩) | (at_delete; refine wpDelL _ rfl _ _ rfl m a b n rfl hM.out rfl (by have := HK.out; omega) HG.out ?_; intro wB hmB hcB hsz; have hfin := Lib.hid (hT.out wB hmB hcB); clear hmB hcB hsz))
  go_ret
  exact ⟨rfl, hfin.out⟩
theorem dropC (B P : Nat) (room : Int) (l : List Lr.E) (F : Nat → Prop) (key : ByteArray) (w : World) (h : TIs w B P room l F) (hk : key.size ≤ 140737488351232) :
    Calls Try.prog 37 #[.pointer (some ⟨P, 0, none⟩), .string key] w (RetT (.bool (Lr.has l key)) B P room (Lr.without l key) F w) := by
  have h0 := h
  obtain ⟨m, r, ns, h1, rfl, h3, h4⟩ := h
  unfold Lr.has
  cases hf : Lr.find (Lr.kvs ns) key with
  | none =>
    rw [Lr.without_none (Lr.find_none.1 hf)]
    refine (dropNone P m r room ns key w h1 (by omega) hf).mono fun e w' hr => ?_
    obtain ⟨rfl, rfl⟩ := hr
    exact ⟨rfl, ⟨F, h0, fun k hk => Or.inl hk⟩, Chg.refl _ _⟩
  | some v =>
    obtain ⟨a, n, b, rfl, rfl, rfl, _⟩ := Lr.find_node hf
    rw [(Lr.find_split h1.good).2.2]
    refine (dropSome P m r room a b n w h1).mono fun e w' hr => ?_
    obtain ⟨rfl, g1, g2⟩ := hr
    exact ⟨rfl, ⟨foot P m r (a ++ b), ⟨m, r, _, g1, rfl, fun k => Iff.rfl, fun k hk => h4 k ((h3 k).2 (foot_less hk))⟩, fun k hk => Or.inl ((h3 k).2 (foot_less hk))⟩, g2.mono (fun k hk => Or.inl ((h3 k).2 hk))⟩

def goneV (x : Option ByteArray) : Value := .tuple #[.string (x.getD .empty), .bool x.isSome]
/-- an entry's value stored -/
theorem TAt.stored {w : World} {P m r : Nat} {room : Int} {a b : List Nd} {n : Nd} (v : Lr.V) (h : TAt w P m r room (a ++ n :: b)) : TAt (w.setRow n.e (entC n.k v)) P m r room (a ++ ⟨n.b, n.e, n.k, v⟩ :: b) := by
  obtain ⟨k1, k2, k3⟩ := h.kinds
  have hne : n.e ∈ (a ++ n :: b).map (·.e) := List.mem_map.2 ⟨n, by simp, rfl⟩
  have hset := entO_row v (h.ent n (by simp))
  have hoth : ∀ k, k ≠ n.e → (w.setRow n.e (entC n.k v)).heap[k]? = w.heap[k]? := fun k hk => setRow_other _ _ _ _ hk
  refine ⟨(hoth P (fun e => (k3 _ hne).1 e.symm)).trans h.tab, ?_, ?_, fun x hx => ?_, ?_, ?_, fun x hx => ?_⟩
  · exact (h.map.keep (hoth m (fun e => (k3 _ hne).2 e.symm))).same (by simp)
  · exact (h.ring.keep (fun k hk => hoth k (fun e => (k2 k hk).2.2 (by rw [e]; exact hne)))).same (by simp)
  · have hnd : ((a ++ n :: b).map (·.e)).Nodup := h.nde
    rw [List.map_append, List.map_cons, List.nodup_append, List.nodup_cons] at hnd
    have hx3 : x ∈ a ∨ x = ⟨n.b, n.e, n.k, v⟩ ∨ x ∈ b := by simpa using hx
    rcases hx3 with h1 | h1 | h1
    · exact (hoth x.e (fun e => hnd.2.2 x.e (List.mem_map.2 ⟨x, h1, rfl⟩) n.e (by simp) e)).trans (h.ent x (by simp [h1]))
    · subst h1; exact hset
    · exact (hoth x.e (fun e => hnd.2.1.1 (by rw [← e]; exact List.mem_map.2 ⟨x, h1, rfl⟩))).trans (h.ent x (by simp [h1]))
  · have := h.nde; simp at this ⊢; exact this
  · have := h.good; unfold Lr.Good Lr.keys Lr.kvs Lr.Nd.kv at this ⊢; simp at this ⊢; exact this
  · have hx3 : x ∈ a ∨ x = ⟨n.b, n.e, n.k, v⟩ ∨ x ∈ b := by simpa using hx
    rcases hx3 with h1 | h1 | h1
    · exact h.small x (by simp [h1])
    · subst h1; exact h.small n (by simp)
    · exact h.small x (by simp [h1])
theorem foot_stored {P m r : Nat} {a b : List Nd} {n : Nd} {v : Lr.V} (k : Nat) : foot P m r (a ++ ⟨n.b, n.e, n.k, v⟩ :: b) k ↔ foot P m r (a ++ n :: b) k := by simp [foot]
theorem yieldH {w : World} {ρ : Operand → Value} {o : Oper} {x : Operand} (ho : o.op = .load 49 x) (g : Nat) (hx : ρ x = .pointer (some ⟨g, 0, none⟩)) {l : List Int} (hb : Bx w g l) :
    (execOp ρ o).run Try.prog w = .ok (.value (.agg (Hi.cells l))) w := by
  unfold execOp
  simp only [ho, hx, Instr.loadAt, Instr.sureAddr, Sem.run_bind, Sem.run_pure, Result.andThen_ok, run_loadVar_row w g 49 49 (Hi.cells l) _ _ hb.h Try.underlying49 rfl (by rw [infoH, Hi.cells_size, hb.n])]
/-- a histogram's box loaded, a histogram stored into an entry, at a step of a region -/
theorem stepLoadB {ops : Array Oper} {o : Oper} {a : Act} {w : World} {K : Act → World → Prop} {Q : Exit → Act → World → Prop} {X : Prop} {g : Nat} {l : List Int} (h : Bx w g l) (x : Operand) (ho : o.op = .load 49 x) (hw : Region.wanted o (yielded ops a.tmps) = true)
    (hx : a.eval x = .pointer (some ⟨g, 0, none⟩)) (hK : K (a.put o.dst (.agg (Hi.cells l))) w) : if Region.wanted o (yielded ops a.tmps) = true then Oper.wp Try.prog o a w K Q else X := by
  rw [if_pos hw]
  exact wp_load_row 49 x ho g hx 49 (Hi.cells l) _ _ h.h Try.underlying49 rfl (by rw [infoH, Hi.cells_size, h.n]) hK
theorem stepStoreEnt {ops : Array Oper} {o : Oper} {a : Act} {w : World} {K : Act → World → Prop} {Q : Exit → Act → World → Prop} {X : Prop} {g : Nat} {k : ByteArray} {u v : Lr.V} (h : w.heap[g]? = some (entO k u)) (x y : Operand) (ho : o.op = .store 49 x y) (hw : Region.wanted o (yielded ops a.tmps) = true)
    (hx : a.eval x = .pointer (some ⟨g, 1, none⟩)) (hy : a.eval y = .agg (Hi.cells v.1)) (hK : K (a.put o.dst undef) (w.setRow g (entC k v))) : if Region.wanted o (yielded ops a.tmps) = true then Oper.wp Try.prog o a w K Q else X := by
  rw [if_pos hw]
  unfold Oper.wp execOp
  simp only [ho, hx, hy, Sem.run_bind, run_storeEnt v h, Result.andThen_ok]
  exact hK
set_option maxRecDepth 100000 in
set_option maxHeartbeats 4000000 in
theorem putThere (P m r : Nat) (room : Int) (a b : List Nd) (n : Nd) (v : Lr.V) (w : World) (h : TAt w P m r room (a ++ n :: b)) :
    Calls Try.prog 16 #[.pointer (some ⟨P, 0, none⟩), .string n.k, .agg (Hi.cells v.1)] w fun e w' => e = .returned (.tuple #[.string .empty, .bool false]) ∧ TAt w' P m r room (⟨n.b, n.e, n.k, v⟩ :: (a ++ b)) ∧ Chg (foot P m r (a ++ n :: b)) w w' := by
  have h1 : TAt (w.alloc (boxH v.1)) P m r room (a ++ n :: b) := h.keep (fun k hk => Lib.alloc_old _ _ _ (h.lt k hk))
  have h1d : TAt (w.alloc (boxH v.1)).drew P m r room (a ++ n :: b) := h1.keep (fun _ _ => rfl)
  have hlt := h.lt
  have K := Lib.hid (findSome P m r room a b n _ h1)
  have K2 := Lib.hid (entOf h1d)
  have BX : Hid (Bx (w.alloc (boxH v.1)).drew w.heap.size v.1) := Lib.hid ⟨v.2, (Bx.new w v.2).h⟩
  have HE := Lib.hid (h1d.ent n (by simp))
  have hne : n.e ∈ (a ++ n :: b).map (·.e) := List.mem_map.2 ⟨n, by simp, rfl⟩
  have HLE : Hid (n.e < w.heap.size) := Lib.hid (hlt n.e (Or.inr (Or.inr (Or.inr hne))))
  have h2 := h1d.stored v
  have hc2 : Chg (foot P m r (a ++ n :: b)) w ((w.alloc (boxH v.1)).drew.setRow n.e (entC n.k v)) := by
    have c1 : Chg (foot P m r (a ++ n :: b)) w (w.alloc (boxH v.1)).drew := Chg.of_below (((Below.refl _ w).alloc (Nat.le_refl _) _).drew)
    refine c1.trans (G := fun k => k = n.e) ⟨rfl, rfl, rfl, by rw [setRow_size]; exact Nat.le_refl _, fun k hk hne => setRow_other _ _ _ _ hne⟩ (fun k hk => Or.inl ?_)
    subst hk
    exact Or.inr (Or.inr (Or.inr hne))
  have K3 := Lib.hid (fun W (hW : W = (w.alloc (boxH v.1)).drew.setRow n.e (entC n.k v)) => (raiseC r a b ⟨n.b, n.e, n.k, v⟩ W (by rw [hW]; exact h2.ring)).mono (R' := fun e w' => e = .returned (.tuple #[]) ∧ Hid (TAt w' P m r room (⟨n.b, n.e, n.k, v⟩ :: (a ++ b)) ∧ Chg (foot P m r (a ++ n :: b)) w w')) fun e w' hr => by
    subst hW
    exact ⟨hr.e, Lib.hid ⟨h2.raised hr.s hr.c, hc2.trans hr.c (fun k hk => Or.inl ((foot_stored k).1 (Or.inr (Or.inr (Or.inl hk)))))⟩⟩)
  have D2 := Lib.hid h2.c2
  clear h h1 h1d h2 hne hlt hc2
  go_enter Try.func16, Try.ntmps16
  go_upto_region 5 with (go_at_call 30; (with_reducible refine K.out.mono ?_); rintro e wA ⟨rfl, rfl⟩)
  refine wp_region_any (by kernel_rfl) ?_
  change wpAny _ _ _ _ _ _ _ (World.drew _)
  refine wpAny_of_held (S := fun W => Bx W w.heap.size v.1) _ _ _ _ ?_
  have hS := BX.out
  refine takeH 0 17 ?_ rfl rfl (by kernel_rfl) (by kernel_rfl) (by kernel_rfl) (fun _ _ _ h => h) (Or.inl ⟨by kernel_rfl, ?_⟩) hS ?_; rotate_left; (intro w' hw; skip; first | (go_simp; done) | (go_simp; with_reducible rfl)); rotate_left
  try simp only [List.setIfInBounds_toArray, List.set_cons_zero, List.set_cons_succ]
  refine takeH 2 19 ?_ rfl rfl (by kernel_rfl) (by kernel_rfl) (by kernel_rfl) (fun _ _ _ h => h) (Or.inl ⟨by kernel_rfl, ?_⟩) hS ?_; rotate_left; (intro w' hw; refine yieldH (x := .tmp 5) ?_ w.heap.size ?_ hw <;> rfl); rotate_left
  try simp only [List.setIfInBounds_toArray, List.set_cons_zero, List.set_cons_succ]
  refine wpAnyH_ready (rs := [1]) (by kernel_rfl) (by simp) ?_; refine AllReadyH.cons rfl (fun K4 hK => ?_) AllReadyH.nil; go_simp; go_wp2_with (go_at_call 31; (with_reducible refine K2.out.mono ?_); rintro e wA ⟨rfl, rfl⟩); refine hK.out _ _ ?_ (fun _ => ?_); (exact hS); clear hK K4
  refine takeH 3 20 ?_ rfl rfl (by kernel_rfl) (by kernel_rfl) (by kernel_rfl) (fun _ _ _ h => h) (Or.inl ⟨by kernel_rfl, ?_⟩) hS ?_; rotate_left; (intro w' hw; skip; first | (go_simp; done) | (go_simp; with_reducible rfl)); rotate_left
  try simp only [List.setIfInBounds_toArray, List.set_cons_zero, List.set_cons_succ]
  refine takeH 4 21 ?_ rfl rfl (by kernel_rfl) (by kernel_rfl) (by kernel_rfl) (fun _ _ _ h => h) (Or.inl ⟨by kernel_rfl, ?_⟩) hS ?_; rotate_left; (intro w' hw; skip; first | (go_simp; done) | (go_simp; with_reducible rfl)); rotate_left
  try simp only [List.setIfInBounds_toArray, List.set_cons_zero, List.set_cons_succ]
  refine wpAnyH_ready (rs := [5]) (by kernel_rfl) (by simp) ?_; refine AllReadyH.cons rfl (fun K4 hK => ?_) AllReadyH.nil; refine stepStoreEnt HE.out _ _ rfl rfl rfl rfl ?_; refine hK.out _ _ (hS.rowO _ _ (Nat.ne_of_gt HLE.out)) (fun _ => ?_); clear hK K4
  refine wpAnyH_done (by kernel_rfl) ?_ _
  simp only [Act.put, List.getElem_toArray, List.getElem_cons_zero, List.getElem_cons_succ]
  obtain ⟨W2, hW2⟩ : ∃ W2, W2 = (w.alloc (boxH v.1)).drew.setRow n.e (entC n.k v) := ⟨_, rfl⟩
  rw [← hW2] at D2 ⊢
  have d2 := D2.out
  have HW2 := Lib.hid hW2
  clear hW2
  go_wp2_with (go_at_call 32; (with_reducible refine (K3.out _ HW2.out).mono ?_); rintro e wA ⟨rfl, hA⟩)
  go_ret2
  exact ⟨rfl, hA.out⟩
end Go.Proofs.Ytmdpfinadffcaaa
