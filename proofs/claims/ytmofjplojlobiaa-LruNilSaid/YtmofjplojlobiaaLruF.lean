/-
  A table: Drop; Put of a key that is there.
-/
import Derived.Test.YtmofjplojlobiaaLruE
namespace Go.Proofs.Ytmofjplojlobiaa
open Go.RowKit
open Lr (Nd)
set_option linter.unusedVariables false

theorem sub_mid {α : Type} (a b : List α) (n : α) : (a ++ b).Sublist (a ++ n :: b) := (List.Sublist.refl a).append (List.sublist_cons_self n b)
theorem foot_less {P m r : Nat} {a b : List Nd} {n : Nd} {k : Nat} (h : foot P m r (a ++ b) k) : foot P m r (a ++ n :: b) k := by
  rcases h with h | h | h | h
  · exact Or.inl h
  · exact Or.inr (Or.inl h)
  · refine Or.inr (Or.inr (Or.inl ?_))
    rcases List.mem_cons.1 h with h | h
    · exact List.mem_cons.2 (Or.inl h)
    · exact List.mem_cons.2 (Or.inr (((sub_mid a b n).map _).subset h))
  · exact Or.inr (Or.inr (Or.inr (((sub_mid a b n).map _).subset h)))
/-- a link cut, its key deleted -/
theorem TAt.dropped {w wA wB : World} {P m r : Nat} {room : Int} {a b : List Nd} {n : Nd} (h : TAt w P m r room (a ++ n :: b)) (hs : RA wA r (a ++ b)) (hc : Chg (fun k => k ∈ r :: (a ++ b).map (·.b)) w wA)
    (hm : MapL wB m (a ++ b)) (hc2 : Chg (fun k => k = m) wA wB) : TAt wB P m r room (a ++ b) ∧ Chg (foot P m r (a ++ n :: b)) w wB := by
  obtain ⟨k1, k2, k3⟩ := h.kinds
  have hsub := sub_mid a b n
  have hin : ∀ k ∈ r :: (a ++ b).map (·.b), k ∈ r :: (a ++ n :: b).map (·.b) := fun k hk => by
    rcases List.mem_cons.1 hk with h | h
    · exact List.mem_cons.2 (Or.inl h)
    · exact List.mem_cons.2 (Or.inr ((hsub.map _).subset h))
  have hcc : Chg (foot P m r (a ++ n :: b)) w wB := (hc.mono (G := foot P m r (a ++ n :: b)) (fun k hk => Or.inl (Or.inr (Or.inr (Or.inl (hin k hk)))))).trans hc2 (fun k hk => Or.inl (Or.inr (Or.inl hk)))
  refine ⟨⟨?_, hm, hs.keep (fun k hk => hc2.block k (hs.lt k hk) (fun e => (k2 k (hin k hk)).2.1 e)), fun x hx => ?_, (hsub.map _).nodup h.nde, h.good.sub (hsub.map _), fun x hx => h.small x (hsub.subset hx)⟩, hcc⟩
  · exact hc2.keep (hc.keep h.tab (fun hm => (k2 _ (hin _ hm)).1 rfl)) k1
  · have hx2 := hsub.subset hx
    have hxe : x.e ∈ (a ++ n :: b).map (·.e) := List.mem_map.2 ⟨x, hx2, rfl⟩
    exact hc2.keep (hc.keep (h.ent x hx2) (fun hm => (k2 _ (hin _ hm)).2.2 hxe)) (k3 _ hxe).2

set_option maxRecDepth 100000 in
theorem dropNone (P m r : Nat) (room : Int) (ns : List Nd) (key : ByteArray) (w : World) (h : TAt w P m r room ns) (hk : key.size ≤ 9223372036854775807) (hn : Lr.find (Lr.kvs ns) key = none) :
    Calls Try.prog 16 #[.pointer (some ⟨P, 0, none⟩), .string key] w (Same (.bool false) w) := by
  have K := Lib.hid (findNone P m r room ns key w h hk hn)
  clear h hn
  go_enter Try.func16, Try.ntmps16
  go_wp2_with (go_at_call 25; (with_reducible refine K.out.mono ?_); rintro e wA ⟨rfl, rfl⟩)
  go_ret
  exact ⟨rfl, rfl⟩
set_option maxRecDepth 100000 in
theorem dropSome (P m r : Nat) (room : Int) (a b : List Nd) (n : Nd) (w : World) (h : TAt w P m r room (a ++ n :: b)) :
    Calls Try.prog 16 #[.pointer (some ⟨P, 0, none⟩), .string n.k] w fun e w' => e = .returned (.bool true) ∧ TAt w' P m r room (a ++ b) ∧ Chg (foot P m r (a ++ n :: b)) w w' := by
  have K := Lib.hid (findSome P m r room a b n w h)
  have hk := h.small n (by simp)
  obtain ⟨k1, k2, k3⟩ := h.kinds
  have K1 := Lib.hid ((ringCut r a b n w h.ring).mono (R' := fun e w' => e = .returned (.tuple #[]) ∧ w'.cell? ⟨P, 1, none⟩ = some (.map (some m)) ∧ Hid (MapL w' m (a ++ n :: b)) ∧ Hid (∀ wB, MapL wB m (a ++ b) → Chg (fun k => k = m) w' wB → TAt wB P m r room (a ++ b) ∧ Chg (foot P m r (a ++ n :: b)) w wB)) fun e w' hr => by
    have hin : ∀ k ∈ r :: (a ++ b).map (·.b), k ∈ r :: (a ++ n :: b).map (·.b) := fun k hk => by
      rcases List.mem_cons.1 hk with h | h
      · exact List.mem_cons.2 (Or.inl h)
      · exact List.mem_cons.2 (Or.inr (((sub_mid a b n).map _).subset h))
    refine ⟨hr.e, ?_, Lib.hid (h.map.keep (hr.c.block m h.map.lt (fun hm => (k2 _ (hin _ hm)).2.1 rfl))), Lib.hid (fun wB hm hc => h.dropped hr.s hr.c hm hc)⟩
    rw [cell_of_row w' P _ _ _ _ (hr.c.keep h.tab (fun hm => (k2 _ (hin _ hm)).1 rfl))]; rfl)
  have HG := Lib.hid h.good
  have HK := Lib.hid hk
  clear h k1 k2 k3 hk
  go_enter Try.func16, Try.ntmps16
  go_wp2_with (first | (go_at_call 25; (with_reducible refine K.out.mono ?_); rintro e wA ⟨rfl, rfl⟩) | (go_at_call 30; (with_reducible refine K1.out.mono ?_); rintro e wA ⟨rfl, c1, hM, hT⟩) | (at_delete; refine wpDelL _ rfl _ _ rfl m a b n rfl hM.out rfl (by have := HK.out; omega) HG.out ?_; intro wB hmB hcB hsz; have hfin := Lib.hid (hT.out wB hmB hcB); clear hmB hcB hsz))
  go_ret
  exact ⟨rfl, hfin.out⟩
theorem dropC (B P : Nat) (room : Int) (l : List Lr.E) (F : Nat → Prop) (key : ByteArray) (w : World) (h : TIs w B P room l F) (hk : key.size ≤ 140737488351232) :
    Calls Try.prog 16 #[.pointer (some ⟨P, 0, none⟩), .string key] w (RetT (.bool (Lr.has l key)) B P room (Lr.without l key) F w) := by
  have h0 := h
  obtain ⟨m, r, ns, h1, rfl, h3, h4⟩ := h
  unfold Lr.has
  cases hf : Lr.find (Lr.kvs ns) key with
  | none =>
    rw [Lr.without_none (Lr.find_none.1 hf)]
    refine (dropNone P m r room ns key w h1 (by omega) hf).mono fun e w' hr => ?_
    obtain ⟨rfl, rfl⟩ := hr
    exact ⟨rfl, ⟨F, h0, fun k hk => Or.inl hk⟩, Chg.refl _ _⟩
  | some v =>
    obtain ⟨a, n, b, rfl, rfl, rfl, _⟩ := Lr.find_node hf
    rw [(Lr.find_split h1.good).2.2]
    refine (dropSome P m r room a b n w h1).mono fun e w' hr => ?_
    obtain ⟨rfl, g1, g2⟩ := hr
    exact ⟨rfl, ⟨foot P m r (a ++ b), ⟨m, r, _, g1, rfl, fun k => Iff.rfl, fun k hk => h4 k ((h3 k).2 (foot_less hk))⟩, fun k hk => Or.inl ((h3 k).2 (foot_less hk))⟩, g2.mono (fun k hk => Or.inl ((h3 k).2 hk))⟩

def goneV (x : Option ByteArray) : Value := .tuple #[.string (x.getD .empty), .bool x.isSome]
/-- an entry's value stored -/
theorem TAt.stored {w : World} {P m r : Nat} {room : Int} {a b : List Nd} {n : Nd} (v : Int) (h : TAt w P m r room (a ++ n :: b)) : TAt (w.setCell ⟨n.e, 1, none⟩ (.int .i64 v)) P m r room (a ++ ⟨n.b, n.e, n.k, v⟩ :: b) := by
  obtain ⟨k1, k2, k3⟩ := h.kinds
  have hne : n.e ∈ (a ++ n :: b).map (·.e) := List.mem_map.2 ⟨n, by simp, rfl⟩
  have hset := setCell_block w n.e 1 _ _ (.int .i64 v) (h.ent n (by simp))
  have hoth : ∀ k, k ≠ n.e → (w.setCell ⟨n.e, 1, none⟩ (.int .i64 v)).heap[k]? = w.heap[k]? := fun k hk => Below.heap_setCell _ _ _ _ hk
  refine ⟨(hoth P (fun e => (k3 _ hne).1 e.symm)).trans h.tab, ?_, ?_, fun x hx => ?_, ?_, ?_, fun x hx => ?_⟩
  · exact (h.map.keep (hoth m (fun e => (k3 _ hne).2 e.symm))).same (by simp)
  · exact (h.ring.keep (fun k hk => hoth k (fun e => (k2 k hk).2.2 (by rw [e]; exact hne)))).same (by simp)
  · have hnd : ((a ++ n :: b).map (·.e)).Nodup := h.nde
    rw [List.map_append, List.map_cons, List.nodup_append, List.nodup_cons] at hnd
    have hx3 : x ∈ a ∨ x = ⟨n.b, n.e, n.k, v⟩ ∨ x ∈ b := by simpa using hx
    rcases hx3 with h1 | h1 | h1
    · exact (hoth x.e (fun e => hnd.2.2 x.e (List.mem_map.2 ⟨x, h1, rfl⟩) n.e (by simp) e)).trans (h.ent x (by simp [h1]))
    · subst h1; exact hset
    · exact (hoth x.e (fun e => hnd.2.1.1 (by rw [← e]; exact List.mem_map.2 ⟨x, h1, rfl⟩))).trans (h.ent x (by simp [h1]))
  · have := h.nde; simp at this ⊢; exact this
  · have := h.good; unfold Lr.Good Lr.keys Lr.kvs Lr.Nd.kv at this ⊢; simp at this ⊢; exact this
  · have hx3 : x ∈ a ∨ x = ⟨n.b, n.e, n.k, v⟩ ∨ x ∈ b := by simpa using hx
    rcases hx3 with h1 | h1 | h1
    · exact h.small x (by simp [h1])
    · subst h1; exact h.small n (by simp)
    · exact h.small x (by simp [h1])
theorem foot_stored {P m r : Nat} {a b : List Nd} {n : Nd} {v : Int} (k : Nat) : foot P m r (a ++ ⟨n.b, n.e, n.k, v⟩ :: b) k ↔ foot P m r (a ++ n :: b) k := by simp [foot]
set_option maxRecDepth 100000 in
set_option maxHeartbeats 1000000 in
theorem putThere (P m r : Nat) (room : Int) (a b : List Nd) (n : Nd) (v : Int) (w : World) (h : TAt w P m r room (a ++ n :: b)) :
    Calls Try.prog 13 #[.pointer (some ⟨P, 0, none⟩), .string n.k, .int .i64 v] w fun e w' => e = .returned (.tuple #[.string .empty, .bool false]) ∧ TAt w' P m r room (⟨n.b, n.e, n.k, v⟩ :: (a ++ b)) ∧ Chg (foot P m r (a ++ n :: b)) w w' := by
  have K := Lib.hid (findSome P m r room a b n w h)
  have K2 := Lib.hid (entOf h)
  obtain ⟨_, c1, f1⟩ := ent_c0 h
  have hne : n.e ∈ (a ++ n :: b).map (·.e) := List.mem_map.2 ⟨n, by simp, rfl⟩
  have c2 := h.c2
  have h2 := h.stored v
  have d2 := h2.c2
  have K3 := Lib.hid ((raiseC r a b ⟨n.b, n.e, n.k, v⟩ _ h2.ring).mono (R' := fun e w' => e = .returned (.tuple #[]) ∧ Hid (TAt w' P m r room (⟨n.b, n.e, n.k, v⟩ :: (a ++ b)) ∧ Chg (foot P m r (a ++ n :: b)) w w')) fun e w' hr => ⟨hr.e, Lib.hid ⟨h2.raised hr.s hr.c, ((Chg.refl (foot P m r (a ++ n :: b)) w).setCell (p := ⟨n.e, 1, none⟩) (Or.inl (Or.inr (Or.inr (Or.inr hne)))) _).trans hr.c (fun k hk => Or.inl ((foot_stored k).1 (Or.inr (Or.inr (Or.inl hk)))))⟩⟩)
  clear h h2 hne
  go_enter Try.func13, Try.ntmps13
  go_wp2_with (first | (go_at_call 25; (with_reducible refine K.out.mono ?_); rintro e wA ⟨rfl, rfl⟩) | (go_at_call 24; (with_reducible refine K2.out.mono ?_); rintro e wA ⟨rfl, rfl⟩) | (go_at_call 26; (with_reducible refine K3.out.mono ?_); rintro e wA ⟨rfl, hA⟩))
  go_ret2
  exact ⟨rfl, hA.out⟩
end Go.Proofs.Ytmofjplojlobiaa
