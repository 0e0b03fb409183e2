/-
  A table: Peek, Get, Drop.
-/
import Derived.Test.YtmofjplojlobiaaLruD
namespace Go.Proofs.Ytmofjplojlobiaa
open Go.RowKit
open Lr (Nd)
set_option linter.unusedVariables false

theorem entOf {w : World} {P m r : Nat} {room : Int} {a b : List Nd} {n : Nd} (h : TAt w P m r room (a ++ n :: b)) : Calls Try.prog 24 #[.pointer (some ⟨n.b, 0, none⟩)] w (Same (.pointer (some ⟨n.e, 0, none⟩)) w) := by
  obtain ⟨p, q, hl⟩ := h.ring.link (n := n) (by simp)
  exact entryOfC n.b n.e p q w hl
theorem ent_c0 {w : World} {P m r : Nat} {room : Int} {a b : List Nd} {n : Nd} (h : TAt w P m r room (a ++ n :: b)) : w.cell? ⟨n.e, 0, none⟩ = some (.string n.k) ∧ w.cell? ⟨n.e, 1, none⟩ = some (.int .i64 n.v) ∧ w.frozen? ⟨n.e, 1, none⟩ = false := by
  have h1 := h.ent n (by simp)
  exact ⟨by rw [cell_of_row w _ _ _ _ _ h1]; rfl, by rw [cell_of_row w _ _ _ _ _ h1]; rfl, frozen_of w _ _ _ _ h1⟩
theorem peekNone (P m r : Nat) (room : Int) (ns : List Nd) (key : ByteArray) (w : World) (h : TAt w P m r room ns) (hk : key.size ≤ 9223372036854775807) (hn : Lr.find (Lr.kvs ns) key = none) :
    Calls Try.prog 15 #[.pointer (some ⟨P, 0, none⟩), .string key] w (Same (.tuple #[.int .i64 0, .bool false]) w) := by
  have K := Lib.hid (findNone P m r room ns key w h hk hn)
  clear h hn
  go_enter Try.func15, Try.ntmps15
  go_wp2_with (go_at_call 25; (with_reducible refine K.out.mono ?_); rintro e wA ⟨rfl, rfl⟩)
  go_ret2
  exact ⟨rfl, rfl⟩
theorem peekSome (P m r : Nat) (room : Int) (a b : List Nd) (n : Nd) (w : World) (h : TAt w P m r room (a ++ n :: b)) :
    Calls Try.prog 15 #[.pointer (some ⟨P, 0, none⟩), .string n.k] w (Same (.tuple #[.int .i64 n.v, .bool true]) w) := by
  have K := Lib.hid (findSome P m r room a b n w h)
  have K2 := Lib.hid (entOf h)
  obtain ⟨_, c1, _⟩ := ent_c0 h
  clear h
  generalize n.k = key at *
  generalize n.b = x at *
  generalize n.e = y at *
  generalize n.v = v at *
  go_enter Try.func15, Try.ntmps15
  go_wp2_with (first | (go_at_call 25; (with_reducible refine K.out.mono ?_); rintro e wA ⟨rfl, rfl⟩) | (go_at_call 24; (with_reducible refine K2.out.mono ?_); rintro e wA ⟨rfl, rfl⟩))
  go_ret2
  exact ⟨rfl, rfl⟩
def gotV (x : Option Int) : Value := .tuple #[.int .i64 (x.getD 0), .bool x.isSome]
theorem peekC (B P : Nat) (room : Int) (l : List Lr.E) (F : Nat → Prop) (key : ByteArray) (w : World) (h : TIs w B P room l F) (hk : key.size ≤ 140737488351232) :
    Calls Try.prog 15 #[.pointer (some ⟨P, 0, none⟩), .string key] w (Same (gotV (Lr.find l key)) w) := by
  obtain ⟨m, r, ns, h1, rfl, h3, h4⟩ := h
  cases hf : Lr.find (Lr.kvs ns) key with
  | none => exact peekNone P m r room ns key w h1 (by omega) hf
  | some v =>
    obtain ⟨a, n, b, rfl, rfl, rfl, _⟩ := Lr.find_node hf
    exact peekSome P m r room a b n w h1
theorem lenC (B P : Nat) (room : Int) (l : List Lr.E) (F : Nat → Prop) (w : World) (h : TIs w B P room l F) : Calls Try.prog 12 #[.pointer (some ⟨P, 0, none⟩)] w (Same (.int .i64 (l.length : Int)) w) := by
  obtain ⟨m, r, ns, h1, rfl, h3, h4⟩ := h
  have := lenAt P m r room ns w h1
  unfold Lr.kvs
  rwa [List.length_map]

/-- a link raised -/
theorem TAt.raised {w w' : World} {P m r : Nat} {room : Int} {a b : List Nd} {n : Nd} (h : TAt w P m r room (a ++ n :: b)) (hs : RA w' r (n :: (a ++ b))) (hc : Chg (fun k => k ∈ r :: (a ++ n :: b).map (·.b)) w w') : TAt w' P m r room (n :: (a ++ b)) := by
  obtain ⟨k1, k2, k3⟩ := h.kinds
  have hp : (a ++ n :: b).Perm (n :: (a ++ b)) := List.perm_middle
  refine ⟨hc.keep h.tab (fun hm => (k2 _ hm).1 rfl), (h.map.keep (hc.block m h.map.lt (fun hm => (k2 _ hm).2.1 rfl))).perm hp, hs, fun x hx => ?_, (hp.map _).nodup_iff.1 h.nde, ?_, fun x hx => h.small x (hp.mem_iff.2 hx)⟩
  · have hx2 := hp.mem_iff.2 hx
    exact hc.keep (h.ent x hx2) (fun hm => (k2 _ hm).2.2 (List.mem_map.2 ⟨x, hx2, rfl⟩))
  · exact ((hp.map _).map _).nodup_iff.1 h.good
theorem foot_raised {P m r : Nat} {a b : List Nd} {n : Nd} (k : Nat) : foot P m r (n :: (a ++ b)) k ↔ foot P m r (a ++ n :: b) k := by
  have hp : (a ++ n :: b).Perm (n :: (a ++ b)) := List.perm_middle
  unfold foot
  rw [List.mem_cons, List.mem_cons, (hp.map (·.b)).mem_iff, (hp.map (·.e)).mem_iff]
set_option maxRecDepth 100000 in
theorem getNone (P m r : Nat) (room : Int) (ns : List Nd) (key : ByteArray) (w : World) (h : TAt w P m r room ns) (hk : key.size ≤ 9223372036854775807) (hn : Lr.find (Lr.kvs ns) key = none) :
    Calls Try.prog 14 #[.pointer (some ⟨P, 0, none⟩), .string key] w (Same (.tuple #[.int .i64 0, .bool false]) w) := by
  have K := Lib.hid (findNone P m r room ns key w h hk hn)
  have K2 := Lib.hid (peekNone P m r room ns key w h hk hn)
  clear h hn
  go_enter Try.func14, Try.ntmps14
  go_wp2_with (first | (go_at_call 25; (with_reducible refine K.out.mono ?_); rintro e wA ⟨rfl, rfl⟩) | (go_at_call 15; (with_reducible refine K2.out.mono ?_); rintro e wA ⟨rfl, rfl⟩))
  go_ret2
  exact ⟨rfl, rfl⟩
set_option maxRecDepth 100000 in
theorem getSome (P m r : Nat) (room : Int) (a b : List Nd) (n : Nd) (w : World) (h : TAt w P m r room (a ++ n :: b)) :
    Calls Try.prog 14 #[.pointer (some ⟨P, 0, none⟩), .string n.k] w fun e w' => e = .returned (.tuple #[.int .i64 n.v, .bool true]) ∧ TAt w' P m r room (n :: (a ++ b)) ∧ Chg (foot P m r (a ++ n :: b)) w w' := by
  have K := Lib.hid (findSome P m r room a b n w h)
  have c2 := h.c2
  have K1 := Lib.hid ((raiseC r a b n w h.ring).mono (R' := fun e w' => e = .returned (.tuple #[]) ∧ Hid (TAt w' P m r room (n :: (a ++ b)) ∧ Chg (foot P m r (a ++ n :: b)) w w')) fun e w' hr => ⟨hr.e, Lib.hid ⟨h.raised hr.s hr.c, hr.c.mono (fun k hk => Or.inl (Or.inr (Or.inr (Or.inl hk))))⟩⟩)
  have K2 := Lib.hid (fun W (h : TAt W P m r room (n :: (a ++ b))) => peekSome P m r room [] (a ++ b) n W h)
  clear h
  generalize n.k = key at *
  generalize n.b = x at *
  generalize n.v = v at *
  go_enter Try.func14, Try.ntmps14
  go_wp2_with (first | (go_at_call 25; (with_reducible refine K.out.mono ?_); rintro e wA ⟨rfl, rfl⟩) | (go_at_call 26; (with_reducible refine K1.out.mono ?_); rintro e wA ⟨rfl, hA⟩) | (go_at_call 15; (with_reducible refine (K2.out _ hA.out.1).mono ?_); rintro e wA ⟨rfl, rfl⟩))
  go_ret2
  exact ⟨rfl, hA.out⟩
theorem getC (B P : Nat) (room : Int) (l : List Lr.E) (F : Nat → Prop) (key : ByteArray) (w : World) (h : TIs w B P room l F) (hk : key.size ≤ 140737488351232) :
    Calls Try.prog 14 #[.pointer (some ⟨P, 0, none⟩), .string key] w (RetT (gotV (Lr.find l key)) B P room (Lr.get l key) F w) := by
  have h0 := h
  obtain ⟨m, r, ns, h1, rfl, h3, h4⟩ := h
  cases hf : Lr.find (Lr.kvs ns) key with
  | none =>
    rw [Lr.get_none hf]
    refine (getNone P m r room ns key w h1 (by omega) hf).mono fun e w' hr => ?_
    obtain ⟨rfl, rfl⟩ := hr
    exact ⟨rfl, ⟨F, h0, fun k hk => Or.inl hk⟩, Chg.refl _ _⟩
  | some v =>
    obtain ⟨a, n, b, rfl, rfl, rfl, _⟩ := Lr.find_node hf
    rw [Lr.get_split h1.good]
    refine (getSome P m r room a b n w h1).mono fun e w' hr => ?_
    obtain ⟨rfl, g1, g2⟩ := hr
    refine ⟨rfl, ⟨F, ⟨m, r, _, g1, rfl, fun k => (h3 k).trans (foot_raised k).symm, h4⟩, fun k hk => Or.inl hk⟩, g2.mono (fun k hk => Or.inl ((h3 k).2 hk))⟩
end Go.Proofs.Ytmofjplojlobiaa
