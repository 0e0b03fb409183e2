/-
  A table: Keys; a nil table; Put as one call.
-/
import Derived.Test.YtmdpfinadffcaaaLhH
namespace Go.Proofs.Ytmdpfinadffcaaa
open Go.RowKit
open Lr (Nd)
set_option linter.unusedVariables false

/-- it returns a row of one's own of these strings -/
structure RetStrs (l : List ByteArray) (w : World) (e : Ending) (w' : World) : Prop where
  r : ∃ v, e = .returned v ∧ eltS.Row w' w.heap.size v l
  b : Below w.heap.size w w'
set_option maxRecDepth 100000 in
theorem keysC (B P : Nat) (room : Int) (l : List Lr.E) (F : Nat → Prop) (w : World) (h : TIs w B P room l F) (hl : l.length ≤ 1000000) : Calls Try.prog 47 #[.pointer (some ⟨P, 0, none⟩)] w (RetStrs (Lr.keys l) w) := by
  obtain ⟨m, r, ns, h1, rfl, h3, h4⟩ := h
  have hlt := h1.lt
  have hnl : ns.length ≤ 1000000 := by simpa [Lr.kvs] using hl
  have hold : ∀ k, k < w.heap.size → (w.alloc (.cells #[.slice none 0 0] 91)).heap[k]? = w.heap[k]? := fun k hk => Lib.alloc_old _ _ _ hk
  have h2 : TAt (w.alloc (.cells #[.slice none 0 0] 91)) P m r room ns := h1.keep (fun k hk => hold k (hlt k hk))
  have hbA : Below w.heap.size w (w.alloc (.cells #[.slice none 0 0] 91)) := (Below.refl _ _).alloc (Nat.le_refl _) _
  have c2 := h2.c2
  have K := Lib.hid ((eachC r w.heap.size ns _ h2.ring h2.ent (heap_alloc_new w _) (fun k hk => hlt k (by
    rcases hk with h | h
    · exact Or.inr (Or.inr (Or.inl h))
    · exact Or.inr (Or.inr (Or.inr h)))) hnl).mono (R' := fun e w' => e = .returned (.tuple #[]) ∧ ∃ v, w'.cell? ⟨w.heap.size, 0, none⟩ = some v ∧ Hid (RetStrs (Lr.keys (Lr.kvs ns)) w (.returned v) w')) fun e w' hr => by
      obtain ⟨v, g1, g2⟩ := hr.s
      exact ⟨hr.e, v, by rw [cell_of_row w' _ _ _ _ _ g1]; rfl, Lib.hid ⟨⟨v, rfl, g2⟩, hbA.trans hr.b⟩⟩)
  clear h1 h2 hlt hold hbA h3 h4
  go_enter Try.func47, Try.ntmps47
  go_wp2_with (go_at_call 55; (with_reducible refine K.out.mono ?_); rintro e wA ⟨rfl, v, cv, hA⟩)
  go_ret
  exact hA.out

/-! ### Put -/
theorem putC (B P : Nat) (room : Int) (l : List Lr.E) (F : Nat → Prop) (key : ByteArray) (v : Lr.V) (w : World) (h : TIs w B P room l F) (hk : key.size ≤ 140737488351232) (hl : l.length ≤ 1000000) (hr : (l.length : Int) ≤ room) (hB : B ≤ w.heap.size) :
    Calls Try.prog 16 #[.pointer (some ⟨P, 0, none⟩), .string key, .agg (Hi.cells v.1)] w (RetT (goneV (Lr.put room l key v).2) B P room (Lr.put room l key v).1 F w) := by
  obtain ⟨m, r, ns, h1, rfl, h3, h4⟩ := h
  cases hf : Lr.find (Lr.kvs ns) key with
  | none =>
    have hw : Lr.front (Lr.kvs ns) key v = (key, v) :: Lr.kvs ns := by unfold Lr.front; rw [Lr.without_none (Lr.find_none.1 hf)]
    unfold Lr.put
    rw [hw]
    refine (putNew P m r room ns key v w h1 hk (by simpa [Lr.kvs] using hl) hf).mono fun e w' hr => ?_
    obtain ⟨ms, rfl, g1, g2, g3, g4⟩ := hr
    refine ⟨rfl, ⟨foot P m r ms, ⟨m, r, ms, g2, g1, fun k => Iff.rfl, fun k hk => ?_⟩, fun k hk => ?_⟩, g3.mono (fun k hk => Or.inl ((h3 k).2 hk))⟩
    · rcases g4 k hk with h | h
      · exact h4 k ((h3 k).2 h)
      · omega
    · rcases g4 k hk with h | h
      · exact Or.inl ((h3 k).2 h)
      · exact Or.inr h
  | some u =>
    rw [Lr.put_there h1.good hr hf]
    obtain ⟨a, n, b, rfl, rfl, rfl, _⟩ := Lr.find_node hf
    have hfr : Lr.front (Lr.kvs (a ++ n :: b)) n.k v = Lr.kvs (⟨n.b, n.e, n.k, v⟩ :: (a ++ b)) := by
      unfold Lr.front
      rw [(Lr.find_split h1.good).2.2]
      rfl
    rw [hfr]
    refine (putThere P m r room a b n v w h1).mono fun e w' hr => ?_
    obtain ⟨rfl, g1, g2⟩ := hr
    have hft : ∀ k, foot P m r (⟨n.b, n.e, n.k, v⟩ :: (a ++ b)) k ↔ foot P m r (a ++ n :: b) k := fun k => (foot_raised (n := ⟨n.b, n.e, n.k, v⟩) k).trans (foot_stored k)
    exact ⟨rfl, ⟨F, ⟨m, r, _, g1, rfl, fun k => (h3 k).trans (hft k).symm, h4⟩, fun k hk => Or.inl hk⟩, g2.mono (fun k hk => Or.inl ((h3 k).2 hk))⟩
end Go.Proofs.Ytmdpfinadffcaaa
