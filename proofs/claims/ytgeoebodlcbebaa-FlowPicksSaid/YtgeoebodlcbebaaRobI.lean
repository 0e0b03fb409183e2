/-
  A ring of flows: a call of one of its queues; Take.
-/
import Derived.Test.YtgeoebodlcbebaaRobH
namespace Rb
def Nd.que (n : Nd) (F : Nat → Prop) (its : List Ff.E) : Nd := { n with F := F, r := { n.r with its := its } }
end Rb
namespace Go.Proofs.Ytgeoebodlcbebaa
open Go.RowKit
open Rb (Nd)
set_option linter.unusedVariables false

theorem mem_que {a b : List Nd} {n z : Nd} {F : Nat → Prop} {its : List Ff.E} (h : z ∈ a ++ n.que F its :: b) : z = n.que F its ∨ (z ∈ a ++ n :: b ∧ z ∈ a ++ b) := by
  rcases List.mem_append.1 h with h | h
  · exact Or.inr ⟨by simp [h], by simp [h]⟩
  · rcases List.mem_cons.1 h with h | h
    · exact Or.inl h
    · exact Or.inr ⟨by simp [h], by simp [h]⟩
theorem map_que (a b : List Nd) (n : Nd) (F : Nat → Prop) (its : List Ff.E) : (a ++ n.que F its :: b).map (·.b) = (a ++ n :: b).map (·.b) := by simp [Rb.Nd.que]
theorem vis_que (a b : List Nd) (n : Nd) (F : Nat → Prop) (its : List Ff.E) : visOf (a ++ n.que F its :: b) = visOf (a ++ n :: b) := by cases a <;> rfl
theorem RIn.queue {w w' : World} {B R m : Nat} {q : Int} {g : Bool} {a b : List Nd} {n : Nd} {x y : Nat → Nat} {r : Value} {its : List Ff.E} {e : Ending} (h : RIn w B R m q g (a ++ n :: b) x y) (hBw : B ≤ w.heap.size) (hr : RetQ r B n.q its n.F w e w') :
    ∃ F', RIn w' B R m q g (a ++ n.que F' its :: b) x y ∧ (∀ k, footG R m (a ++ n.que F' its :: b) k → footG R m (a ++ n :: b) k ∨ w.heap.size ≤ k) ∧ Chg (footG R m (a ++ n :: b)) w w' := by
  obtain ⟨F', g1, g2⟩ := hr.s
  have hn : n ∈ a ++ n :: b := by simp
  have hnd := h.r.ndb
  have hne : ∀ z ∈ a ++ b, z.b ≠ n.b := fun z hz => by
    rw [List.map_append, List.map_cons, List.nodup_append] at hnd
    obtain ⟨_, h2, h3⟩ := hnd
    rw [List.nodup_cons] at h2
    rcases List.mem_append.1 hz with h4 | h4
    · exact h3 z.b (List.mem_map.2 ⟨z, h4, rfl⟩) n.b (by simp)
    · exact fun e => h2.1 (by rw [← e]; exact List.mem_map.2 ⟨z, h4, rfl⟩)
  have hkeep : ∀ k, footR R m (a ++ n :: b) k → w'.heap[k]? = w.heap[k]? := fun k hk => hr.c.block k (h.r.lt k hk) (fun hf => h.qs.own n hn k hf hk)
  have hz : ∀ z ∈ a ++ b, z ∈ a ++ n :: b := fun z hz => by
    rcases List.mem_append.1 hz with h | h <;> simp [h]
  have hkz : ∀ z ∈ a ++ b, ∀ k, z.F k → ¬ n.F k := fun z hz' => h.qs.apart z (hz z hz') n hn (hne z hz')
  have hfR : ∀ k, footR R m (a ++ n.que F' its :: b) k ↔ footR R m (a ++ n :: b) k := fun k => by unfold footR; rw [map_que]
  have hfG : ∀ k, footG R m (a ++ n.que F' its :: b) k → footG R m (a ++ n :: b) k ∨ w.heap.size ≤ k := fun k hk => by
    rcases hk with hk | ⟨z, hz', hk⟩
    · exact Or.inl (Or.inl ((hfR k).1 hk))
    · rcases mem_que hz' with e | ⟨i1, i2⟩
      · subst e
        rcases g2 k hk with e | e
        · exact Or.inl (Or.inr ⟨n, hn, e⟩)
        · exact Or.inr e
      · exact Or.inl (Or.inr ⟨z, i1, hk⟩)
  refine ⟨F', ⟨?_, ⟨fun z hz' => ?_, fun z hz' => ?_, fun z hz' k hk hx => ?_, fun z hz1 z' hz2 hne' k hk hk' => ?_⟩, by rw [map_que]; exact h.ring, fun k hk => ?_⟩, hfG, hr.c.mono (fun k hk => Or.inl (Or.inr ⟨n, hn, hk⟩))⟩
  · rw [vis_que]
    exact (h.r.keep hkeep).swap rfl rfl rfl rfl rfl rfl
  · rcases mem_que hz' with e | ⟨i1, i2⟩
    · subst e; exact h.qs.src n hn
    · exact h.qs.src z i1
  · rcases mem_que hz' with e | ⟨i1, i2⟩
    · subst e; exact g1
    · exact (h.qs.q z i1).keep (fun k hk => hr.c.block k ((h.qs.q z i1).lt k hk).2 (hkz z i2 k hk))
  · have hx := (hfR k).1 hx
    rcases mem_que hz' with e | ⟨i1, i2⟩
    · subst e
      rcases g2 k hk with e | e
      · exact h.qs.own n hn k e hx
      · have := h.r.lt k hx; omega
    · exact h.qs.own z i1 k hk hx
  · rcases mem_que hz1 with e | ⟨i1, i2⟩ <;> rcases mem_que hz2 with e' | ⟨j1, j2⟩
    · subst e e'; exact absurd rfl hne'
    · subst e
      rcases g2 k hk with e | e
      · exact hkz z' j2 k hk' e
      · have := ((h.qs.q z' j1).lt k hk').2; omega
    · subst e'
      rcases g2 k hk' with e | e
      · exact hkz z i2 k hk e
      · have := ((h.qs.q z i1).lt k hk).2; omega
    · exact h.qs.apart z i1 z' j1 hne' k hk hk'
  · rcases hfG k hk with e | e
    · exact h.lo k e
    · omega
end Go.Proofs.Ytgeoebodlcbebaa
