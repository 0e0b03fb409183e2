/-
  A map of pairs by their keys; the program's Parse.
-/
import Derived.Test.YtmfnfjcoaijjdaaDoorPropF
import Derived.Maps.OwnSet
import Derived.Maps.OwnOps
import Derived.Maps.Views
import Derived.StringKeys
namespace Go.Proofs.YtmfnfjcoaijjdaaDoor
open Go.RowKit
set_option linter.unusedVariables false

/-- a pair as a datum -/
def pd (p : Pr.Pair) : DataW Unit := .agg [.lit (.string p.1), .lit (.string p.2)]
/-- how a pair's value reads -/
def pairR (v : Value) : Option (DataW Unit × List MemPlace) :=
  match v with
  | .agg cs => match cs.toList with
    | [.string a, .string b] => some (.agg [.lit (.string (bl a)), .lit (.string (bl b))], [])
    | _ => none
  | _ => none
theorem pairR_mk (p : Pr.Pair) : pairR (.agg #[.string (mk p.1), .string (mk p.2)]) = some (pd p, []) := by
  simp [pairR, pd, bl_mk']
theorem pairR_inv {v : Value} {d : DataW Unit} {ps : List MemPlace} (h : pairR v = some (d, ps)) : ∃ p : Pr.Pair, v = .agg #[.string (mk p.1), .string (mk p.2)] ∧ d = pd p := by
  unfold pairR at h
  split at h
  · rename_i cs
    split at h
    · rename_i a b e
      refine ⟨(bl a, bl b), ?_, ?_⟩
      · simp only [mk_bl']
        congr 1
        apply Array.toList_inj.1
        rw [e]
      · simp at h; exact h.1.symm
    · cases h
  · cases h
/-- the map of pairs, as a datum -/
def Dof (acc : List Pr.Pair) : DataW Unit := acc.foldl (fun D p => D.put (.string p.1) (pd p)) (.map [])
theorem dof_snoc (acc : List Pr.Pair) (p : Pr.Pair) : Dof (acc ++ [p]) = (Dof acc).put (.string p.1) (pd p) := by simp [Dof, List.foldl_append]
theorem lit_ne {a b : Pr.B} (h : a ≠ b) : (Lit.string a) ≠ .string b := fun e => h (by simpa using e)
theorem has_fold (k : Pr.B) : ∀ (l : List Pr.Pair) (D : DataW Unit), Maps.IsMap D → Maps.has (l.foldl (fun D p => D.put (.string p.1) (pd p)) D) (.string k) = (Maps.has D (.string k) || Pr.hasKey l k)
  | [], D, _ => by simp [Pr.hasKey]
  | p :: r, D, h => by
    rw [List.foldl_cons, has_fold k r _ (h.put _ _)]
    by_cases e : p.1 = k
    · subst e
      rw [Maps.has_put_same h (by trivial)]
      simp [Pr.hasKey]
    · rw [Maps.has_put_other (lit_ne (Ne.symm e))]
      have : (p.1 == k) = false := by simpa using e
      simp [Pr.hasKey, this]
theorem has_dof (acc : List Pr.Pair) (k : Pr.B) : Maps.has (Dof acc) (.string k) = Pr.hasKey acc k := by
  unfold Dof
  rw [has_fold k acc _ Maps.isMap_empty]
  rfl
theorem at_fold (k : Pr.B) (z : DataW Unit) : ∀ (l : List Pr.Pair) (D : DataW Unit), Maps.IsMap D → (l.map (·.1)).Nodup →
    (l.foldl (fun D p => D.put (.string p.1) (pd p)) D).atKey (.string k) z = match Pr.findK l k with | some u => pd (k, u) | none => D.atKey (.string k) z
  | [], D, _, _ => by simp [Pr.findK_nil]
  | p :: r, D, h, hn => by
    rw [List.map_cons, List.nodup_cons] at hn
    rw [List.foldl_cons, at_fold k z r _ (h.put _ _) hn.2, Pr.findK_cons]
    by_cases e : p.1 = k
    · subst e
      have : Pr.findK r p.1 = none := (Pr.findK_none r p.1).2 hn.1
      rw [this, if_pos rfl]
      exact Maps.atKey_put_same h (by trivial) _ _
    · rw [if_neg e]
      cases Pr.findK r k with
      | some u => rfl
      | none => exact Maps.atKey_put_other (lit_ne (Ne.symm e)) _ _
theorem at_dof {acc : List Pr.Pair} (hn : (acc.map (·.1)).Nodup) {k u : Pr.B} (h : Pr.findK acc k = some u) (z : DataW Unit) : (Dof acc).atKey (.string k) z = pd (k, u) := by
  unfold Dof
  rw [at_fold k z acc _ Maps.isMap_empty hn, h]
theorem pd_inj {p q : Pr.Pair} (h : pd p = pd q) : p = q := by
  unfold pd at h
  injection h with h
  simp at h
  exact Prod.ext h.1 h.2

theorem keyedS : Maps.Keyed Tryd.prog 9 := Maps.string_keyed Tryd.underlying9
/-- block b is the map of these pairs -/
def MapP (w : World) (b : Nat) (acc : List Pr.Pair) : Prop := w.ownsMap Tryd.prog 9 pairR b acc.length (Dof acc)
theorem MapP.lt {w : World} {b : Nat} {acc : List Pr.Pair} (h : MapP w b acc) : b < w.heap.size := World.ownsMap.lt h
theorem MapP.below {w w' : World} {b : Nat} {acc : List Pr.Pair} (h : MapP w b acc) (hb : Below w.heap.size w w') : MapP w' b acc := by
  have hl := h.lt
  obtain ⟨es, clock, hm, r⟩ := h
  exact ⟨es, clock, (hb.block b hl).trans hm, r⟩
theorem MapP.keep {w w' : World} {b : Nat} {acc : List Pr.Pair} (h : MapP w b acc) (hb : w'.heap[b]? = w.heap[b]?) : MapP w' b acc := by
  obtain ⟨es, clock, hm, r⟩ := h
  exact ⟨es, clock, hb.trans hm, r⟩
theorem MapP.made (w : World) : MapP (w.alloc (.map #[] 0)) w.heap.size [] := World.ownsMap_made w _ _ _
theorem key_mk (k : Pr.B) (h : k.length ≤ 64) : keyOf Tryd.prog 9 (.string (mk k)) = some (.string k) := by
  have := WideMaps.keyOf_string_mk (P := Tryd.prog) Tryd.underlying9 (s := mk k) (by rw [size_mk']; unfold maxLen; omega)
  rw [this]
  simp [mk]

/-- 'v, there := m[k]' -/
theorem wpLook (w : World) {ops : Array Oper} {rest : List Oper} {o : Oper} {a : Act} {Q : Exit → Act → World → Prop} (hg : o.guard = none) (m x : Operand) (hop : o.op = Op.lookup 41 m x true)
    (b : Nat) (acc : List Pr.Pair) (hm : a.eval m = .map (some b)) (hM : MapP w b acc) (k : Pr.B) (hx : a.eval x = .string (mk k)) (hk : k.length ≤ 64)
    (hK : ∀ p : Pr.Pair, ((acc.map (·.1)).Nodup → ∀ u, Pr.findK acc k = some u → p.2 = u) → wpList Tryd.prog ops Q rest (a.put o.dst (.tuple #[.agg #[.string (mk p.1), .string (mk p.2)], .bool (Pr.hasKey acc k)])) w) :
    wpList Tryd.prog ops Q (o :: rest) a w := by
  refine wpList_lookup_own_ok _ hg m x _ hop 9 39 keyedS Tryd.underlying41 pairR (z := .agg #[.string .empty, .string .empty]) (Tryd.zeroValue39 w) (pd ([], [])) [] (pairR_mk ([], [])) b _ _ hm hM _ _ hx (key_mk k hk) ?_
  intro v ps hv
  obtain ⟨p, rfl, hp⟩ := pairR_inv hv
  rw [has_dof]
  refine hK p (fun hn u hu => ?_)
  rw [at_dof hn hu] at hp
  rw [← pd_inj hp]

/-- 'm[k] = p' -/
theorem wpPut (w : World) {ops : Array Oper} {rest : List Oper} {o : Oper} {a : Act} {Q : Exit → Act → World → Prop} (hg : o.guard = none) (m x v : Operand) (hop : o.op = Op.mapUpdate 41 m x v)
    (B b : Nat) (acc : List Pr.Pair) (hm : a.eval m = .map (some b)) (hM : MapP w b acc) (hl : acc.length ≤ 1000000) (hBb : B ≤ b) (p : Pr.Pair) (hx : a.eval x = .string (mk p.1)) (hk : p.1.length ≤ 64)
    (hv : a.eval v = .agg #[.string (mk p.1), .string (mk p.2)])
    (hK : ∀ w', MapP w' b (acc ++ [p]) → Below B w w' → (∀ k, k ≠ b → k < w.heap.size → w'.heap[k]? = w.heap[k]?) → wpList Tryd.prog ops Q rest (a.put o.dst undef) w') :
    wpList Tryd.prog ops Q (o :: rest) a w := by
  have hlt := hM.lt
  refine wpList_mapUpdate_own _ hg m x v _ hop 9 39 keyedS Tryd.underlying41 pairR b _ _ hm hM (by unfold maxLen; omega) _ _ _ hx hv (key_mk p.1 hk) (pd p) [] (pairR_mk p) ?_
  intro w' h1 h2
  refine hK w' ?_ ((Below.refl B w).grown h2 (by omega) (fun k hk => by cases hk; exact hBb)) (fun k hk hkl => h2.block k hkl (by simpa using hk))
  unfold MapP
  rw [dof_snoc, List.length_append]
  exact h1
end Go.Proofs.YtmfnfjcoaijjdaaDoor
