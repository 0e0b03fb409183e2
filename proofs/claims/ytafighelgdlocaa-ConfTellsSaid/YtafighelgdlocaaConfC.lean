/-
  The program's tenants: names that have occurred are keys of a map.
-/
import Derived.Test.YtafighelgdlocaaConfB
import Derived.Maps.OwnSet
import Derived.Maps.OwnOps
import Derived.Maps.Views
import Derived.StringKeys
namespace Go.Proofs.Ytafighelgdlocaa
open Go.RowKit
set_option linter.unusedVariables false

/-- the names of the first n, as a datum -/
def Dn (t : Nat → Cf.T) : Nat → DataW Unit
  | 0 => .map []
  | n + 1 => (Dn t n).put (.string (bl (t n).1)) (.lit (.int .i64 (n : Int)))
theorem isMap_dn (t : Nat → Cf.T) : ∀ n, Maps.IsMap (Dn t n)
  | 0 => Maps.isMap_empty
  | n + 1 => (isMap_dn t n).put _ _
theorem has_dn (t : Nat → Cf.T) (s : ByteArray) : ∀ n, Maps.has (Dn t n) (.string (bl s)) = Cf.seen t s n
  | 0 => rfl
  | n + 1 => by
    unfold Dn Cf.seen
    by_cases h : (t n).1 = s
    · rw [h, Maps.has_put_same (isMap_dn t n) (by trivial)]; simp
    · rw [Maps.has_put_other (fun e => h (bl_inj (by simpa using e.symm))), has_dn t s n]; simp [h]
theorem keyedN : Maps.Keyed Try.prog 9 := Maps.string_keyed Try.underlying9
/-- block b is the map of the first n names -/
def MapN (w : World) (b : Nat) (t : Nat → Cf.T) (n : Nat) : Prop := w.ownsMap Try.prog 9 (plainElem Try.prog 3) b n (Dn t n)
theorem MapN.lt {w : World} {b : Nat} {t : Nat → Cf.T} {n : Nat} (h : MapN w b t n) : b < w.heap.size := World.ownsMap.lt h
theorem MapN.below {w w' : World} {b : Nat} {t : Nat → Cf.T} {n : Nat} (h : MapN w b t n) (hb : Below w.heap.size w w') : MapN w' b t n := by
  have hl := h.lt
  obtain ⟨es, clock, hm, r⟩ := h
  exact ⟨es, clock, (hb.block b hl).trans hm, r⟩
theorem MapN.made (w : World) (t : Nat → Cf.T) : MapN (w.alloc (.map #[] 0)) w.heap.size t 0 := World.ownsMap_made w _ _ _
theorem key_mkN (s : ByteArray) (h : s.size ≤ 9223372036854775807) : keyOf Try.prog 9 (.string s) = some (.string (bl s)) := WideMaps.keyOf_string_mk (P := Try.prog) Try.underlying9 h

/-- 'v, there := m[k]' -/
theorem wpLookN (w : World) {ops : Array Oper} {rest : List Oper} {o : Oper} {a : Act} {Q : Exit → Act → World → Prop} (hg : o.guard = none) (m x : Operand) (hop : o.op = Op.lookup 49 m x true)
    (b : Nat) (t : Nat → Cf.T) (n : Nat) (hm : a.eval m = .map (some b)) (hM : MapN w b t n) (s : ByteArray) (hx : a.eval x = .string s) (hk : s.size ≤ 9223372036854775807) (sn : Bool) (hs : Cf.seen t s n = sn)
    (hK : ∀ c : Int, wpList Try.prog ops Q rest (a.put o.dst (.tuple #[.int .i64 c, .bool sn])) w) :
    wpList Try.prog ops Q (o :: rest) a w := by
  refine wpList_lookup_own_ok_int _ hg m x _ hop 9 3 .i64 keyedN Try.underlying49 Try.underlying3 (Try.zeroValue3 w) b _ _ hm hM _ _ hx (key_mkN s hk) ?_
  intro c _ _
  rw [has_dn, hs]
  exact hK c

/-- 'm[k] = n' -/
theorem wpPutN (w : World) {ops : Array Oper} {rest : List Oper} {o : Oper} {a : Act} {Q : Exit → Act → World → Prop} (hg : o.guard = none) (m x v : Operand) (hop : o.op = Op.mapUpdate 49 m x v)
    (B b : Nat) (t : Nat → Cf.T) (n : Nat) (hm : a.eval m = .map (some b)) (hM : MapN w b t n) (hl : n ≤ 1000000) (hBb : B ≤ b) (hx : a.eval x = .string (t n).1) (hk : (t n).1.size ≤ 9223372036854775807)
    (hv : a.eval v = .int .i64 (n : Int))
    (hK : ∀ w', MapN w' b t (n + 1) → Below B w w' → wpList Try.prog ops Q rest (a.put o.dst undef) w') :
    wpList Try.prog ops Q (o :: rest) a w := by
  have hlt := hM.lt
  refine wpList_mapUpdate_own _ hg m x v _ hop 9 3 keyedN Try.underlying49 (plainElem Try.prog 3) b _ _ hm hM (by unfold maxLen; omega) _ _ _ hx hv (key_mkN _ hk) (.lit (.int .i64 (n : Int))) [] (plainElem_int Try.underlying3 (by
    have e1 : IntKind.i64.min = -9223372036854775808 := by decide
    have e2 : IntKind.i64.max = 9223372036854775807 := by decide
    simp [Lit.wf]; omega)) ?_
  intro w' h1 h2
  exact hK w' h1 ((Below.refl B w).grown h2 (by omega) (fun k hk => by cases hk; exact hBb))
end Go.Proofs.Ytafighelgdlocaa
