/-
  A slice of timers appended to a row of one's own, whatever its length.
-/
import Derived.Test.YtmglpjbikknjgaaWhR
import Derived.Laws.AppendOwnNone
namespace Go.Proofs.Ytmglpjbikknjgaa
open Go.RowKit
set_option linter.unusedVariables false

theorem run_append_zero {P : Program} {w : World} (base : Nat) (t ty e : TypeId) (i : TypeInfo) (size : Nat) (ht : P.underlying t = some (.slice e)) (hi : P.info? e = some i)
    (v : Value) (n : Nat) (xs : List Value) (hown : w.ownsRow base e size v n xs) (hv : v ≠ .slice none 0 0) (ad : Addr) (c : Nat) :
    (Builtin.append_ #[t, t] ty #[v, .slice (some ad) 0 c]).run P w = .ok v w := by
  rcases hown.2 with ⟨rfl, rfl⟩ | ⟨g, cap, cur, rfl, _, _, hnc, _⟩
  · exact absurd rfl hv
  · simp [Builtin.append_, run_underlying ht, sizeOf, typeInfo, hi, Builtin.lenOf, Builtin.firstCells, hnc, storeCells, loadCells, loadCellsFrom]

theorem cellsE_one (l : List Wh.E) : ∀ u ∈ cellsE l, u.oneCell' = true := fun u hu => by
  obtain ⟨e, _, he⟩ := List.mem_flatMap.1 hu
  simp [pvE] at he
  rcases he with rfl | rfl | rfl <;> rfl
theorem cellsE_view {w : World} {g off : Nat} {l : List Wh.E} (hc : ∀ j (h : j < l.length), w.cell? ⟨g, off + j * 3, none⟩ = some (.int .i64 0) ∧ w.cell? ⟨g, off + j * 3 + 1, none⟩ = some (.int .i64 l[j].1) ∧ w.cell? ⟨g, off + j * 3 + 2, none⟩ = some (.int .u64 l[j].2)) :
    ∀ j u, (cellsE l)[j]? = some u → w.cell? ((⟨g, off, none⟩ : Addr).add j) = some u := by
  intro j u hu
  have hj : j < l.length * 3 := by
    have := (List.getElem?_eq_some_iff.1 hu).1
    rwa [cellsE_length] at this
  have hq : j / 3 < l.length := by omega
  obtain ⟨c0, c1, c2⟩ := hc (j / 3) hq
  obtain ⟨e0, e1, e2⟩ := cellsE_get l (j / 3) hq
  have ha : (⟨g, off, none⟩ : Addr).add j = ⟨g, off + j, none⟩ := by unfold Addr.add; by_cases h : j = 0 <;> simp [h]
  rw [ha]
  have hm : j % 3 = 0 ∨ j % 3 = 1 ∨ j % 3 = 2 := by omega
  rcases hm with hm | hm | hm
  · have hj2 : j = j / 3 * 3 := by omega
    rw [hj2] at hu ⊢
    rw [e0] at hu; rw [c0]; exact hu
  · have hj2 : j = j / 3 * 3 + 1 := by omega
    rw [hj2] at hu ⊢
    rw [e1] at hu; rw [← Nat.add_assoc, c1]; exact hu
  · have hj2 : j = j / 3 * 3 + 2 := by omega
    rw [hj2] at hu ⊢
    rw [e2] at hu; rw [← Nat.add_assoc, c2]; exact hu

/-- 'append(own, x...)', x any slice of timers -/
theorem wpAppT (w : World) {ops : Array Oper} {rest : List Oper} {o : Oper} {a : Act} {Q : Exit → Act → World → Prop} (hgd : o.guard = none) (s x : Operand)
    (ho : o.op = .call { callee := .builtin .append, args := #[s, x], argTypes := #[28, 28] })
    (B : Nat) (v : Value) (l : List Wh.E) (hs : a.eval s = v) (hown : RowE w B v l) (hv : v ≠ .slice none 0 0)
    (ad : Option Addr) (T : List Wh.E) (c : Nat) (hx : a.eval x = .slice ad T.length c) (hx0 : ad = none → c = 0) (hT : ViewO w ad T) (hl : l.length + T.length ≤ 1000000) (hB : B ≤ w.heap.size)
    (hK : ∀ v' w', v' ≠ .slice none 0 0 → RowE w' B v' (l ++ T) → Below B w w' → (∀ k, k < w.heap.size → some k ≠ v.ownBlock → w'.heap[k]? = w.heap[k]?) → (∀ k, v'.ownBlock = some k → v.ownBlock = some k ∨ w.heap.size ≤ k) → wpList Try.prog ops Q rest (a.put o.dst v') w') :
    wpList Try.prog ops Q (o :: rest) a w := by
  obtain ⟨i, hi, hz0, hz1, hz2⟩ := info_parts infoTimer
  by_cases h0 : 0 < T.length
  · obtain ⟨g, off, rfl, hg, hc⟩ := hT.is h0
    refine wpList_append_lies _ hgd s x _ ho B 51 i _ 3 24 Try.underlying28 hi hz0 hz1 hz2 rfl (by decide) v l.length (cellsE l) hs hown ⟨g, off, none⟩ T.length c (cellsE T) hx (cellsE_length T) (cellsE_view hc) (cellsE_one T) h0 (by unfold maxLen; omega) (Nat.le_trans (Nat.mul_le_mul_right 24 hl) (by decide)) hB _ rfl ?_
    intro g2 cap w' h2 h3 h4 h5
    refine hK _ w' (fun h => by cases h) ?_ ?_ ?_ ?_
    · unfold RowE
      rw [List.length_append, show cellsE (l ++ T) = cellsE l ++ cellsE T by simp [cellsE]]
      exact h2
    · exact (Below.refl B w).grown h3 hB (fun k hk => (World.ownsRow.lt hown k hk).1)
    · exact fun k hk hne => h3.block k hk hne
    · intro k hk
      simp [Value.ownBlock] at hk
      subst hk
      rcases h4 with h | h
      · exact Or.inl h
      · right; omega
  · have hT0 : T = [] := List.length_eq_zero_iff.1 (by omega)
    subst hT0
    have hfin := hK v w hv (by rw [List.append_nil]; exact hown) (Below.refl _ _) (fun _ _ _ => rfl) (fun k h => Or.inl h)
    cases ad with
    | none =>
      have e : c = 0 := hx0 rfl
      subst e
      exact wpList_append_own_none hgd s x _ ho B 51 i 3 Try.underlying28 hi v l.length (cellsE l) hs hown hx hfin
    | some ad =>
      refine wpList_plain hgd fun K2 hK2 => ?_
      have hrun := run_append_zero (P := Try.prog) (w := w) B 28 o.type 51 i 3 Try.underlying28 hi v l.length (cellsE l) hown hv ad c
      have hx' : a.eval x = .slice (some ad) 0 c := hx
      unfold Oper.wp
      simp [execOp, ho, resolve, invoke, builtin, hs, hx', hrun, Result.andThen]
      exact hK2 _ _ hfin
end Go.Proofs.Ytmglpjbikknjgaa
