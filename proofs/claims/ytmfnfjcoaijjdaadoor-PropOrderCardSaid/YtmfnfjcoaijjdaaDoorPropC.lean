/-
  The document's Split. Rows that grow by 'append', whatever their elements.
-/
import Derived.Test.YtmfnfjcoaijjdaaDoorPropB
import Derived.Laws.OwnMore
import Derived.Maps.Own
namespace Go.Proofs.YtmfnfjcoaijjdaaDoor
open Go.RowKit
set_option linter.unusedVariables false

section
variable {P : Program}
/-- 'append(own, x)', x an element of 'size' cells that stands in a block of its own: the row grows; what was below stays. -/
theorem wpApp (w : World) {ops : Array Oper} {rest : List Oper} {o : Oper} {a : Act} {Q : Exit → Act → World → Prop} (hgd : o.guard = none) (s x : Operand) (t : TypeId)
    (ho : o.op = .call { callee := .builtin .append, args := #[s, x], argTypes := #[t, t] })
    (B : Nat) (e : TypeId) (z : Value) (size bytes : Nat) (ht : P.underlying t = some (.slice e)) (hinfo : (P.info? e).map (fun i => (i.zero, i.size, i.bytes)) = some (some z, size, bytes))
    (hzs : z.cells.size = size) (hsz : 0 < size) (hby : bytes ≤ 1024)
    (v : Value) (n : Nat) (xs : List Value) (hs : a.eval s = v) (hown : w.ownsRow B e size v n xs)
    (news : Array Value) (c : Nat) (hx : a.eval x = .slice (some ⟨w.heap.size, 0, none⟩) 1 c) (hl : news.size = size) (h1 : ∀ u ∈ news.toList, u.oneCell' = true)
    (hn : n ≤ 9223372036) (hB : B ≤ w.heap.size)
    (hK : ∀ v' w', w'.ownsRow B e size v' (n + 1) (xs ++ news.toList) → Below B w w' → (∀ k, k < w.heap.size → some k ≠ v.ownBlock → w'.heap[k]? = w.heap[k]?) → wpList P ops Q rest (a.put o.dst v') w') :
    wpList P ops Q (o :: rest) a (w.alloc (.cells news e)) := by
  obtain ⟨i, hi, hz0, hz1, hz2⟩ := info_parts hinfo
  refine wpList_append_own _ hgd s x t ho B e i z size bytes ht hi hz0 hz1 hz2 hzs hsz v n xs hs (hown.alloc _) ⟨w.heap.size, 0, none⟩ 1 c news.toList hx (by simp [hl]) ?_ h1 (by unfold maxLen; omega) ?_ (by simp; omega) ?_
  · intro j u hu
    have : (⟨w.heap.size, 0, none⟩ : Addr).add j = ⟨w.heap.size, j, none⟩ := by unfold Addr.add; by_cases h : j = 0 <;> simp [h]
    rw [this, World.cell?_alloc_at news e w.heap.size j rfl]
    simpa using hu
  · exact Nat.le_trans (Nat.mul_le_mul (show n + 1 ≤ 9223372037 by omega) hby) (by decide)
  · intro v' w' h2 h3 h4
    refine hK v' w' h2 ?_ ?_
    · exact ((Below.refl B w).alloc hB _).grown h3 (by simp; omega) (fun k hk => (hown.lt k hk).1)
    · intro k hk hne
      rw [h3.block k (by simp; omega) hne, Lib.alloc_old _ _ _ hk]

/-- .. at a step of a region that draws its order -/
theorem stepApp (w : World) {ops : Array Oper} {o : Oper} {a : Act} {K : Act → World → Prop} {Q : Exit → Act → World → Prop} {E : Prop} (hgd : o.guard = none) (s x : Operand) (t : TypeId)
    (ho : o.op = .call { callee := .builtin .append, args := #[s, x], argTypes := #[t, t] })
    (B : Nat) (e : TypeId) (z : Value) (size bytes : Nat) (ht : P.underlying t = some (.slice e)) (hinfo : (P.info? e).map (fun i => (i.zero, i.size, i.bytes)) = some (some z, size, bytes))
    (hzs : z.cells.size = size) (hsz : 0 < size) (hby : bytes ≤ 1024)
    (v : Value) (n : Nat) (xs : List Value) (hs : a.eval s = v) (hown : w.ownsRow B e size v n xs)
    (news : Array Value) (c : Nat) (hx : a.eval x = .slice (some ⟨w.heap.size, 0, none⟩) 1 c) (hl : news.size = size) (h1 : ∀ u ∈ news.toList, u.oneCell' = true)
    (hn : n ≤ 9223372036) (hB : B ≤ w.heap.size)
    (hK : ∀ v' w', w'.ownsRow B e size v' (n + 1) (xs ++ news.toList) → Below B w w' → (∀ k, k < w.heap.size → some k ≠ v.ownBlock → w'.heap[k]? = w.heap[k]?) → K (a.put o.dst v') w') :
    if Region.wanted o (yielded ops a.tmps) = true then Oper.wp P o a (w.alloc (.cells news e)) K Q else E := by
  have hw : Region.wanted o (yielded ops a.tmps) = true := by simp [Region.wanted, hgd]
  rw [if_pos hw]
  obtain ⟨i, hi, hz0, hz1, hz2⟩ := info_parts hinfo
  refine wp_append_own _ s x t ho B e i z size bytes ht hi hz0 hz1 hz2 hzs hsz v n xs hs (hown.alloc _) ⟨w.heap.size, 0, none⟩ 1 c news.toList hx (by simp [hl]) ?_ h1 (by unfold maxLen; omega) ?_ (by simp; omega) ?_
  · intro j u hu
    have : (⟨w.heap.size, 0, none⟩ : Addr).add j = ⟨w.heap.size, j, none⟩ := by unfold Addr.add; by_cases h : j = 0 <;> simp [h]
    rw [this, World.cell?_alloc_at news e w.heap.size j rfl]
    simpa using hu
  · exact Nat.le_trans (Nat.mul_le_mul (show n + 1 ≤ 9223372037 by omega) hby) (by decide)
  · intro v' w' h2 h3 h4
    refine hK v' w' h2 ?_ ?_
    · exact ((Below.refl B w).alloc hB _).grown h3 (by simp; omega) (fun k hk => (hown.lt k hk).1)
    · intro k hk hne
      rw [h3.block k (by simp; omega) hne, Lib.alloc_old _ _ _ hk]

/-- an empty row, as a literal makes it -/
theorem own_lit (w : World) (B : Nat) (e : TypeId) (size : Nat) (hB : B ≤ w.heap.size) : (w.alloc (.cells #[] e)).ownsRow B e size (.slice (some ⟨w.heap.size, 0, none⟩) 0 0) 0 [] :=
  ⟨by simp, Or.inr ⟨w.heap.size, 0, #[], rfl, hB, heap_alloc_new w _, by simp, by simp, by simp, by simp⟩⟩
/-- a row stays while what is below a higher mark stays -/
theorem own_below {w w' : World} {B : Nat} {e : TypeId} {size : Nat} {v : Value} {n : Nat} {xs : List Value} (h : w.ownsRow B e size v n xs) (hb : Below w.heap.size w w') : w'.ownsRow B e size v n xs := by
  obtain ⟨hl, h | ⟨g, cap, cur, hv, hg, hc, hr⟩⟩ := h
  · exact ⟨hl, Or.inl h⟩
  · exact ⟨hl, Or.inr ⟨g, cap, cur, hv, hg, (hb.block g (lt_block hc)).trans hc, hr⟩⟩
theorem own_base {w : World} {B B' : Nat} {e : TypeId} {size : Nat} {v : Value} {n : Nat} {xs : List Value} (h : w.ownsRow B e size v n xs) (hb : B' ≤ B) : w.ownsRow B' e size v n xs := by
  obtain ⟨hl, h | ⟨g, cap, cur, hv, hg, hc, hr⟩⟩ := h
  · exact ⟨hl, Or.inl h⟩
  · exact ⟨hl, Or.inr ⟨g, cap, cur, hv, Nat.le_trans hb hg, hc, hr⟩⟩
end

theorem Strs.below {w w' : World} {v : Value} {l : List Pr.B} (h : Strs w v l) (hb : Below w.heap.size w w') : Strs w' v l := by
  obtain ⟨g, cap, cur, hv, hc, hr⟩ := h.ex
  exact ⟨g, cap, cur, hv, (hb.block g (lt_block hc)).trans hc, hr⟩

/-- the cells of strings -/
def cellsS (l : List Pr.B) : List Value := l.map fun x => Value.string (mk x)
theorem cellsS_snoc (l : List Pr.B) (x : Pr.B) : cellsS l ++ [.string (mk x)] = cellsS (l ++ [x]) := by simp [cellsS]
theorem strs_of {w : World} {B : Nat} {v : Value} {l : List Pr.B} (h : w.ownsRow B 9 1 v l.length (cellsS l)) (h0 : 0 < l.length) : Strs w v l := by
  obtain ⟨hl, h | ⟨g, cap, cur, rfl, hg, hc, hn, hm, hs, hx⟩⟩ := h
  · omega
  · refine ⟨g, cap, cur, rfl, hc, fun j hj => ?_⟩
    have h1 : (cur.toList.take (l.length * 1))[j]? = some (.string (mk l[j])) := by rw [hx]; simp [cellsS, hj]
    rw [List.getElem?_take_of_lt (by omega)] at h1
    simpa using h1

/-- where the document's Split stands: at i, the open piece from 'fr' on -/
structure SpAt (c : UInt8) (x : Pr.B) (done : List Pr.B) (fr i : Nat) : Prop where
  is : (i ≤ x.length ∧ ∃ a, x.drop fr = a ++ x.drop i ∧ c ∉ a ∧ fr + a.length = i ∧ done ++ Pr.pieces c (x.drop fr) = Pr.pieces c x) ∨ (i = x.length + 1 ∧ done = Pr.pieces c x)
theorem spAt_start (c : UInt8) (x : Pr.B) : SpAt c x [] 0 0 := ⟨Or.inl ⟨Nat.zero_le _, [], by simp, by simp, rfl, by simp⟩⟩
theorem spAt_hit {c : UInt8} {x : Pr.B} {done : List Pr.B} {fr i : Nat} (h : SpAt c x done fr i) (hi : i < x.length) (hc : x[i] = c) : fr ≤ i ∧ SpAt c x (done ++ [(x.take i).drop fr]) (i + 1) (i + 1) := by
  rcases h.is with ⟨_, a, h1, h2, h3, h4⟩ | ⟨h1, _⟩
  · refine ⟨by omega, ⟨Or.inl ⟨by omega, [], by simp, by simp, by simp, ?_⟩⟩⟩
    have ha : (x.take i).drop fr = a := by
      rw [List.drop_take, h1, ← h3, Nat.add_sub_cancel_left, List.take_left]
    have e : x.drop i = c :: x.drop (i + 1) := by rw [List.drop_eq_getElem_cons hi, hc]
    rw [ha, ← h4, h1, e, Pr.pieces_hit c a _ h2]
    simp
  · omega
theorem spAt_miss {c : UInt8} {x : Pr.B} {done : List Pr.B} {fr i : Nat} (h : SpAt c x done fr i) (hi : i < x.length) (hc : x[i] ≠ c) : SpAt c x done fr (i + 1) := by
  rcases h.is with ⟨_, a, h1, h2, h3, h4⟩ | ⟨h1, _⟩
  · have e : x.drop i = x[i] :: x.drop (i + 1) := List.drop_eq_getElem_cons hi
    refine ⟨Or.inl ⟨by omega, a ++ [x[i]], by rw [h1, e]; simp, ?_, by simp; omega, h4⟩⟩
    intro hm
    rcases List.mem_append.1 hm with hm | hm
    · exact h2 hm
    · simp at hm; exact hc hm.symm
  · omega
theorem spAt_last {c : UInt8} {x : Pr.B} {done : List Pr.B} {fr i : Nat} (h : SpAt c x done fr i) (hi : i = x.length) : fr ≤ i ∧ SpAt c x (done ++ [(x.take i).drop fr]) (i + 1) (i + 1) := by
  rcases h.is with ⟨_, a, h1, h2, h3, h4⟩ | ⟨h1, _⟩
  · have h1' : x.drop fr = a := by rw [h1, hi, List.drop_length, List.append_nil]
    refine ⟨by omega, ⟨Or.inr ⟨by omega, ?_⟩⟩⟩
    rw [hi, List.take_length, ← h4, h1', Pr.pieces_none c a h2]
  · omega
theorem spAt_end {c : UInt8} {x : Pr.B} {done : List Pr.B} {fr i : Nat} (h : SpAt c x done fr i) (hi : x.length < i) : done = Pr.pieces c x := by
  rcases h.is with ⟨h1, _⟩ | ⟨_, h⟩
  · omega
  · exact h

set_option maxHeartbeats 4000000 in
set_option maxRecDepth 1000000 in
theorem refSplitC (s : ByteArray) (c : UInt8) (w : World) (hs : s.size ≤ 1000000) :
    Calls Tryd.prog 19 #[.string s, .int .u8 (c.toNat : Int)] w (RetStrs (Pr.pieces c (bl s)) w) := by
  have hbl := bl_length s
  have hp0 : 0 < (Pr.pieces c (bl s)).length := by rw [Pr.pieces_length]; omega
  obtain ⟨cn, hcn⟩ : ∃ cn : Nat, c.toNat = cn := ⟨_, rfl⟩
  rw [hcn]
  have HCN := Lib.hid hcn; clear hcn
  have HP0 := Lib.hid hp0; clear hp0
  go_enter Tryd.func19, Tryd.ntmps19
  go_wp2
  go_loopw [5, 6, 7] (fun v f i wr => ∃ (done : List Pr.B) (fr k : Nat), f = .int .i64 (fr : Int) ∧ i = .int .i64 (k : Int) ∧ fr ≤ 1000001 ∧ k ≤ s.size + 1 ∧ done.length ≤ k ∧ wr.ownsRow w.heap.size 9 1 v done.length (cellsS done) ∧ Below w.heap.size w wr ∧ Hid (SpAt c (bl s) done fr k)) (fun _ _ i _ => s.size + 1 - (intOf i).toNat)
  case atStart => exact ⟨[], 0, 0, rfl, rfl, by omega, by omega, by simp, own_lit w w.heap.size _ 1 (Nat.le_refl _), (Below.refl _ _).alloc (Nat.le_refl _) _, spAt_start _ _⟩
  case round =>
    obtain ⟨done, fr, k, rfl, rfl, hfr, hk, hdk, hown, hbw, HS⟩ := hrel
    have hsz := hbw.size
    by_cases hlt : k < s.size
    · obtain ⟨x, hx⟩ : ∃ x : Nat, s[k].toNat = x := ⟨_, rfl⟩
      have hx256 : x < 256 := by rw [← hx]; exact s[k].toNat_lt
      by_cases hcx : x = cn
      · obtain ⟨hf, hS2⟩ := spAt_hit HS.out (by omega) (by rw [bl_get s k hlt]; exact UInt8.toNat_inj.1 (by rw [hx, hcx, HCN.out]))
        have he : s.extract fr k = mk (((bl s).take k).drop fr) := bl_inj (by rw [extract_bl, bl_mk'])
        have HS2 := Lib.hid hS2; clear hS2 HS
        have HE := Lib.hid he; clear he
        have hcx2 : ((x : Int) == (cn : Int)) = true := by simp [hcx]
        clear hcx
        go_wp2_with (at_builtin; refine wpApp _ rfl _ _ 42 rfl w.heap.size 9 _ 1 16 Tryd.underlying42 infoStr rfl (by decide) (by decide) _ _ _ rfl hown #[.string (s.extract fr k)] _ rfl rfl ?c1 ?c2 (by omega) ?_)
        case c1 => rfl
        case c2 => omega
        intro v' w1 hown' hb1 _
        have hown2 : w1.ownsRow w.heap.size 9 1 v' (done ++ [((bl s).take k).drop fr]).length (cellsS (done ++ [((bl s).take k).drop fr])) := by
          rw [← cellsS_snoc, ← HE.out]; simpa using hown'
        have hb2 := hbw.trans hb1
        clear hown' hb1
        go_wp2
        go_roundw
        case rel => exact ⟨_, k + 1, k + 1, by go_num, by go_num, by omega, by omega, by simp; omega, hown2, hb2, HS2⟩
        case measure => simp [intOf]; omega
      · have hS2 := spAt_miss HS.out (by omega) (by rw [bl_get s k hlt]; exact fun e => hcx (by rw [← hx, e, HCN.out]))
        have HS2 := Lib.hid hS2; clear hS2 HS
        have hcx2 : ((x : Int) == (cn : Int)) = false := by simp; omega
        clear hcx
        go_wp2
        go_roundw
        case rel => exact ⟨_, fr, k + 1, by go_num, by go_num, by omega, by omega, by omega, hown, hbw, HS2⟩
        case measure => simp [intOf]; omega
    · by_cases hke : k = s.size
      · obtain ⟨hf, hS2⟩ := spAt_last HS.out (by omega)
        have he : s.extract fr k = mk (((bl s).take k).drop fr) := bl_inj (by rw [extract_bl, bl_mk'])
        have HS2 := Lib.hid hS2; clear hS2 HS
        have HE := Lib.hid he; clear he hlt
        subst hke
        go_wp2_with (at_builtin; refine wpApp _ rfl _ _ 42 rfl w.heap.size 9 _ 1 16 Tryd.underlying42 infoStr rfl (by decide) (by decide) _ _ _ rfl hown #[.string (s.extract fr s.size)] _ rfl rfl ?d1 ?d2 (by omega) ?_)
        case d1 => rfl
        case d2 => omega
        intro v' w1 hown' hb1 _
        have hown2 : w1.ownsRow w.heap.size 9 1 v' (done ++ [((bl s).take s.size).drop fr]).length (cellsS (done ++ [((bl s).take s.size).drop fr])) := by
          rw [← cellsS_snoc, ← HE.out]; simpa using hown'
        have hb2 := hbw.trans hb1
        clear hown' hb1
        go_wp2
        go_roundw
        case rel => exact ⟨_, s.size + 1, s.size + 1, by go_num, by go_num, by omega, by omega, by simp; omega, hown2, hb2, HS2⟩
        case measure => simp [intOf]
      · have hd := spAt_end HS.out (by omega)
        subst hd
        have hr := strs_of hown HP0.out
        have HR := Lib.hid hr
        have hlt2 : s.size < k := by omega
        clear hr HS hown hlt hke hdk
        go_wp2
        go_ret
        exact ⟨⟨_, rfl, HR.out⟩, hbw⟩
end Go.Proofs.YtmfnfjcoaijjdaaDoor
