/-
  The program's Parse.
-/
import Derived.Test.YtmfnfjcoaijjdaaDoorPropG
namespace Go.Proofs.YtmfnfjcoaijjdaaDoor
open Go.RowKit
set_option linter.unusedVariables false

/-- the map is not the block of a row -/
theorem own_ne_map {w : World} {B : Nat} {e : TypeId} {size : Nat} {v : Value} {n : Nat} {xs : List Value} {b : Nat} {acc : List Pr.Pair} (h : w.ownsRow B e size v n xs) (hM : MapP w b acc) : some b ≠ v.ownBlock := by
  obtain ⟨es, clock, hm, _⟩ := hM
  obtain ⟨hl, ⟨rfl, _⟩ | ⟨g, cap, c2, rfl, hg, hc, _⟩⟩ := h
  · simp [Value.ownBlock]
  · intro e
    simp [Value.ownBlock] at e
    subst e
    rw [hm] at hc
    cases hc
/-- a row stays while a map is written -/
theorem own_put {w w' : World} {B : Nat} {e : TypeId} {size : Nat} {v : Value} {n : Nat} {xs : List Value} {b : Nat} {acc : List Pr.Pair} (h : w.ownsRow B e size v n xs) (hM : MapP w b acc)
    (hk : ∀ k, k ≠ b → k < w.heap.size → w'.heap[k]? = w.heap[k]?) : w'.ownsRow B e size v n xs := by
  have hne := own_ne_map h hM
  obtain ⟨hl, h | ⟨g, cap, cur, rfl, hg, hc, hr⟩⟩ := h
  · exact ⟨hl, Or.inl h⟩
  · refine ⟨hl, Or.inr ⟨g, cap, cur, rfl, hg, ?_, hr⟩⟩
    rw [hk g (fun e => hne (by simp [Value.ownBlock, e])) (lt_block hc)]
    exact hc

theorem ne_map {w : World} {k b : Nat} {acc : List Pr.Pair} {cur : Array Value} {ty : TypeId} {fr : Nat × Nat} (hk : w.heap[k]? = some (.cells cur ty fr)) (hM : MapP w b acc) : k ≠ b := by
  obtain ⟨es, clock, hm, _⟩ := hM
  intro e
  subst e
  rw [hk] at hm
  cases hm
/-- what stands behind 'earlier[p.Key] = p' -/
structure Put (wr wB w2 : World) (B g : Nat) (v : Value) (acc : List Pr.Pair) (q : Pr.Pair) (cur : Array Value) : Prop where
  row : w2.ownsRow B 39 2 v acc.length (cellsP acc)
  str : w2.heap[g]? = some (.cells cur 9 (0, 0))
  c0 : w2.cell? ⟨wB.heap.size, 0, none⟩ = some (.string (mk q.1))
  c1 : w2.cell? ⟨wB.heap.size, 1, none⟩ = some (.string (mk q.2))
  b : Below B wr w2
theorem put_facts {wr wB w2 : World} {B b g : Nat} {v : Value} {acc : List Pr.Pair} {q : Pr.Pair} {cur c2 : Array Value} (hRow : Row wr B v acc) (hM : MapP wr b acc) (hg : wr.heap[g]? = some (.cells cur 9 (0, 0)))
    (hbB : Below wr.heap.size wr wB) (hBw : B ≤ wr.heap.size)
    (hb2 : Below B ((wB.alloc (.cells #[.string (mk q.1), .string (mk q.2)] 39)).alloc (.cells c2 39)) w2)
    (hk2 : ∀ k, k ≠ b → k < ((wB.alloc (.cells #[.string (mk q.1), .string (mk q.2)] 39)).alloc (.cells c2 39)).heap.size → w2.heap[k]? = ((wB.alloc (.cells #[.string (mk q.1), .string (mk q.2)] 39)).alloc (.cells c2 39)).heap[k]?) :
    Put wr wB w2 B g v acc q cur := by
  have hsB := hbB.size
  have hlM := hM.lt
  have hbx : Below wr.heap.size wr ((wB.alloc (.cells #[.string (mk q.1), .string (mk q.2)] 39)).alloc (.cells c2 39)) := (hbB.alloc hsB _).alloc (by simp; omega) _
  have hgl := lt_block hg
  have hsz : ((wB.alloc (.cells #[.string (mk q.1), .string (mk q.2)] 39)).alloc (.cells c2 39)).heap.size = wB.heap.size + 2 := by simp
  have hblk : w2.heap[wB.heap.size]? = some (.cells #[.string (mk q.1), .string (mk q.2)] 39 (0, 0)) := by
    rw [hk2 wB.heap.size (by omega) (by omega), Lib.alloc_old _ _ _ (by simp)]
    exact heap_alloc_new wB _
  refine ⟨own_put (own_below hRow hbx) (hM.below hbx) hk2, ?_, ?_, ?_, (hbx.mono hBw).trans hb2⟩
  · rw [hk2 g (ne_map hg hM) (by omega)]
    exact (hbx.block g hgl).trans hg
  · rw [cell_of_row w2 wB.heap.size 0 _ _ _ hblk]; rfl
  · rw [cell_of_row w2 wB.heap.size 1 _ _ _ hblk]; rfl

set_option maxHeartbeats 8000000 in
set_option maxRecDepth 1000000 in
theorem parseC (s : ByteArray) (w : World) (hs : s.size ≤ 9223372036854775806) :
    Calls Tryd.prog 7 #[.string s] w (RetRow (Pr.parse (bl s)) w) := by
  by_cases hn : bl s = []
  · rw [hn, Pr.parse_nil]
    have he : s = .empty := bl_inj (by rw [hn]; rfl)
    subst he
    go_enter Tryd.func7, Tryd.ntmps7
    go_wp2
    go_ret2
    exact ⟨⟨_, rfl, Row.nil _ _⟩, Below.refl _ _⟩
  · have hne : (s.toList == []) = false := by rw [toList_bl]; simpa using hn
    have CC := Lib.hid (fun W => countC s 44 W)
    have hmany := fun h => Pr.parse_many hn h
    have hfew := fun h => Pr.parse_step hn h
    have hpl := Pr.pieces_length 44 (bl s)
    have hsub : ∀ p ∈ Pr.pieces 44 (bl s), p.length ≤ s.size := fun p hp => by
      rw [← bl_length]
      exact Pr.pieces_len 44 _ p hp
    have hC := fun W (h : (bl s).count 44 ≤ 1000000) => splitC s 44 W hs h
    have hcb : (bl s).count 44 ≤ s.size := by rw [← bl_length]; exact List.count_le_length
    generalize Pr.parse (bl s) = R at *
    generalize Pr.pieces 44 (bl s) = ps at *
    generalize (bl s).count 44 = cn at *
    clear hn
    by_cases h6 : 6 ≤ cn
    · have hR := hmany (by omega)
      subst hR
      clear hmany hfew hsub hC
      go_enter Tryd.func7, Tryd.ntmps7
      go_wp2_with (go_at_call 16; (with_reducible refine (CC.out _).mono ?_); rintro e w1 ⟨rfl, rfl⟩)
      go_ret2
      exact ⟨⟨_, rfl, Row.nil _ _⟩, Below.refl _ _⟩
    · have hR := Lib.hid (hfew (by omega))
      have h6' : cn ≤ 5 := by omega
      have hps : ps.length ≤ 6 := by omega
      have HC := Lib.hid (fun W => hC W (by omega))
      have hmm := fun W => run_makeMap (P := Tryd.prog) 41 W
      clear hmany hfew h6 hC hcb
      have HSUB := Lib.hid hsub; clear hsub
      go_enter Tryd.func7, Tryd.ntmps7
      go_wp2_with (first | (go_at_call 16; (with_reducible refine (CC.out _).mono ?_); rintro e w1 ⟨rfl, rfl⟩) | (go_at_call 17; (with_reducible refine (HC.out _).mono ?_); rintro e w1 ⟨⟨v, rfl, ⟨g, cap, cur, rfl, hg, hc⟩⟩, hb⟩))
      have hmap : MapP w1 w.heap.size [] := (MapP.made w).below hb
      have hb0 : Below w.heap.size w w1 := ((Below.refl _ _).alloc (Nat.le_refl _) _).trans (hb.mono (by simp))
      have HG := Lib.hid hg; clear hg
      have HCU := Lib.hid hc; clear hc
      clear hb hmm CC HC
      go_wp2
      go_loopw [4, 21] (fun v i wr => ∃ (acc : List Pr.Pair), i = .int .i64 (acc.length : Int) ∧ acc.length ≤ ps.length ∧ Row wr w.heap.size v acc ∧ Below w.heap.size w wr ∧ MapP wr w.heap.size acc ∧ Hid (wr.heap[g]? = some (.cells cur 9 (0, 0))) ∧ Hid (R = Pr.stepAll (ps.drop acc.length) acc)) (fun _ i _ => ps.length - (intOf i).toNat)
      case atStart => exact ⟨[], rfl, by simp, Row.nil _ _, hb0, hmap, HG, by simpa using hR⟩
      case round =>
        obtain ⟨acc, rfl, hk, hrow, hbw, hM, hgw, hst⟩ := hrel
        clear hb0 HG hR hmap
        by_cases hlt : acc.length < ps.length
        · have hcell : wr.cell? ⟨g, acc.length, none⟩ = some (.string (mk ps[acc.length])) := by rw [cell_of_row wr g acc.length cur _ _ hgw.out]; exact HCU.out acc.length hlt
          have hx := HSUB.out ps[acc.length] (List.getElem_mem hlt)
          have hst2 := hst.out
          rw [List.drop_eq_getElem_cons hlt] at hst2
          generalize ps[acc.length] = x at *
          have hP := fun W => pairC (mk x) W (by rw [size_mk']; omega)
          rw [bl_mk'] at hP
          unfold pairV at hP
          have herr := Pr.pairOf_err x
          by_cases h0 : (Pr.pairOf x).1 = 0
          · have hok := Pr.okP_short (Pr.pairOf_ok h0).1
            have hthere := fun (h : Pr.hasKey acc (Pr.pairOf x).2.1 = true) => Pr.stepAll_there (r := ps.drop (acc.length + 1)) h0 h
            have hgood := fun (h : Pr.hasKey acc (Pr.pairOf x).2.1 = false) => Pr.stepAll_good (r := ps.drop (acc.length + 1)) h0 h
            rw [h0] at hP
            generalize (Pr.pairOf x).2 = q at *
            have HP := Lib.hid hP; clear hP herr h0
            have HM := Lib.hid hM; clear hM
            have HROW := Lib.hid hrow; clear hrow
            cases hth : Pr.hasKey acc q.1 with
            | true =>
              have hR : R = (8, []) := by rw [hst2]; exact hthere hth
              subst hR
              clear hthere hgood hst hst2
              go_wp2_with (first | (go_at_call 18; (with_reducible refine (HP.out _).mono ?_); rintro e wB ⟨rfl, hbB⟩) | (at_lookup; refine wpLook _ rfl _ _ rfl _ acc rfl (HM.out.below (hbB.alloc hbB.size _)) q.1 rfl hok.1 ?_; intro p hp))
              go_ret2
              exact ⟨⟨_, rfl, Row.nil _ _⟩, hbw.trans (((hbB.alloc hbB.size _).alloc (by have := hbB.size; simp; omega) _).mono hbw.size)⟩
            | false =>
              have hR : R = Pr.stepAll (ps.drop (acc.length + 1)) (acc ++ [q]) := by rw [hst2]; exact hgood hth
              have HR := Lib.hid hR
              clear hthere hgood hst hst2 hR
              go_wp2_with (first | (go_at_call 18; (with_reducible refine (HP.out _).mono ?_); rintro e wB ⟨rfl, hbB⟩) | (at_lookup; refine wpLook _ rfl _ _ rfl _ acc rfl (HM.out.below (hbB.alloc hbB.size _)) q.1 rfl hok.1 ?_; intro p hp) | (at_mapUpdate; refine wpPut _ rfl _ _ _ rfl w.heap.size w.heap.size acc rfl (HM.out.below ((hbB.alloc hbB.size _).alloc (by have := hbB.size; simp; omega) _)) (by omega) (Nat.le_refl _) q rfl hok.1 rfl ?_; intro w2 hM2 hb2 hk2; have hput := put_facts HROW.out HM.out hgw.out hbB hbw.size hb2 hk2; clear hb2 hk2; obtain ⟨hRow2, hg2, k0, k1, hb2⟩ := hput) | (at_builtin; refine wpApp _ rfl _ _ 23 rfl w.heap.size 39 _ 2 32 Tryd.underlying23 infoPair rfl (by decide) (by decide) _ acc.length (cellsP acc) rfl hRow2 #[.string (mk q.1), .string (mk q.2)] _ rfl rfl (fun u hu => by simp at hu; rcases hu with rfl | rfl <;> rfl) (by omega) (Nat.le_trans hbw.size hb2.size) ?_))
              intro v' w3 hown' hb3 hkeep
              have hrow3 := Row.snoc (n := 0) (p := q) hown'
              have hM3 := hM2.keep (hkeep _ hM2.lt (own_ne_map hRow2 hM2))
              have hg3 := Lib.hid ((hkeep g (lt_block hg2) (own_ne hRow2 hg2 (by decide))).trans hg2)
              have hbw3 : Below w.heap.size w w3 := hbw.trans (hb2.trans hb3)
              clear hown' hb3 hkeep
              go_wp2
              go_roundw
              case rel => exact ⟨acc ++ [q], by rw [List.length_append]; go_num, by simp; omega, hrow3, hbw3, hM3, hg3, by rw [List.length_append]; exact HR⟩
              case measure => simp [intOf]; omega
          · have hR : R = ((Pr.pairOf x).1, []) := by rw [hst2, Pr.stepAll_bad h0]
            subst hR
            generalize (Pr.pairOf x).2 = q at *
            generalize (Pr.pairOf x).1 = en at *
            have hen : (en == 0) = false := by simpa using h0
            have HP := Lib.hid hP; clear hP hst hst2 hM hrow herr h0
            go_wp2_with (first | (go_at_call 18; (with_reducible refine (HP.out _).mono ?_); rintro e wB ⟨rfl, hbB⟩))
            go_ret2
            exact ⟨⟨_, rfl, Row.nil _ _⟩, hbw.trans ((hbB.alloc hbB.size _).mono hbw.size)⟩
        · have hR : R = (0, acc) := by
            rw [hst.out, List.drop_eq_nil_of_le (by omega)]; rfl
          subst hR
          clear hst hM
          have HROW := Lib.hid hrow; clear hrow
          go_wp2
          go_ret2
          exact ⟨⟨_, rfl, HROW.out⟩, hbw⟩
end Go.Proofs.YtmfnfjcoaijjdaaDoor
