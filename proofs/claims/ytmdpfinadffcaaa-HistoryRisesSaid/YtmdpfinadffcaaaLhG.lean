/-
  A table: Put of a new key; New.
-/
import Derived.Test.YtmdpfinadffcaaaLhF
import Derived.Test.YtmdpfinadffcaaaShelf
import Derived.BigQuiet
import Derived.Deep.Cut
import Derived.OrdersHeld
import Derived.Deep.QuietTactic
namespace Go.Proofs.Ytmdpfinadffcaaa
open Go.RowKit
open Lr (Nd)
set_option linter.unusedVariables false

theorem cloneC (s : ByteArray) (w : World) (hs : s.size ≤ 281474976710656) : Calls Try.prog 33 #[.string s] w (Ret (.string s) w) := by
  have c := fun W => Try.stringslite_Clone s W hs
  have C := Lib.hid c; clear c
  go_enter Try.func33, Try.ntmps33
  go_wp2_with (go_at_call 52; (with_reducible refine (C.out _).mono ?_); rintro e w1 ⟨rfl, hb⟩)
  go_ret
  exact ⟨rfl, hb⟩
/-- 'm[k] = p', k not there, at a step of a region -/
theorem wp_putL (w : World) {o : Oper} {a : Act} {K : Act → World → Prop} {Q : Exit → Act → World → Prop} (m x v : Operand) (hop : o.op = Op.mapUpdate 65 m x v)
    (b : Nat) (l : List Nd) (hm : a.eval m = .map (some b)) (hM : MapL w b l) (n : Nd) (hx : a.eval x = .string n.k) (hv : a.eval v = .pointer (some ⟨n.b, 0, none⟩)) (hk : n.k.size ≤ 9223372036854775807)
    (hl : l.length ≤ 1000000) (hn : Lr.find (Lr.kvs l) n.k = none)
    (hK : ∀ w', MapL w' b (n :: l) → Chg (fun k => k = b) w w' → K (a.put o.dst undef) w') :
    Oper.wp Try.prog o a w K Q := by
  obtain ⟨D, hD, hH⟩ := hM
  obtain ⟨w', hrun, h1, h2⟩ := hD.store keyedS Try.underlying65 (show l.length < maxLen by unfold maxLen; omega) (keyS_mk n.k hk) (ptrR_mk (some n.b))
  have hg2 := h2.grown
  have hfin := hK w' ⟨_, by simpa using h1, hH.put n hn⟩ ⟨hg2.os, hg2.tape, hg2.output, hg2.size, fun k hk hne => hg2.block k hk (fun e => hne (by cases e; rfl))⟩
  unfold ptrV at hrun
  unfold Oper.wp
  simp [execOp, hop, hm, hx, hv, hrun, Result.andThen]
  exact hfin
/-- a link pushed, its key put -/
theorem TAt.pushed {w w1 w2 w3 : World} {P m r : Nat} {room : Int} {ns : List Nd} {n : Nd} (h : TAt w P m r room ns) (hb1 : Below w.heap.size w w1) (he : n.e = w1.heap.size) (hs : RA w2 r (n :: ns)) (hc : Chg (fun k => k ∈ r :: ns.map (·.b)) (w1.alloc (entO n.k n.v)).drew w2)
    (hm : MapL w3 m (n :: ns)) (hc2 : Chg (fun k => k = m) w2 w3) (hnb : n.b = w1.heap.size + 1) (hn : Lr.find (Lr.kvs ns) n.k = none) (hk : n.k.size ≤ 140737488351232) :
    TAt w3 P m r room (n :: ns) ∧ Chg (foot P m r ns) w w3 := by
  obtain ⟨k1, k2, k3⟩ := h.kinds
  have hlt := h.lt
  have hz1 := hb1.size
  have hA : ∀ k, k < w.heap.size → (w1.alloc (entO n.k n.v)).drew.heap[k]? = w.heap[k]? := fun k hk => (Lib.alloc_old _ _ _ (by omega)).trans (hb1.block k hk)
  have hA2 : ∀ k o, w.heap[k]? = some o → k ∉ r :: ns.map (·.b) → w2.heap[k]? = some o := fun k o ho hf => hc.keep ((hA k (lt_block ho)).trans ho) hf
  have hbA : Below w.heap.size w (w1.alloc (entO n.k n.v)).drew := (hb1.trans ((Below.refl _ w1).alloc hz1 _)).drew
  have hmr := h.ring.lt
  have hme : ∀ k ∈ ns.map (·.e), k < w.heap.size := fun k hk => hlt k (Or.inr (Or.inr (Or.inr hk)))
  have hmm := h.map.lt
  refine ⟨⟨?_, hm, ?_, fun x hx => ?_, ?_, ?_, fun x hx => ?_⟩, ?_⟩
  · exact hc2.keep (hA2 _ _ h.tab (fun hm => (k2 _ hm).1 rfl)) k1
  · refine hs.keep (fun k hk => hc2.block k (hs.lt k hk) (fun e => ?_))
    simp only [List.map_cons, List.mem_cons] at hk
    rcases hk with h1 | h1 | h1
    · exact (k2 k (by simp [h1])).2.1 e
    · omega
    · exact (k2 k (List.mem_cons_of_mem _ h1)).2.1 e
  · rcases List.mem_cons.1 hx with h1 | h1
    · subst h1
      have h5 : (w1.alloc (entO x.k x.v)).drew.heap[x.e]? = some (entO x.k x.v) := by rw [he]; exact heap_alloc_new _ _
      refine hc2.keep (hc.keep h5 (fun hm => ?_)) (fun e => by omega)
      have := hmr _ hm
      omega
    · have hxe : x.e ∈ ns.map (·.e) := List.mem_map.2 ⟨x, h1, rfl⟩
      exact hc2.keep (hA2 _ _ (h.ent x h1) (fun hm => (k2 _ hm).2.2 hxe)) (k3 _ hxe).2
  · rw [List.map_cons, List.nodup_cons]
    refine ⟨fun hm => ?_, h.nde⟩
    have := hme _ hm
    omega
  · have hg := h.good
    unfold Lr.Good Lr.keys at hg ⊢
    show (n.k :: (Lr.kvs ns).map (·.1)).Nodup
    rw [List.nodup_cons]
    refine ⟨fun hm => ?_, hg⟩
    obtain ⟨e, h1, h2⟩ := List.mem_map.1 hm
    exact Lr.find_none.1 hn e h1 h2
  · rcases List.mem_cons.1 hx with h1 | h1
    · subst h1; exact hk
    · exact h.small x h1
  · exact ((Chg.of_below (F := foot P m r ns) hbA).trans hc (fun k hk => Or.inl (Or.inr (Or.inr (Or.inl hk))))).trans hc2 (fun k hk => Or.inl (Or.inr (Or.inl hk)))

set_option maxRecDepth 100000 in
set_option maxHeartbeats 4000000 in
theorem putNew (P m r : Nat) (room : Int) (ns : List Nd) (key : ByteArray) (v : Lr.V) (w : World) (h : TAt w P m r room ns) (hk : key.size ≤ 140737488351232) (hl : ns.length ≤ 1000000) (hn : Lr.find (Lr.kvs ns) key = none) :
    Calls Try.prog 16 #[.pointer (some ⟨P, 0, none⟩), .string key, .agg (Hi.cells v.1)] w fun e w' => ∃ ms, e = .returned (goneV (Lr.fit room ((key, v) :: Lr.kvs ns)).2) ∧ Lr.kvs ms = (Lr.fit room ((key, v) :: Lr.kvs ns)).1 ∧ TAt w' P m r room ms ∧ Chg (foot P m r ns) w w' ∧ ∀ k, foot P m r ms k → foot P m r ns k ∨ w.heap.size ≤ k := by
  obtain ⟨w1, hw1⟩ : ∃ w1, w1 = w.alloc (boxH v.1) := ⟨_, rfl⟩
  have hb01 : Below w.heap.size w w1 := by rw [hw1]; exact (Below.refl _ w).alloc (Nat.le_refl _) _
  have hz01 : w1.heap.size = w.heap.size + 1 := by rw [hw1]; simp
  have hbx1 : Bx w1 w.heap.size v.1 := by rw [hw1]; exact Bx.new w v.2
  have hlt0 := h.lt
  replace h : TAt w1 P m r room ns := by rw [hw1]; exact h.keep (fun k hk => Lib.alloc_old _ _ _ (hlt0 k hk))
  obtain ⟨g, hg⟩ : ∃ g, g = w.heap.size := ⟨_, rfl⟩
  rw [← hg] at hbx1
  have hgn : ∀ k, foot P m r ns k → g ≠ k := fun k hk e => by have := hlt0 k hk; omega
  have hgz : g < w1.heap.size := by omega
  have K := Lib.hid (findNone P m r room ns key w1 h (by omega) hn)
  have KC := Lib.hid (cloneC key w1 (by omega))
  have HT := Lib.hid h
  have HKEY : Hid (key.size ≤ 9223372036854775807) := Lib.hid (by omega)
  have HLEN := Lib.hid hl
  have HN := Lib.hid hn
  have hp : ∀ wA, Below w1.heap.size w1 wA → ((wA.alloc (entO key v)).drew.heap[P]? = some (.cells #[.int .i64 room, .map (some m), .pointer (some ⟨r, 0, none⟩)] 69) ∧ Bx (wA.alloc (entO key v)).drew g v.1) ∧
      Calls Try.prog 34 #[.pointer (some ⟨r, 0, none⟩), .iface 74 (.pointer (some ⟨wA.heap.size, 0, none⟩))] (wA.alloc (.cells (entC key v) 73)).drew fun e wB => e = .returned (.pointer (some ⟨wA.heap.size + 1, 0, none⟩)) ∧ Hid ((wB.heap[P]? = some (.cells #[.int .i64 room, .map (some m), .pointer (some ⟨r, 0, none⟩)] 69) ∧ Bx wB g v.1) ∧ MapL wB m ns ∧ ∀ w3, MapL w3 m (⟨wA.heap.size + 1, wA.heap.size, key, v⟩ :: ns) → Chg (fun k => k = m) wB w3 →
        (w3.heap[P]? = some (.cells #[.int .i64 room, .map (some m), .pointer (some ⟨r, 0, none⟩)] 69) ∧ Bx w3 g v.1) ∧ TAt w3 P m r room (⟨wA.heap.size + 1, wA.heap.size, key, v⟩ :: ns) ∧ Chg (foot P m r ns) w1 w3 ∧ w1.heap.size ≤ wA.heap.size) := fun wA hb => by
    obtain ⟨k1, k2, k3⟩ := h.kinds
    have hz := hb.size
    have hP := lt_block h.tab
    have hold : ∀ k, k < w1.heap.size → (wA.alloc (entO key v)).drew.heap[k]? = w1.heap[k]? := fun k hk => (Lib.alloc_old wA _ _ (Nat.lt_of_lt_of_le hk hz)).trans (hb.block k hk)
    have hr1 : RA (wA.alloc (entO key v)).drew r ns := h.ring.keep (fun k hk => hold k (h.ring.lt k hk))
    have hs1 : (wA.alloc (entO key v)).drew.heap.size = wA.heap.size + 1 := by simp
    have hbxA : Bx (wA.alloc (entO key v)).drew g v.1 := ⟨v.2, (hold g hgz).trans hbx1.h⟩
    refine ⟨⟨(hold P hP).trans h.tab, hbxA⟩, (pushC r wA.heap.size key v ns _ hr1).mono fun e wB hr => ?_⟩
    rw [hs1] at hr
    obtain ⟨rfl, g1, g2⟩ := hr
    have gP := g2.keep ((hold P hP).trans h.tab) (fun hm => (k2 _ hm).1 rfl)
    have gX : Bx wB g v.1 := ⟨v.2, g2.keep hbxA.h (fun hm => hgn g (Or.inr (Or.inr (Or.inl hm))) rfl)⟩
    refine ⟨rfl, Lib.hid ⟨⟨gP, gX⟩, (h.map.keep (hold m h.map.lt)).keep (g2.block m (by rw [hs1]; have := h.map.lt; omega) (fun hm => (k2 _ hm).2.1 rfl)), fun w3 hm3 hc3 => ?_⟩⟩
    have := h.pushed (n := ⟨wA.heap.size + 1, wA.heap.size, key, v⟩) (w1 := wA) (w2 := wB) (w3 := w3) hb rfl g1 g2 hm3 hc3 rfl hn hk
    exact ⟨⟨hc3.keep gP k1, ⟨v.2, hc3.keep gX.h (hgn m (Or.inr (Or.inl rfl)))⟩⟩, this.1, this.2, hz⟩
  have HP := Lib.hid hp
  have HBX1 := Lib.hid hbx1
  have HGZ := Lib.hid hgz
  have HB01 := Lib.hid hb01
  have HW1 := Lib.hid hw1
  have HG := Lib.hid hg
  have hSC : ∀ w' : World, w'.heap[P]? = some (.cells #[.int .i64 room, .map (some m), .pointer (some ⟨r, 0, none⟩)] 69) → w'.cell? ⟨P, 1, none⟩ = some (.map (some m)) ∧ w'.cell? ⟨P, 2, none⟩ = some (.pointer (some ⟨r, 0, none⟩)) := fun w' hw => ⟨by rw [cell_of_row w' P _ _ _ _ hw]; rfl, by rw [cell_of_row w' P _ _ _ _ hw]; rfl⟩
  clear h hk hl hn hp hlt0 hgn hgz hbx1 hb01 hz01
  go_enter Try.func16, Try.ntmps16
  go_upto_region 3 with fail
  rw [← hw1, ← hg]
  clear hw1 hg
  go_upto_region 9 with (first | (go_at_call 30; (with_reducible refine K.out.mono ?_); rintro e wA ⟨rfl, rfl⟩) | (go_at_call 33; (with_reducible refine KC.out.mono ?_); rintro e wA ⟨rfl, hbA⟩))
  have HBOX := Lib.hid (HP.out wA hbA)
  have hS0 : wA.heap[P]? = some (.cells #[.int .i64 room, .map (some m), .pointer (some ⟨r, 0, none⟩)] 69) ∧ Bx wA g v.1 := ⟨(hbA.block P (lt_block HT.out.tab)).trans HT.out.tab, ⟨v.2, (hbA.block g HGZ.out).trans HBX1.out.h⟩⟩
  refine wp_region_any (by kernel_rfl) ?_
  change wpAny _ _ _ _ _ _ _ (World.drew _)
  refine wpAny_of_held (S := fun w' => w'.heap[P]? = some (.cells #[.int .i64 room, .map (some m), .pointer (some ⟨r, 0, none⟩)] 69) ∧ Bx w' g v.1) _ _ _ _ ?_
  have hS : wA.drew.heap[P]? = some (.cells #[.int .i64 room, .map (some m), .pointer (some ⟨r, 0, none⟩)] 69) ∧ Bx wA.drew g v.1 := ⟨hS0.1, v.2, hS0.2.h⟩
  refine takeH 0 30 ?_ rfl rfl (by kernel_rfl) (by kernel_rfl) (by kernel_rfl) (fun _ _ _ h => h) (Or.inl ⟨by kernel_rfl, ?_⟩) hS ?_; rotate_left; (intro w' hw; skip; first | (go_simp; done) | (go_simp; with_reducible rfl)); rotate_left
  try simp only [List.setIfInBounds_toArray, List.set_cons_zero, List.set_cons_succ]
  refine takeH 1 31 ?_ rfl rfl (by kernel_rfl) (by kernel_rfl) (by kernel_rfl) (fun _ _ _ h => h) (Or.inl ⟨by kernel_rfl, ?_⟩) hS ?_; rotate_left; (intro w' hw; skip; first | (go_simp; done) | (go_simp; with_reducible rfl)); rotate_left
  try simp only [List.setIfInBounds_toArray, List.set_cons_zero, List.set_cons_succ]
  refine takeH 2 32 ?_ rfl rfl (by kernel_rfl) (by kernel_rfl) (by kernel_rfl) (fun _ _ _ h => h) (Or.inl ⟨by kernel_rfl, ?_⟩) hS ?_; rotate_left; (intro w' hw; skip; first | (go_simp; done) | (go_simp; with_reducible rfl)); rotate_left
  try simp only [List.setIfInBounds_toArray, List.set_cons_zero, List.set_cons_succ]
  refine takeH 3 33 ?_ rfl rfl (by kernel_rfl) (by kernel_rfl) (by kernel_rfl) (fun _ _ _ h => h) (Or.inl ⟨by kernel_rfl, ?_⟩) hS ?_; rotate_left; (intro w' hw; obtain ⟨z1, z2⟩ := hSC _ hw.1; first | (go_simp; done) | (go_simp; with_reducible rfl)); rotate_left
  try simp only [List.setIfInBounds_toArray, List.set_cons_zero, List.set_cons_succ]
  refine takeH 4 34 ?_ rfl rfl (by kernel_rfl) (by kernel_rfl) (by kernel_rfl) (fun _ _ _ h => h) (Or.inl ⟨by kernel_rfl, ?_⟩) hS ?_; rotate_left; (intro w' hw; skip; first | (go_simp; done) | (go_simp; with_reducible rfl)); rotate_left
  try simp only [List.setIfInBounds_toArray, List.set_cons_zero, List.set_cons_succ]
  refine takeH 5 35 ?_ rfl rfl (by kernel_rfl) (by kernel_rfl) (by kernel_rfl) (fun _ _ _ h => h) (Or.inl ⟨by kernel_rfl, ?_⟩) hS ?_; rotate_left; (intro w' hw; skip; first | (go_simp; done) | (go_simp; with_reducible rfl)); rotate_left
  try simp only [List.setIfInBounds_toArray, List.set_cons_zero, List.set_cons_succ]
  refine takeH 6 36 ?_ rfl rfl (by kernel_rfl) (by kernel_rfl) (by kernel_rfl) (fun _ _ _ h => h) (Or.inl ⟨by kernel_rfl, ?_⟩) hS ?_; rotate_left; (intro w' hw; skip; first | (go_simp; done) | (go_simp; with_reducible rfl)); rotate_left
  try simp only [List.setIfInBounds_toArray, List.set_cons_zero, List.set_cons_succ]
  refine takeH 7 37 ?_ rfl rfl (by kernel_rfl) (by kernel_rfl) (by kernel_rfl) (fun _ _ _ h => h) (Or.inl ⟨by kernel_rfl, ?_⟩) hS ?_; rotate_left; (intro w' hw; skip; first | (go_simp; done) | (go_simp; with_reducible rfl)); rotate_left
  try simp only [List.setIfInBounds_toArray, List.set_cons_zero, List.set_cons_succ]
  refine takeH 8 38 ?_ rfl rfl (by kernel_rfl) (by kernel_rfl) (by kernel_rfl) (fun _ _ _ h => h) (Or.inl ⟨by kernel_rfl, ?_⟩) hS ?_; rotate_left; (intro w' hw; obtain ⟨z1, z2⟩ := hSC _ hw.1; first | (go_simp; done) | (go_simp; with_reducible rfl)); rotate_left
  try simp only [List.setIfInBounds_toArray, List.set_cons_zero, List.set_cons_succ]
  refine takeH 9 39 ?_ rfl rfl (by kernel_rfl) (by kernel_rfl) (by kernel_rfl) (fun _ _ _ h => h) (Or.inl ⟨by kernel_rfl, ?_⟩) hS ?_; rotate_left; (intro w' hw; skip; first | (go_simp; done) | (go_simp; with_reducible rfl)); rotate_left
  try simp only [List.setIfInBounds_toArray, List.set_cons_zero, List.set_cons_succ]
  refine takeH 10 40 ?_ rfl rfl (by kernel_rfl) (by kernel_rfl) (by kernel_rfl) (fun _ _ _ h => h) (Or.inl ⟨by kernel_rfl, ?_⟩) hS ?_; rotate_left; (intro w' hw; refine yieldH (x := .tmp 5) ?_ g ?_ hw.2 <;> rfl); rotate_left
  try simp only [List.setIfInBounds_toArray, List.set_cons_zero, List.set_cons_succ]
  refine takeH 11 41 ?_ rfl rfl (by kernel_rfl) (by kernel_rfl) (by kernel_rfl) (fun _ _ _ h => h) (Or.inl ⟨by kernel_rfl, ?_⟩) hS ?_; rotate_left; (intro w' hw; refine yieldEnt (x := .tmp 39) (y := .tmp 40) (k := key) (v := v) ?_ ?_ ?_ <;> rfl); rotate_left
  try simp only [List.setIfInBounds_toArray, List.set_cons_zero, List.set_cons_succ]
  refine wpAnyH_ready (rs := [12]) (by kernel_rfl) (by simp) ?_; refine AllReadyH.cons rfl (fun K2 hK => ?_) AllReadyH.nil; go_simp; refine hK.out _ _ ?_ (fun _ => ?_); (exact HBOX.out.1); clear hK K2; replace hS := HBOX.out.1
  refine takeH 13 43 ?_ rfl rfl (by kernel_rfl) (by kernel_rfl) (by kernel_rfl) (fun _ _ _ h => h) (Or.inl ⟨by kernel_rfl, ?_⟩) hS ?_; rotate_left; (intro w' hw; skip; first | (go_simp; done) | (go_simp; with_reducible rfl)); rotate_left
  try simp only [List.setIfInBounds_toArray, List.set_cons_zero, List.set_cons_succ]
  refine wpAnyH_ready (rs := [14]) (by kernel_rfl) (by simp) ?_; refine AllReadyH.cons rfl (fun K2 hK => ?_) AllReadyH.nil; go_simp; go_wp2_with (go_at_call 34; (with_reducible refine HBOX.out.2.mono ?_); rintro e wB ⟨rfl, hB⟩; replace hS := hB.out.1); refine hK.out _ _ ?_ (fun _ => ?_); (exact hS); clear hK K2
  refine wpAnyH_ready (rs := [15]) (by kernel_rfl) (by simp) ?_; refine AllReadyH.cons rfl (fun K2 hK => ?_) AllReadyH.nil; rw [if_pos (by kernel_rfl)]; refine wp_putL _ _ _ _ rfl m ns rfl hB.out.2.1 ⟨wA.heap.size + 1, wA.heap.size, key, v⟩ rfl rfl HKEY.out HLEN.out HN.out ?_; intro w3 hm3 hc3; refine hK.out _ _ (hB.out.2.2 w3 hm3 hc3).1 (fun _ => ?_); clear hK K2; have hT3 := Lib.hid (hB.out.2.2 w3 hm3 hc3).2; clear hm3 hc3
  refine wpAnyH_done (by kernel_rfl) ?_ _
  simp only [Act.put, List.getElem_toArray, List.getElem_cons_zero, List.getElem_cons_succ]
  have hfn : ∀ k, foot P m r (⟨wA.heap.size + 1, wA.heap.size, key, v⟩ :: ns) k → foot P m r ns k ∨ w1.heap.size ≤ k := by
    have hz := hT3.out.2.2
    intro k hk
    simp only [foot, List.map_cons, List.mem_cons] at hk ⊢
    rcases hk with h | h | (h | h | h) | (h | h)
    · exact Or.inl (Or.inl h)
    · exact Or.inl (Or.inr (Or.inl h))
    · exact Or.inl (Or.inr (Or.inr (Or.inl (Or.inl h))))
    · right; omega
    · exact Or.inl (Or.inr (Or.inr (Or.inl (Or.inr h))))
    · right; omega
    · exact Or.inl (Or.inr (Or.inr (Or.inr h)))
  have hT := hT3.out.1
  have hC3 := Lib.hid ((Chg.of_below (F := foot P m r ns) HB01.out).trans hT3.out.2.1 (fun k hk => Or.inl hk))
  obtain ⟨ms, hms⟩ : ∃ ms : List Nd, ms = ⟨wA.heap.size + 1, wA.heap.size, key, v⟩ :: ns := ⟨_, rfl⟩
  have HKV : Hid (Lr.kvs ms = (key, v) :: Lr.kvs ns) := Lib.hid (by rw [hms]; rfl)
  rw [← hms] at hT hfn
  have hne : ms ≠ [] := by rw [hms]; simp
  clear hms HBOX hS0 hS hT3 hSC K KC HP HKEY HLEN HN HT hB hbA
  have c0 := hT.c0
  have c2 := hT.c2
  have HT := Lib.hid hT; clear hT
  have HFN := Lib.hid (fun k hk => (hfn k hk).imp id (fun h => Nat.le_trans HB01.out.size h)); clear hfn
  have KL := Lib.hid (fun W (h : TAt W P m r room ms) => lenAt P m r room ms W h)
  have HDN := Lib.hid (fun (W : World) q (h : TAt W P m r room ms) => (show TAt (W.drewN q) P m r room ms from h.keep (fun _ _ => rfl)))
  by_cases hfit : (ms.length : Int) ≤ room
  · have HF : Hid (Lr.fit room ((key, v) :: Lr.kvs ns) = (Lr.kvs ms, none)) := Lib.hid (by rw [← HKV.out]; exact Lr.fit_in (by simpa [Lr.kvs] using hfit))
    have hd : decide ((ms.length : Int) ≤ room) = true := decide_eq_true hfit
    clear hne
    go_wp2
    go_quiet ((first | (go_at_call 35; with_reducible exact Calls.quiet_of_same ((KL.out _ (HDN.out _ _ HT.out)).mono fun _ _ h => ⟨h.e, h.w.symm⟩))))
    go_wp2
    go_ret2
    refine ⟨ms, by rw [HF.out]; rfl, by rw [HF.out], HDN.out _ _ HT.out, hC3.out.drewN _, HFN.out⟩
  · obtain ⟨a, z, rfl⟩ : ∃ a z, ms = a ++ [z] := ⟨ms.dropLast, ms.getLast hne, (List.dropLast_concat_getLast hne).symm⟩
    have HF : Hid (Lr.fit room ((key, v) :: Lr.kvs ns) = (Lr.kvs a, some z.k)) := Lib.hid (by
      rw [← HKV.out, show Lr.kvs (a ++ [z]) = Lr.kvs a ++ [z.kv] by simp [Lr.kvs]]
      exact Lr.fit_out (by simpa [Lr.kvs] using hfit))
    have hd : decide (((a ++ [z]).length : Int) ≤ room) = false := decide_eq_false hfit
    have KA := Lib.hid (fun W (h : TAt W P m r room (a ++ [z])) => lastC r a z W h.ring)
    have KB := Lib.hid (fun W (h : TAt W P m r room (a ++ [z])) => entOf (b := []) h)
    have KD := Lib.hid (fun W (h : TAt W P m r room (a ++ [z])) => (dropSome P m r room a [] z W h).mono (R' := fun e w' => e = .returned (.bool true) ∧ Hid (TAt w' P m r room a ∧ Chg (foot P m r (a ++ [z])) W w')) fun e w' hr => ⟨hr.1, Lib.hid ⟨by simpa using hr.2.1, hr.2.2⟩⟩)
    have e0 := ent_k (b := []) HT.out
    have HFL := Lib.hid (fun k (h : foot P m r a k) => foot_less (b := []) (n := z) (a := a) (P := P) (m := m) (r := r) (k := k) (by simpa using h))
    clear hne hfit
    generalize (((a ++ [z]).length : Nat) : Int) = N at *
    go_wp2
    go_quiet ((first | (go_at_call 35; with_reducible exact Calls.quiet_of_same ((KL.out _ (HDN.out _ _ HT.out)).mono fun _ _ h => ⟨h.e, h.w.symm⟩))))
    have HT2 := Lib.hid (HDN.out _ nq HT.out)
    go_wp2_with (first | (go_at_call 36; (with_reducible refine (KA.out _ HT2.out).mono ?_); rintro e wB ⟨rfl, rfl⟩) | (go_at_call 31; (with_reducible refine (KB.out _ HT2.out).mono ?_); rintro e wB ⟨rfl, rfl⟩) | (go_at_call 37; (with_reducible refine (KD.out _ HT2.out).mono ?_); rintro e wB ⟨rfl, hD⟩))
    go_ret2
    refine ⟨a, by rw [HF.out]; rfl, by rw [HF.out], hD.out.1, (hC3.out.drewN _).trans hD.out.2 (fun k hk => HFN.out k hk), fun k hk => HFN.out k (HFL.out k hk)⟩
end Go.Proofs.Ytmdpfinadffcaaa
