/-
  The law LruLast.
-/
import Derived.Test.YtmofjplojlobiaaLruX
namespace Lr
set_option linter.unusedVariables false
/-- what the law expects: the key, then the others as far as there is room -/
def wl (k : ByteArray) (R : Nat) (xs : List ByteArray) : List ByteArray := k :: (xs.filter (fun x => decide (x ≠ k))).take (R - 1)
theorem keys_without (l : List E) (k : ByteArray) : keys (without l k) = (keys l).filter (fun x => decide (x ≠ k)) := by
  unfold keys without
  rw [List.filter_map]
  rfl
theorem front_len {l : List E} (k : ByteArray) (v : Int) : (front l k v).length = (without l k).length + 1 := rfl
theorem keys_put {l : List E} {room : Int} (h1 : ¬ room < 1) (hr : (l.length : Int) ≤ room) (k : ByteArray) (v : Int) : keys (put room l k v).1 = wl k room.toNat (keys l) := by
  have hlw := length_without l k
  have hk := keys_without l k
  have hkl : (keys (without l k)).length = (without l k).length := by simp [keys]
  unfold put fit wl
  rw [← hk]
  have hfl : (front l k v).length = (without l k).length + 1 := rfl
  split
  · rename_i h
    show k :: keys (without l k) = _
    rw [List.take_of_length_le (by omega)]
  · rename_i h
    have hn : (without l k).length = room.toNat := by omega
    have hne : without l k ≠ [] := fun e => by rw [e] at hn; simp at hn; omega
    show keys (((k, v) :: without l k).dropLast) = _
    rw [List.dropLast_cons_of_ne_nil hne]
    show k :: keys ((without l k).dropLast) = _
    rw [List.dropLast_eq_take, hn]
    unfold keys
    rw [List.map_take]
theorem find_put {l : List E} {room : Int} (h1 : ¬ room < 1) (k : ByteArray) (v : Int) : find (put room l k v).1 k = some v := by
  unfold put fit
  have hfl : (front l k v).length = (without l k).length + 1 := rfl
  split
  · unfold front find; simp
  · rename_i h
    have hne : without l k ≠ [] := fun e => by rw [e] at hfl; simp at hfl; omega
    show find (((k, v) :: without l k).dropLast) k = _
    rw [List.dropLast_cons_of_ne_nil hne]
    unfold find
    simp
theorem wl_nil (k : ByteArray) (R : Nat) : wl k R [] = [k] := by simp [wl]
theorem wl_len (k : ByteArray) (R : Nat) (xs : List ByteArray) : (wl k R xs).length ≤ xs.length + 1 := by
  unfold wl
  have := List.length_filter_le (fun x => decide (x ≠ k)) xs
  simp only [List.length_cons, List.length_take]
  omega
theorem wl_same {k : ByteArray} {R : Nat} {xs : List ByteArray} {i : Nat} (h : i < xs.length) (he : xs[i] = k) : wl k R (xs.take (i + 1)) = wl k R (xs.take i) := by
  unfold wl
  rw [List.take_add_one, List.getElem?_eq_getElem h, List.filter_append]
  simp [he]
theorem wl_more {k : ByteArray} {R : Nat} {xs : List ByteArray} {i : Nat} (h : i < xs.length) (he : xs[i] ≠ k) (hl : (wl k R (xs.take i)).length < R) : wl k R (xs.take (i + 1)) = wl k R (xs.take i) ++ [xs[i]] := by
  unfold wl at hl ⊢
  rw [List.take_add_one, List.getElem?_eq_getElem h, List.filter_append]
  have hf : ((some xs[i]).toList.filter (fun x => decide (x ≠ k))) = [xs[i]] := by simp [he]
  rw [hf]
  generalize (xs.take i).filter (fun x => decide (x ≠ k)) = X at *
  simp only [List.length_cons, List.length_take] at hl
  rw [List.take_of_length_le (by simp; omega), List.take_of_length_le (by omega)]
  rfl
theorem wl_full {k : ByteArray} {R : Nat} {xs : List ByteArray} {i : Nat} (h : i < xs.length) (he : xs[i] ≠ k) (hl : ¬ (wl k R (xs.take i)).length < R) : wl k R (xs.take (i + 1)) = wl k R (xs.take i) := by
  unfold wl at hl ⊢
  rw [List.take_add_one, List.getElem?_eq_getElem h, List.filter_append]
  generalize (xs.take i).filter (fun x => decide (x ≠ k)) = X at *
  simp only [List.length_cons, List.length_take] at hl
  rw [List.take_append_of_le_length (by omega)]
end Lr
namespace Go.Proofs.Ytmofjplojlobiaa
open Go.RowKit
set_option linter.unusedVariables false

/-- a table beside a row of strings -/
structure WithRow (w0 : World) (B P : Nat) (room : Int) (l : List Lr.E) (v : Value) (K : List ByteArray) (w : World) : Prop where
  s : ∃ F, TIs w B P room l F ∧ ∀ k, v.ownBlock = some k → ¬ F k
  row : eltS.Row w B v K
  b : Below B w0 w
  z : B ≤ w.heap.size
theorem WithRow.solo {w0 : World} {B P : Nat} {room : Int} {l : List Lr.E} {v : Value} {K : List ByteArray} {w : World} (h : WithRow w0 B P room l v K w) : Solo w0 B P room l w := by
  obtain ⟨F, h1, _⟩ := h.s
  exact ⟨⟨F, h1⟩, h.b, h.z⟩
theorem row_keys {w0 : World} {B P : Nat} {room : Int} {l : List Lr.E} (w : World) (hl : l.length ≤ 1000000) (h : Solo w0 B P room l w) :
    Calls Try.prog 10 #[.pointer (some ⟨P, 0, none⟩)] w fun e w' => ∃ a cap, e = .returned (.slice a (Lr.keys l).length cap) ∧ Hid (WithRow w0 B P room l (.slice a (Lr.keys l).length cap) (Lr.keys l) w') := by
  obtain ⟨F, h1⟩ := h.s
  refine (keysC B P room l F w h1 hl).mono fun e w' hr => ?_
  obtain ⟨v, rfl, h2⟩ := hr.r
  obtain ⟨a, cap, rfl⟩ := h2.slice
  have hb := h.below hr.b
  exact ⟨a, cap, rfl, Lib.hid ⟨⟨F, h1.keep (fun k hk => hr.b.block k (h1.lt k hk).2), fun k hk hf => by have := (h2.lt k hk).1; have := (h1.lt k hf).2; omega⟩, h2.base h.z, hb.b, hb.z⟩⟩
theorem row_put {w0 : World} {B P : Nat} {room : Int} {l : List Lr.E} {v : Value} {K : List ByteArray} (key : ByteArray) (x : Int) (w : World) (hk : key.size ≤ 140737488351232) (hl : l.length ≤ 1000000) (hr : (l.length : Int) ≤ room) (h : WithRow w0 B P room l v K w) :
    Calls Try.prog 13 #[.pointer (some ⟨P, 0, none⟩), .string key, .int .i64 x] w fun e w' => e = .returned (goneV (Lr.put room l key x).2) ∧ WithRow w0 B P room (Lr.put room l key x).1 v K w' := by
  obtain ⟨F, h1, h2⟩ := h.s
  refine (putC B P room l F key x w h1 hk hl hr h.z).mono fun e w' hr => ?_
  obtain ⟨F', g1, g2⟩ := hr.s
  refine ⟨hr.r, ⟨F', g1, fun k hk hf => ?_⟩, h.row.keep (fun k hk => hr.c.block k (h.row.lt k hk).2 (h2 k hk)), h.b.trans (hr.c.below (fun k hk => (h1.lt k hk).1) h.z), Nat.le_trans h.z hr.c.size⟩
  rcases g2 k hf with e | e
  · exact h2 k hk e
  · have := (h.row.lt k hk).2; omega

set_option maxRecDepth 100000 in
set_option maxHeartbeats 4000000 in
theorem lruLast_low (room kd x : Int) (key : ByteArray) (a : Option Addr) (len cap : Nat) (w : World) (h : room < 1) : Calls Try.prog 5 #[.int .i64 room, .slice a len cap, .agg #[.int .i64 kd, .string key, .int .i64 x]] w (Ret (.bool true) w) := by
  have K0 := Lib.hid (fun W => newBad room W h)
  have K1 := Lib.hid (fun W => liveOk W)
  have t2 : decide (room < 1) = true := decide_eq_true h
  by_cases hl : 100 < len
  · go_enter Try.func5, Try.ntmps5
    go_wp2_with (first | (go_at_call 6; (with_reducible refine (K0.out _).mono ?_); rintro e wA ⟨rfl, rfl⟩) | (go_at_call 7; (with_reducible refine (K1.out _).mono ?_); rintro e wB ⟨rfl, hbB⟩))
    go_ret
    exact ⟨rfl, ((Below.refl _ _).alloc (Nat.le_refl _) _).trans (hbB.mono (by simp))⟩
  · go_enter Try.func5, Try.ntmps5
    go_wp2_with (first | (go_at_call 6; (with_reducible refine (K0.out _).mono ?_); rintro e wA ⟨rfl, rfl⟩) | (go_at_call 7; (with_reducible refine (K1.out _).mono ?_); rintro e wB ⟨rfl, hbB⟩))
    go_ret
    exact ⟨rfl, ((Below.refl _ _).alloc (Nat.le_refl _) _).trans (hbB.mono (by simp))⟩
set_option maxRecDepth 100000 in
set_option maxHeartbeats 4000000 in
theorem lruLast_many (room kd x : Int) (key : ByteArray) (a : Option Addr) (len cap : Nat) (w : World) (h : ¬ room < 1) (hl : 100 < len) : Calls Try.prog 5 #[.int .i64 room, .slice a len cap, .agg #[.int .i64 kd, .string key, .int .i64 x]] w (Ret (.bool true) w) := by
  have K0 := Lib.hid (fun W hb => solo_new room h w W hb)
  have K1 := Lib.hid (fun W => liveOk W)
  go_enter Try.func5, Try.ntmps5
  go_wp2_with (first | (go_at_call 6; (with_reducible refine (K0.out _ ((Below.refl _ _).alloc (Nat.le_refl _) _)).mono ?_); rintro e wA ⟨P, rfl, hV⟩; have HB := Lib.hid hV.b; clear hV) | (go_at_call 7; (with_reducible refine (K1.out _).mono ?_); rintro e wB ⟨rfl, hbB⟩))
  go_ret
  exact ⟨rfl, HB.out.trans (hbB.mono HB.out.size)⟩
set_option maxRecDepth 100000 in
set_option maxHeartbeats 8000000 in
theorem lruLast_at (room kd x : Int) (key : ByteArray) (a : Option Addr) (len cap : Nat) (t : Nat → Int × ByteArray × Int) (w : World) (h0 : ¬ room < 1) (hl : len ≤ 100) (h : ActAt w a len t) (hks : key.size ≤ 140737488351232) :
    Calls Try.prog 5 #[.int .i64 room, .slice a len cap, .agg #[.int .i64 kd, .string key, .int .i64 x]] w (Ret (.bool true) w) := by
  obtain ⟨W1, hW1⟩ : ∃ W1, W1 = w.alloc (.cells #[.int .i64 kd, .string key, .int .i64 x] 32) := ⟨_, rfl⟩
  have hz1 : W1.heap.size = w.heap.size + 1 := by rw [hW1]; simp
  have hb1 : Below w.heap.size w W1 := by rw [hW1]; exact (Below.refl _ _).alloc (Nat.le_refl _) _
  have hbox : W1.heap[w.heap.size]? = some (actO kd key x) := by rw [hW1]; exact heap_alloc_new _ _
  have K0 : Hid (Calls Try.prog 6 #[.int .i64 room] (w.alloc (.cells #[.int .i64 kd, .string key, .int .i64 x] 32)) fun e w' => ∃ P, e = .returned (.pointer (some ⟨P, 0, none⟩)) ∧ Hid (Solo W1 W1.heap.size P room [] w')) := Lib.hid (by
    rw [← hW1]
    exact (solo_new room h0 W1 W1 (Below.refl _ _)).mono fun e w' ⟨P, h1, h2⟩ => ⟨P, h1, Lib.hid h2⟩)
  have KL := Lib.hid (fun W => liveOk W)
  have t2 : decide (room < 1) = false := decide_eq_false h0
  have hr0 : 0 ≤ room := by omega
  have HA := Lib.hid h
  have HB1 := Lib.hid hb1
  have HBOX := Lib.hid hbox
  have HZ1 := Lib.hid hz1
  have HKP0 := Lib.hid (fun (l : List Lr.E) hr => Lr.keys_put (l := l) h0 hr key x)
  have HFP0 := Lib.hid (fun (l : List Lr.E) => Lr.find_put (l := l) h0 key x)
  have HX : ∀ wr : World, Below W1.heap.size W1 wr → wr.cell? ⟨w.heap.size, 1, none⟩ = some (.string key) ∧ wr.cell? ⟨w.heap.size, 2, none⟩ = some (.int .i64 x) := fun wr hb => by
    have := act_cells ((hb.block w.heap.size (by omega)).trans hbox)
    exact ⟨this.2.1, this.2.2⟩
  have HX := Lib.hid HX
  clear h hW1 hz1 hb1 hbox
  go_enter Try.func5, Try.ntmps5
  go_wp2_with (go_at_call 6; (with_reducible refine K0.out.mono ?_); rintro e wA ⟨P, rfl, hV0⟩)
  clear K0
  go_loopw [8] (fun i wr => ∃ (k : Nat) (l : List Lr.E), k ≤ len ∧ i = .int .i64 (k : Int) ∧ Hid (Solo W1 W1.heap.size P room l wr ∧ Lr.Good l ∧ (l.length : Int) ≤ room ∧ l.length ≤ k)) (fun i _ => len - (intOf i).toNat)
  case atStart => exact ⟨0, [], by omega, rfl, Lib.hid ⟨hV0.out, Lr.good_nil, by simpa using hr0, by simp⟩⟩
  case round =>
    obtain ⟨k, l, hk, rfl, hst⟩ := hrel
    clear hV0
    by_cases hlt : k < len
    · rcases HA.out with h | ⟨g, off, rfl, hg, hc⟩
      · omega
      · obtain ⟨e0, e1, e2, es⟩ := hc k hlt
        obtain ⟨hT, hgd, hrm, hlk⟩ := hst.out
        have hin : ∀ W : World, Below W1.heap.size W1 W → W.cell? ⟨g, off + k * 3 + 1, none⟩ = some (.string (t k).2.1) ∧ W.cell? ⟨g, off + k * 3 + 2, none⟩ = some (.int .i64 (t k).2.2) := fun W hb => by
          have hg1 : g < W1.heap.size := by have := HZ1.out; omega
          exact ⟨(hb.cell (p := ⟨g, off + k * 3 + 1, none⟩) hg1).trans ((HB1.out.cell (p := ⟨g, off + k * 3 + 1, none⟩) hg).trans e1), (hb.cell (p := ⟨g, off + k * 3 + 2, none⟩) hg1).trans ((HB1.out.cell (p := ⟨g, off + k * 3 + 2, none⟩) hg).trans e2)⟩
        have HC := Lib.hid hin
        clear e0 e1 e2 hc hin
        generalize (t k).1 = kd1 at *
        generalize (t k).2.1 = key1 at *
        generalize (t k).2.2 = x1 at *
        have hV := Lib.hid (hT.below (Below.refl wr.heap.size wr).drew)
        have KP := Lib.hid (fun W (h : Solo W1 W1.heap.size P room l W) => solo_put key1 x1 W es (by omega) hrm h)
        have HG2 := Lib.hid (hgd.put room key1 x1)
        have hl2 := Lr.length_put room l key1 x1
        have hr2 := Lr.room_put hr0 hrm key1 x1
        clear hT hgd hrm hst es
        unfold goneV at KP
        generalize Lr.put room l key1 x1 = pr at *
        generalize pr.2.getD .empty = gs at *
        generalize pr.2.isSome = gb at *
        go_upto_region 7 with fail
        refine wp_region_any (by kernel_rfl) ?_
        change wpAny _ _ _ _ _ _ _ (World.drew _)
        refine wpAny_of_held (S := fun W : World => Below W1.heap.size W1 W) _ _ _ _ ?_
        have hS := hV.out.b
        refine takeH 0 30 ?_ rfl rfl (by kernel_rfl) (by kernel_rfl) (by kernel_rfl) (fun _ _ _ h => h) (Or.inl ⟨by kernel_rfl, ?_⟩) hS ?_; rotate_left; (intro w' hw; skip; first | (go_simp; done) | (go_simp; with_reducible rfl)); rotate_left
        try simp only [List.setIfInBounds_toArray, List.set_cons_zero, List.set_cons_succ]
        refine takeH 1 31 ?_ rfl rfl (by kernel_rfl) (by kernel_rfl) (by kernel_rfl) (fun _ _ _ h => h) (Or.inl ⟨by kernel_rfl, ?_⟩) hS ?_; rotate_left; (intro w' hw; skip; first | (go_simp; done) | (go_simp; with_reducible rfl)); rotate_left
        try simp only [List.setIfInBounds_toArray, List.set_cons_zero, List.set_cons_succ]
        refine takeH 2 32 ?_ rfl rfl (by kernel_rfl) (by kernel_rfl) (by kernel_rfl) (fun _ _ _ h => h) (Or.inl ⟨by kernel_rfl, ?_⟩) hS ?_; rotate_left; (intro w' hw; skip; first | (go_simp; done) | (go_simp; with_reducible rfl)); rotate_left
        try simp only [List.setIfInBounds_toArray, List.set_cons_zero, List.set_cons_succ]
        refine takeH 3 33 ?_ rfl rfl (by kernel_rfl) (by kernel_rfl) (by kernel_rfl) (fun _ _ _ h => h) (Or.inl ⟨by kernel_rfl, ?_⟩) hS ?_; rotate_left; (intro w' hw; skip; first | (go_simp; done) | (go_simp; with_reducible rfl)); rotate_left
        try simp only [List.setIfInBounds_toArray, List.set_cons_zero, List.set_cons_succ]
        refine takeH 4 34 ?_ rfl rfl (by kernel_rfl) (by kernel_rfl) (by kernel_rfl) (fun _ _ _ h => h) (Or.inl ⟨by kernel_rfl, ?_⟩) hS ?_; rotate_left; (intro w' hw; skip; first | (go_simp; done) | (go_simp; with_reducible rfl)); rotate_left
        try simp only [List.setIfInBounds_toArray, List.set_cons_zero, List.set_cons_succ]
        refine takeH 5 35 ?_ rfl rfl (by kernel_rfl) (by kernel_rfl) (by kernel_rfl) (fun _ _ _ h => h) (Or.inl ⟨by kernel_rfl, ?_⟩) hS ?_; rotate_left; (intro w' hw; obtain ⟨z0, z1⟩ := HC.out _ hw; first | (go_simp; done) | (go_simp; with_reducible rfl)); rotate_left
        try simp only [List.setIfInBounds_toArray, List.set_cons_zero, List.set_cons_succ]
        refine takeH 6 36 ?_ rfl rfl (by kernel_rfl) (by kernel_rfl) (by kernel_rfl) (fun _ _ _ h => h) (Or.inl ⟨by kernel_rfl, ?_⟩) hS ?_; rotate_left; (intro w' hw; skip; first | (go_simp; done) | (go_simp; with_reducible rfl)); rotate_left
        try simp only [List.setIfInBounds_toArray, List.set_cons_zero, List.set_cons_succ]
        refine takeH 7 37 ?_ rfl rfl (by kernel_rfl) (by kernel_rfl) (by kernel_rfl) (fun _ _ _ h => h) (Or.inl ⟨by kernel_rfl, ?_⟩) hS ?_; rotate_left; (intro w' hw; skip; first | (go_simp; done) | (go_simp; with_reducible rfl)); rotate_left
        try simp only [List.setIfInBounds_toArray, List.set_cons_zero, List.set_cons_succ]
        refine takeH 8 38 ?_ rfl rfl (by kernel_rfl) (by kernel_rfl) (by kernel_rfl) (fun _ _ _ h => h) (Or.inl ⟨by kernel_rfl, ?_⟩) hS ?_; rotate_left; (intro w' hw; skip; first | (go_simp; done) | (go_simp; with_reducible rfl)); rotate_left
        try simp only [List.setIfInBounds_toArray, List.set_cons_zero, List.set_cons_succ]
        refine takeH 9 39 ?_ rfl rfl (by kernel_rfl) (by kernel_rfl) (by kernel_rfl) (fun _ _ _ h => h) (Or.inl ⟨by kernel_rfl, ?_⟩) hS ?_; rotate_left; (intro w' hw; skip; first | (go_simp; done) | (go_simp; with_reducible rfl)); rotate_left
        try simp only [List.setIfInBounds_toArray, List.set_cons_zero, List.set_cons_succ]
        refine takeH 10 40 ?_ rfl rfl (by kernel_rfl) (by kernel_rfl) (by kernel_rfl) (fun _ _ _ h => h) (Or.inl ⟨by kernel_rfl, ?_⟩) hS ?_; rotate_left; (intro w' hw; obtain ⟨z0, z1⟩ := HC.out _ hw; first | (go_simp; done) | (go_simp; with_reducible rfl)); rotate_left
        try simp only [List.setIfInBounds_toArray, List.set_cons_zero, List.set_cons_succ]
        refine wpAnyH_ready (rs := [11]) (by kernel_rfl) (by simp) ?_; refine AllReadyH.cons rfl (fun K2 hK => ?_) AllReadyH.nil; go_simp; go_wp2_with (go_at_call 13; (with_reducible refine (KP.out _ hV.out).mono ?_); rintro e wB ⟨rfl, hT⟩; have hVB := Lib.hid hT; clear hT; replace hS := hVB.out.b); refine hK.out _ _ ?_ (fun _ => ?_); (exact hS); clear hK K2
        refine wpAnyH_done (by kernel_rfl) ?_ _
        go_wp2
        go_roundw
        case rel => exact ⟨k + 1, pr.1, by omega, by go_num, Lib.hid ⟨hVB.out, HG2.out, hr2, by omega⟩⟩
        case measure => simp [intOf]; omega
    · obtain rfl : k = len := by omega
      obtain ⟨hT, hgd, hrm, hlk⟩ := hst.out
      have HV := Lib.hid hT
      have KK := Lib.hid (fun W (h : Solo W1 W1.heap.size P room l W) => row_keys W (by omega) h)
      have HKP := Lib.hid (HKP0.out l hrm)
      have HFP := Lib.hid (HFP0.out l)
      have KP2 := Lib.hid (fun a ca W (h : WithRow W1 W1.heap.size P room l (.slice a (Lr.keys l).length ca) (Lr.keys l) W) => row_put key x W hks (by omega) hrm h)
      have hl2 := Lr.length_put room l key x
      have hkl : (Lr.keys l).length ≤ 1000 := by simp [Lr.keys]; omega
      clear hst hT hgd hrm HA
      unfold goneV at KP2
      generalize Lr.put room l key x = pr at *
      generalize pr.2.getD .empty = gs at *
      generalize pr.2.isSome = gb at *
      generalize Lr.keys l = K at *
      go_wp2_with (first | (go_at_call 10; (with_reducible refine (KK.out _ HV.out).mono ?_); rintro e wK ⟨a1, ca1, rfl, hT⟩; have HK1 := Lib.hid hT.out; obtain ⟨y1, y2⟩ := HX.out _ hT.out.b; clear hT) | (go_at_call 13; (with_reducible refine (KP2.out _ _ _ HK1.out).mono ?_); rintro e w2 ⟨rfl, hT⟩; obtain ⟨y3, y4⟩ := HX.out _ hT.b; have HR2 := Lib.hid hT; clear hT))
      have HROW0 : Hid (eltS.Row (w2.alloc (.cells #[.string key] 9)) w2.heap.size (.slice (some ⟨w2.heap.size, 0, none⟩) 1 1) [key]) := Lib.hid (Elt.Row.made (E := eltS) w2 w2.heap.size (Nat.le_refl _) [key] (by simp) #[.string key] 1 rfl rfl)
      have HB0 : Hid (Below w2.heap.size w2 (w2.alloc (.cells #[.string key] 9))) := Lib.hid ((Below.refl _ _).alloc (Nat.le_refl _) _)
      have HFL : Hid (eltS.Flat w2 a1 K) := Lib.hid (by
        obtain ⟨a', c', e, hf⟩ := HR2.out.row.flat
        cases e
        exact hf)
      have HXW := Lib.hid (fun wr (hb : Below w2.heap.size w2 wr) => (show Below W1.heap.size W1 wr from HR2.out.b.trans (hb.mono HR2.out.z)))
      clear y1 y2 HK1 KK KP2 HV
      go_loopw [10, 11] (fun u s wr => ∃ i : Nat, i ≤ K.length ∧ s = .int .i64 (i : Int) ∧ Hid (eltS.Row wr w2.heap.size u (Lr.wl key room.toNat (K.take i)) ∧ Below w2.heap.size w2 wr)) (fun _ s _ => K.length - (intOf s).toNat)
      case atStart => exact ⟨0, by omega, rfl, Lib.hid ⟨by rw [List.take_zero, Lr.wl_nil]; exact HROW0.out, HB0.out⟩⟩
      case round =>
        obtain ⟨i, hi, rfl, hst⟩ := hrel
        clear HROW0 HB0 y3 y4
        obtain ⟨hrow, hb⟩ := hst.out
        obtain ⟨a', c', rfl⟩ := hrow.slice
        obtain ⟨y1, y2⟩ := HX.out _ (HXW.out _ hb)
        have hwl := Lr.wl_len key room.toNat (K.take i)
        rw [List.length_take] at hwl
        have hB0 : w2.heap.size ≤ wr.heap.size := hb.size
        by_cases hlt2 : i < K.length
        · obtain ⟨g, rfl, hg, hc⟩ := strs_at HFL.out (by omega)
          have d0 := (hb.cell (p := ⟨g, i, none⟩) hg).trans (hc i hlt2)
          have HS := Lib.hid (Lr.wl_same (k := key) (R := room.toNat) hlt2)
          have HM := Lib.hid (Lr.wl_more (k := key) (R := room.toNat) hlt2)
          have HFu := Lib.hid (Lr.wl_full (k := key) (R := room.toNat) hlt2)
          have HROW := Lib.hid hrow
          have HB := Lib.hid (fun q => below_drewN hb q)
          clear hc hrow hb hst
          generalize K[i] = s at *
          generalize Lr.wl key room.toNat (K.take i) = M at *
          have hml : M.length ≤ 1000000 := by omega
          by_cases e1 : s = key
          · have HN := Lib.hid (HS.out e1)
            have t1 := eq_yesS key
            subst e1
            clear HS HM HFu hwl
            go_wp2
            go_quiet (fail)
            go_wp2
            go_roundw
            case rel => exact ⟨i + 1, by omega, by go_num, Lib.hid ⟨by rw [HN.out]; exact HROW.out.keep (fun _ _ => rfl), HB.out _⟩⟩
            case measure => simp [intOf]; omega
          · have t1 := eq_noS e1
            by_cases e2 : (M.length : Int) < room
            · have HN := Lib.hid (HM.out e1 (by omega))
              have t3 : decide ((M.length : Int) < room) = true := decide_eq_true e2
              clear HS HM HFu hwl e1 e2
              go_wp2
              go_quiet (fail)
              have HRQ : Hid (eltS.Row (wr.drewN nq) w2.heap.size (.slice a' M.length c') M) := Lib.hid (HROW.out.keep (fun _ _ => rfl))
              have hBq : w2.heap.size ≤ (wr.drewN nq).heap.size := hB0
              go_wp2_with (at_builtin; (refine eltS.wpApp (wr.drewN nq) rfl _ _ rfl w2.heap.size (.slice a' M.length c') M rfl HRQ.out #[.string s] _ rfl s rfl (by omega) hBq ?_); intro v' w3 hown hb2 hkeep hlies)
              have HR3 := Lib.hid (show eltS.Row w3 w2.heap.size v' (Lr.wl key room.toNat (K.take (i + 1))) by rw [HN.out]; exact hown)
              have HB3 := Lib.hid ((HB.out nq).trans hb2)
              clear hown hb2 hkeep hlies
              go_roundw
              case rel => exact ⟨i + 1, by omega, by go_num, Lib.hid ⟨HR3.out, HB3.out⟩⟩
              case measure => simp [intOf]; omega
            · have HN := Lib.hid (HFu.out e1 (by omega))
              have t3 : decide ((M.length : Int) < room) = false := decide_eq_false e2
              clear HS HM HFu hwl e1 e2
              go_wp2
              go_quiet (fail)
              go_wp2
              go_roundw
              case rel => exact ⟨i + 1, by omega, by go_num, Lib.hid ⟨by rw [HN.out]; exact HROW.out.keep (fun _ _ => rfl), HB.out _⟩⟩
              case measure => simp [intOf]; omega
        · obtain rfl : i = K.length := by omega
          have hwk : Lr.wl key room.toNat (K.take K.length) = Lr.keys pr.1 := by rw [List.take_length, HKP.out]
          rw [hwk] at hrow ⊢
          have HSO := Lib.hid (HR2.out.solo.below hb)
          have KPK := Lib.hid (fun W (h : Solo W1 W1.heap.size P room pr.1 W) => (solo_peek key W hks h).mono (R' := fun e w' => e = .returned (.tuple #[.int .i64 x, .bool true]) ∧ W = w') fun e w' hr => by rw [HFP.out] at hr; exact ⟨hr.e, hr.w⟩)
          have KK3 := Lib.hid (fun W (h : Solo W1 W1.heap.size P room pr.1 W) => solo_keys W (by omega) h)
          have hll : (Lr.keys pr.1).length ≤ 1000000 := by simp [Lr.keys]; omega
          have HTX := Lib.hid (fun a3 ca3 W (hb2 : Below wr.heap.size wr W) (hf : eltS.Flat W a3 (Lr.keys pr.1)) => textsC a3 a' ca3 c' (Lr.keys pr.1) W hll hf (by
            obtain ⟨a4, c4, e4, hf4⟩ := (hrow.below hb2).flat
            cases e4
            exact hf4))
          have HBW := Lib.hid (HB1.out.trans ((HXW.out _ hb).mono (by have := HZ1.out; omega)))
          clear hrow hb hst hwk HFL HFP HKP HKP0 HFP0 hwl
          generalize Lr.keys pr.1 = L at *
          go_wp2_with (first | (go_at_call 15; (with_reducible refine (KPK.out _ HSO.out).mono ?_); rintro e wP ⟨rfl, rfl⟩) | (go_at_call 10; (with_reducible refine (KK3.out _ HSO.out).mono ?_); rintro e wC ⟨a3, ca3, rfl, hT⟩; have HT3 := Lib.hid hT.out; clear hT) | (go_at_call 9; (with_reducible refine (HTX.out _ _ _ HT3.out.2.1 HT3.out.1).mono ?_); rintro e wD ⟨rfl, hbD⟩; have HBD := Lib.hid hbD; clear hbD) | (go_at_call 7; (with_reducible refine (KL.out _).mono ?_); rintro e wE ⟨rfl, hbE⟩))
          go_ret
          have h3 := HBW.out.trans (HT3.out.2.1.mono HBW.out.size)
          have h4 := h3.trans (HBD.out.mono h3.size)
          exact ⟨rfl, h4.trans (hbE.mono h4.size)⟩
end Go.Proofs.Ytmofjplojlobiaa
