/-
  The law LruActs.
-/
import Derived.Test.YtmofjplojlobiaaLruW
import Derived.Deep.Cut
namespace Lr
theorem step_good {l : List E} (h : Good l) (room kd : Int) (k : ByteArray) (v : Int) : Good (step room l kd k v) := by
  unfold step
  split
  · exact h.put room k v
  · split
    · exact h.get k
    · split
      · exact h
      · exact h.without k
theorem step_len {l : List E} (h : Good l) (room kd : Int) (k : ByteArray) (v : Int) : (step room l kd k v).length ≤ l.length + 1 := by
  unfold step
  split
  · exact length_put room l k v
  · split
    · rw [length_get h]; omega
    · split
      · omega
      · have := length_without l k; omega
theorem step_room {l : List E} (h : Good l) {room : Int} (h0 : 0 ≤ room) (hr : (l.length : Int) ≤ room) (kd : Int) (k : ByteArray) (v : Int) : ((step room l kd k v).length : Int) ≤ room := by
  unfold step
  split
  · exact room_put h0 hr k v
  · split
    · rw [length_get h]; exact hr
    · split
      · exact hr
      · have := length_without l k; omega
end Lr
namespace Go.Proofs.Ytmofjplojlobiaa
open Go.RowKit
set_option linter.unusedVariables false

/-- 'wpAny_take' with the slot written out -/
theorem takeA {P : Program} {ops : Array Oper} {Q : Exit → Act → World → Prop} {md : Region.Mode} (i : Nat) (d : Tmp) (v : Value) {oi : Oper} {fuel : Nat} {listed : Array Bool} {a : Act} {w : World} (hi : ops[i]? = some oi) (hd : oi.dst = some d)
    (hs : Region.noSelect ops = true) (hf : Region.free md ops listed i = true) (hr : (Region.ready md ops listed).contains i = true)
    (hQ : ∀ c a w, Q (.panic c) (a.put oi.dst v) w → Q (.panic c) a w) (hy : Yields P ops oi v a)
    (h : wpAny P md ops Q fuel (listed.setIfInBounds i true) ⟨a.tmps.setIfInBounds d v, a.defers⟩ w) : wpAny P md ops Q (fuel + 1) listed a w :=
  wpAny_take hi hs hf hr hQ hy (by rw [hd]; exact h)

section
variable {w0 : World} {B P R : Nat} {room : Int} {av : Option Addr} {cv : Nat} {m : List Lr.E}
theorem two_keys (w : World) (hl : m.length ≤ 1000000) (h : TwoT w0 B P R room (.slice av m.length cv) m w) :
    Calls Try.prog 10 #[.pointer (some ⟨P, 0, none⟩)] w fun e w' => ∃ a cap, e = .returned (.slice a (Lr.keys m).length cap) ∧ Hid (eltS.Flat w' a (Lr.keys m) ∧ Below w.heap.size w w' ∧ TwoT w0 B P R room (.slice av m.length cv) m w') := by
  obtain ⟨F, h1, h2⟩ := h.s
  refine (keysC B P room m F w h1 hl).mono fun e w' hr => ?_
  obtain ⟨v, rfl, h3⟩ := hr.r
  obtain ⟨a, cap, rfl, hf⟩ := h3.flat
  exact ⟨a, cap, rfl, Lib.hid ⟨hf, hr.b, h.below hr.b⟩⟩
theorem two_rkeys (w : World) (hl : m.length ≤ 1000000) (h : TwoT w0 B P R room (.slice av m.length cv) m w) :
    Calls Try.prog 11 #[.agg #[.int .i64 room, .slice av m.length cv]] w fun e w' => ∃ a cap, e = .returned (.slice a (Lr.keys m).length cap) ∧ Hid (eltS.Flat w' a (Lr.keys m) ∧ Below w.heap.size w w' ∧ TwoT w0 B P R room (.slice av m.length cv) m w') := by
  obtain ⟨a', c', e, hf⟩ := h.r.row.flat
  cases e
  refine (refKeysC room av cv m w hl hf).mono fun e w' hr => ?_
  obtain ⟨v, rfl, h3⟩ := hr.r
  obtain ⟨a, cap, rfl, hf⟩ := h3.flat
  exact ⟨a, cap, rfl, Lib.hid ⟨hf, hr.b, h.below hr.b⟩⟩
theorem two_texts (a b : Option Addr) (ca cb : Nat) (w : World) (hl : m.length ≤ 1000000) (h : TwoT w0 B P R room (.slice av m.length cv) m w) (ha : eltS.Flat w a (Lr.keys m)) (hb : eltS.Flat w b (Lr.keys m)) :
    Calls Try.prog 9 #[.slice a (Lr.keys m).length ca, .slice b (Lr.keys m).length cb] w fun e w' => e = .returned (.bool true) ∧ TwoT w0 B P R room (.slice av m.length cv) m w' :=
  (textsC a b ca cb (Lr.keys m) w (by simpa [Lr.keys] using hl) ha hb).mono fun e w' hr => ⟨hr.e, h.below hr.b⟩
theorem two_len (w : World) (h : TwoT w0 B P R room (.slice av m.length cv) m w) : Calls Try.prog 12 #[.pointer (some ⟨P, 0, none⟩)] w (Same (.int .i64 (m.length : Int)) w) := by
  obtain ⟨F, h1, h2⟩ := h.s
  exact lenC B P room m F w h1
end

/-- acts as they came in -/
def ActAt (w : World) (a : Option Addr) (len : Nat) (t : Nat → Int × ByteArray × Int) : Prop := len = 0 ∨ ∃ b off : Nat, a = some ⟨b, off, none⟩ ∧ b < w.heap.size ∧
  ∀ i, i < len → w.cell? ⟨b, off + i * 3, none⟩ = some (.int .i64 (t i).1) ∧ w.cell? ⟨b, off + i * 3 + 1, none⟩ = some (.string (t i).2.1) ∧ w.cell? ⟨b, off + i * 3 + 2, none⟩ = some (.int .i64 (t i).2.2) ∧ (t i).2.1.size ≤ 140737488351232

set_option maxRecDepth 100000 in
set_option maxHeartbeats 4000000 in
theorem lruActs_low (room : Int) (a : Option Addr) (len cap : Nat) (w : World) (h : room < 1) : Calls Try.prog 3 #[.int .i64 room, .slice a len cap] w (Ret (.bool true) w) := by
  have K0 := Lib.hid (fun W => newBad room W h)
  have K1 := Lib.hid (fun W => liveOk W)
  have t1 : decide (room ≥ 1) = false := decide_eq_false (by omega)
  have t2 : decide (room < 1) = true := decide_eq_true h
  by_cases hl : 200 < len
  · go_enter Try.func3, Try.ntmps3
    go_wp2_with (first | (go_at_call 6; (with_reducible refine (K0.out _).mono ?_); rintro e wA ⟨rfl, rfl⟩) | (go_at_call 7; (with_reducible refine (K1.out _).mono ?_); rintro e wB ⟨rfl, hbB⟩))
    go_ret
    exact ⟨rfl, hbB⟩
  · go_enter Try.func3, Try.ntmps3
    go_wp2_with (first | (go_at_call 6; (with_reducible refine (K0.out _).mono ?_); rintro e wA ⟨rfl, rfl⟩) | (go_at_call 7; (with_reducible refine (K1.out _).mono ?_); rintro e wB ⟨rfl, hbB⟩))
    go_ret
    exact ⟨rfl, hbB⟩
set_option maxRecDepth 100000 in
set_option maxHeartbeats 4000000 in
theorem lruActs_many (room : Int) (a : Option Addr) (len cap : Nat) (w : World) (h : ¬ room < 1) (hl : 200 < len) : Calls Try.prog 3 #[.int .i64 room, .slice a len cap] w (Ret (.bool true) w) := by
  have K0 := Lib.hid (fun W hb => solo_new room h w W hb)
  have K1 := Lib.hid (fun W => liveOk W)
  have t1 : decide (room ≥ 1) = true := decide_eq_true (by omega)
  go_enter Try.func3, Try.ntmps3
  go_wp2_with (first | (go_at_call 6; (with_reducible refine (K0.out _ (Below.refl _ _)).mono ?_); rintro e wA ⟨P, rfl, hV⟩; have HB := Lib.hid hV.b; clear hV) | (go_at_call 7; (with_reducible refine (K1.out _).mono ?_); rintro e wB ⟨rfl, hbB⟩))
  go_ret
  exact ⟨rfl, HB.out.trans (hbB.mono HB.out.size)⟩
set_option maxRecDepth 100000 in
set_option maxHeartbeats 8000000 in
theorem lruActs_at (room : Int) (a : Option Addr) (len cap : Nat) (t : Nat → Int × ByteArray × Int) (w : World) (h0 : ¬ room < 1) (hl : len ≤ 200) (h : ActAt w a len t) : Calls Try.prog 3 #[.int .i64 room, .slice a len cap] w (Ret (.bool true) w) := by
  have K0 := Lib.hid (fun W hb => solo_new room h0 w W hb)
  have KL := Lib.hid (fun W => liveOk W)
  have t2 : decide (room < 1) = false := decide_eq_false h0
  have hr0 : 0 ≤ room := by omega
  have HA := Lib.hid h; clear h
  go_enter Try.func3, Try.ntmps3
  go_wp2_with (go_at_call 6; (with_reducible refine (K0.out _ (Below.refl _ _)).mono ?_); rintro e wA ⟨P, rfl, hV⟩)
  obtain ⟨R, hR⟩ : ∃ R, R = wA.heap.size := ⟨_, rfl⟩
  have hT0 : Hid (TwoT w w.heap.size P R room (.slice none 0 0) [] (wA.alloc (.cells #[.int .i64 room, .slice none 0 0] 29))) := Lib.hid (by
    rw [hR]
    obtain ⟨F, hF⟩ := hV.s
    have hb : Below wA.heap.size wA (wA.alloc (.cells #[.int .i64 room, .slice none 0 0] 29)) := (Below.refl _ _).alloc (Nat.le_refl _) _
    refine ⟨⟨F, hF.keep (fun k hk => hb.block k (hF.lt k hk).2), fun k hk hf => ?_⟩, ⟨heap_alloc_new _ _, Elt.Row.nil _ _, hV.z⟩, hV.b.trans (hb.mono hV.z)⟩
    rcases hf with e | e
    · have := (hF.lt k hk).2; omega
    · simp [Value.ownBlock] at e)
  rw [← hR]
  clear hV hR K0
  go_loopw [7] (fun i wr => ∃ (k : Nat) (l : List Lr.E) (v : Value), k ≤ len ∧ i = .int .i64 (k : Int) ∧ Hid (TwoT w w.heap.size P R room v l wr ∧ Lr.Good l ∧ (l.length : Int) ≤ room ∧ l.length ≤ k)) (fun i _ => len - (intOf i).toNat)
  case atStart => exact ⟨0, [], _, by omega, rfl, Lib.hid ⟨hT0.out, Lr.good_nil, by simpa using hr0, by simp⟩⟩
  case round =>
    obtain ⟨k, l, v, hk, rfl, hst⟩ := hrel
    clear hT0
    by_cases hlt : k < len
    · rcases HA.out with h | ⟨g, off, rfl, hg, hc⟩
      · omega
      · obtain ⟨e0, e1, e2, es⟩ := hc k hlt
        obtain ⟨hT, hgd, hrm, hlk⟩ := hst.out
        have d0 := (hT.b.cell (p := ⟨g, off + k * 3, none⟩) hg).trans e0
        have d1 := (hT.b.cell (p := ⟨g, off + k * 3 + 1, none⟩) hg).trans e1
        have d2 := (hT.b.cell (p := ⟨g, off + k * 3 + 2, none⟩) hg).trans e2
        clear e0 e1 e2 hc
        generalize (t k).1 = kd at *
        generalize (t k).2.1 = key at *
        generalize (t k).2.2 = x at *
        have HT := Lib.hid (hT.below (Below.refl wr.heap.size wr).drew)
        have KD := Lib.hid (fun W (h : TwoT w w.heap.size P R room v l W) => doesC w w.heap.size P R room v l kd key x W es (by omega) hrm hgd h)
        have HG2 := Lib.hid (Lr.step_good hgd room kd key x)
        have hl2 := Lr.step_len hgd room kd key x
        have hr2 := Lr.step_room hgd hr0 hrm kd key x
        clear hT hgd hrm hst es
        go_upto_region 8 with fail
        refine wp_region_any (by kernel_rfl) ?_
        change wpAny _ _ _ _ _ _ _ (World.drew _)
        refine takeA 0 35 ?_ rfl rfl (by kernel_rfl) (by kernel_rfl) (by kernel_rfl) (fun _ _ _ h => h) (Or.inl ⟨by kernel_rfl, ?_⟩) ?_; rotate_left; (intro w'; first | (go_simp; done) | (go_simp; with_reducible rfl)); rotate_left
        try simp only [List.setIfInBounds_toArray, List.set_cons_zero, List.set_cons_succ]
        refine takeA 1 36 ?_ rfl rfl (by kernel_rfl) (by kernel_rfl) (by kernel_rfl) (fun _ _ _ h => h) (Or.inl ⟨by kernel_rfl, ?_⟩) ?_; rotate_left; (intro w'; first | (go_simp; done) | (go_simp; with_reducible rfl)); rotate_left
        try simp only [List.setIfInBounds_toArray, List.set_cons_zero, List.set_cons_succ]
        refine takeA 2 37 ?_ rfl rfl (by kernel_rfl) (by kernel_rfl) (by kernel_rfl) (fun _ _ _ h => h) (Or.inl ⟨by kernel_rfl, ?_⟩) ?_; rotate_left; (intro w'; first | (go_simp; done) | (go_simp; with_reducible rfl)); rotate_left
        try simp only [List.setIfInBounds_toArray, List.set_cons_zero, List.set_cons_succ]
        refine takeA 3 38 ?_ rfl rfl (by kernel_rfl) (by kernel_rfl) (by kernel_rfl) (fun _ _ _ h => h) (Or.inl ⟨by kernel_rfl, ?_⟩) ?_; rotate_left; (intro w'; first | (go_simp; done) | (go_simp; with_reducible rfl)); rotate_left
        try simp only [List.setIfInBounds_toArray, List.set_cons_zero, List.set_cons_succ]
        refine takeA 4 39 ?_ rfl rfl (by kernel_rfl) (by kernel_rfl) (by kernel_rfl) (fun _ _ _ h => h) (Or.inl ⟨by kernel_rfl, ?_⟩) ?_; rotate_left; (intro w'; first | (go_simp; done) | (go_simp; with_reducible rfl)); rotate_left
        try simp only [List.setIfInBounds_toArray, List.set_cons_zero, List.set_cons_succ]
        refine wpAny_ready (rs := [5]) (by kernel_rfl) (by simp) ?_; refine AllReady.cons rfl (fun K2 hK => ?_) AllReady.nil; go_simp; refine hK _ _ ?_; clear hK K2
        refine wpAny_ready (rs := [6]) (by kernel_rfl) (by simp) ?_; refine AllReady.cons rfl (fun K2 hK => ?_) AllReady.nil; go_simp; go_wp2_with (go_at_call 8; (with_reducible refine (KD.out _ HT.out).mono ?_); rintro e wB ⟨rfl, hT⟩; obtain ⟨v', hT⟩ := hT; have HTB := Lib.hid hT; clear hT); (try (refine hK _ _ ?_; clear hK K2))
        refine takeA 7 42 ?_ rfl rfl (by kernel_rfl) (by kernel_rfl) (by kernel_rfl) (fun _ _ _ h => h) (Or.inl ⟨by kernel_rfl, ?_⟩) ?_; rotate_left; (intro w'; first | (go_simp; done) | (go_simp; with_reducible rfl)); rotate_left
        try simp only [List.setIfInBounds_toArray, List.set_cons_zero, List.set_cons_succ]
        refine takeA 8 43 ?_ rfl rfl (by kernel_rfl) (by kernel_rfl) (by kernel_rfl) (fun _ _ _ h => h) (Or.inl ⟨by kernel_rfl, ?_⟩) ?_; rotate_left; (intro w'; first | (go_simp; done) | (go_simp; with_reducible rfl)); rotate_left
        try simp only [List.setIfInBounds_toArray, List.set_cons_zero, List.set_cons_succ]
        obtain ⟨av, cv, rfl⟩ := HTB.out.r.row.slice
        clear d0 d1 d2 HT KD
        generalize Lr.step room l kd key x = m at *
        have HC := Lib.hid (fun W (h : TwoT w w.heap.size P R room (.slice av m.length cv) m W) => (show W.cell? ⟨R, 0, none⟩ = some (.int .i64 room) ∧ W.cell? ⟨R, 1, none⟩ = some (.slice av m.length cv) from ⟨h.r.c0, h.r.c1⟩))
        have K10 := Lib.hid (fun W (h : TwoT w w.heap.size P R room (.slice av m.length cv) m W) => two_keys W (by omega) h)
        have K14 := Lib.hid (fun W (h : TwoT w w.heap.size P R room (.slice av m.length cv) m W) => two_rkeys W (by omega) h)
        have K15 := Lib.hid (fun a b ca cb W (h : TwoT w w.heap.size P R room (.slice av m.length cv) m W) ha hb => two_texts a b ca cb W (by omega) h ha hb)
        have K20 := Lib.hid (fun W (h : TwoT w w.heap.size P R room (.slice av m.length cv) m W) => two_len W h)
        have hgt : decide (room < (m.length : Int)) = false := decide_eq_false (by omega)
        refine wpAny_of_held (S := TwoT w w.heap.size P R room (.slice av m.length cv) m) _ _ _ _ ?_
        have hS := HTB.out
        refine takeH 9 44 ?_ rfl rfl (by kernel_rfl) (by kernel_rfl) (by kernel_rfl) (fun _ _ _ h => h) (Or.inl ⟨by kernel_rfl, ?_⟩) hS ?_; rotate_left; (intro w' hw; skip; first | (go_simp; done) | (go_simp; with_reducible rfl)); rotate_left
        try simp only [List.setIfInBounds_toArray, List.set_cons_zero, List.set_cons_succ]
        refine takeH 11 46 ?_ rfl rfl (by kernel_rfl) (by kernel_rfl) (by kernel_rfl) (fun _ _ _ h => h) (Or.inl ⟨by kernel_rfl, ?_⟩) hS ?_; rotate_left; (intro w' hw; skip; first | (go_simp; done) | (go_simp; with_reducible rfl)); rotate_left
        try simp only [List.setIfInBounds_toArray, List.set_cons_zero, List.set_cons_succ]
        refine takeH 12 47 ?_ rfl rfl (by kernel_rfl) (by kernel_rfl) (by kernel_rfl) (fun _ _ _ h => h) (Or.inl ⟨by kernel_rfl, ?_⟩) hS ?_; rotate_left; (intro w' hw; skip; first | (go_simp; done) | (go_simp; with_reducible rfl)); rotate_left
        try simp only [List.setIfInBounds_toArray, List.set_cons_zero, List.set_cons_succ]
        refine takeH 13 48 ?_ rfl rfl (by kernel_rfl) (by kernel_rfl) (by kernel_rfl) (fun _ _ _ h => h) (Or.inl ⟨by kernel_rfl, ?_⟩) hS ?_; rotate_left; (intro w' hw; obtain ⟨z0, z1⟩ := HC.out _ hw; first | (go_simp; done) | (go_simp; with_reducible rfl)); rotate_left
        try simp only [List.setIfInBounds_toArray, List.set_cons_zero, List.set_cons_succ]
        refine wpAnyH_ready (rs := [10]) (by kernel_rfl) (by simp) ?_; refine AllReadyH.cons rfl (fun K2 hK => ?_) AllReadyH.nil; go_simp; go_wp2_with (go_at_call 10; (with_reducible refine (K10.out _ hS).mono ?_); rintro e wC ⟨a1, ca1, rfl, hT⟩; replace hS := hT.out.2.2; have HF1 := Lib.hid hT.out.1; clear hT); refine hK.out _ _ ?_ (fun _ => ?_); (exact hS); clear hK K2
        refine wpAnyH_ready (rs := [14]) (by kernel_rfl) (by simp) ?_; refine AllReadyH.cons rfl (fun K2 hK => ?_) AllReadyH.nil; go_simp; go_wp2_with (go_at_call 11; (with_reducible refine (K14.out _ hS).mono ?_); rintro e wD ⟨a2, ca2, rfl, hT⟩; replace hS := hT.out.2.2; replace HF1 := Lib.hid (HF1.out.below hT.out.2.1); have HF2 := Lib.hid hT.out.1; clear hT); refine hK.out _ _ ?_ (fun _ => ?_); (exact hS); clear hK K2
        refine wpAnyH_ready (rs := [15]) (by kernel_rfl) (by simp) ?_; refine AllReadyH.cons rfl (fun K2 hK => ?_) AllReadyH.nil; go_simp; go_wp2_with (go_at_call 9; (with_reducible refine (K15.out _ _ _ _ _ hS HF1.out HF2.out).mono ?_); rintro e wE ⟨rfl, hT⟩; replace hS := hT; clear hT); refine hK.out _ _ ?_ (fun _ => ?_); (exact hS); clear hK K2
        refine takeH 16 51 ?_ rfl rfl (by kernel_rfl) (by kernel_rfl) (by kernel_rfl) (fun _ _ _ h => h) (Or.inl ⟨by kernel_rfl, ?_⟩) hS ?_; rotate_left; (intro w' hw; skip; first | (go_simp; done) | (go_simp; with_reducible rfl)); rotate_left
        try simp only [List.setIfInBounds_toArray, List.set_cons_zero, List.set_cons_succ]
        refine takeH 17 52 ?_ rfl rfl (by kernel_rfl) (by kernel_rfl) (by kernel_rfl) (fun _ _ _ h => h) (Or.inl ⟨by kernel_rfl, ?_⟩) hS ?_; rotate_left; (intro w' hw; skip; first | (go_simp; done) | (go_simp; with_reducible rfl)); rotate_left
        try simp only [List.setIfInBounds_toArray, List.set_cons_zero, List.set_cons_succ]
        refine takeH 18 53 ?_ rfl rfl (by kernel_rfl) (by kernel_rfl) (by kernel_rfl) (fun _ _ _ h => h) (Or.inl ⟨by kernel_rfl, ?_⟩) hS ?_; rotate_left; (intro w' hw; skip; first | (go_simp; done) | (go_simp; with_reducible rfl)); rotate_left
        try simp only [List.setIfInBounds_toArray, List.set_cons_zero, List.set_cons_succ]
        refine takeH 19 54 ?_ rfl rfl (by kernel_rfl) (by kernel_rfl) (by kernel_rfl) (fun _ _ _ h => h) (Or.inl ⟨by kernel_rfl, ?_⟩) hS ?_; rotate_left; (intro w' hw; skip; first | (go_simp; done) | (go_simp; with_reducible rfl)); rotate_left
        try simp only [List.setIfInBounds_toArray, List.set_cons_zero, List.set_cons_succ]
        refine takeH 21 56 ?_ rfl rfl (by kernel_rfl) (by kernel_rfl) (by kernel_rfl) (fun _ _ _ h => h) (Or.inl ⟨by kernel_rfl, ?_⟩) hS ?_; rotate_left; (intro w' hw; skip; first | (go_simp; done) | (go_simp; with_reducible rfl)); rotate_left
        try simp only [List.setIfInBounds_toArray, List.set_cons_zero, List.set_cons_succ]
        refine takeH 22 57 ?_ rfl rfl (by kernel_rfl) (by kernel_rfl) (by kernel_rfl) (fun _ _ _ h => h) (Or.inl ⟨by kernel_rfl, ?_⟩) hS ?_; rotate_left; (intro w' hw; skip; first | (go_simp; done) | (go_simp; with_reducible rfl)); rotate_left
        try simp only [List.setIfInBounds_toArray, List.set_cons_zero, List.set_cons_succ]
        refine takeH 23 58 ?_ rfl rfl (by kernel_rfl) (by kernel_rfl) (by kernel_rfl) (fun _ _ _ h => h) (Or.inl ⟨by kernel_rfl, ?_⟩) hS ?_; rotate_left; (intro w' hw; skip; first | (go_simp; done) | (go_simp; with_reducible rfl)); rotate_left
        try simp only [List.setIfInBounds_toArray, List.set_cons_zero, List.set_cons_succ]
        refine takeH 24 59 ?_ rfl rfl (by kernel_rfl) (by kernel_rfl) (by kernel_rfl) (fun _ _ _ h => h) (Or.inl ⟨by kernel_rfl, ?_⟩) hS ?_; rotate_left; (intro w' hw; obtain ⟨z0, z1⟩ := HC.out _ hw; first | (go_simp; done) | (go_simp; with_reducible rfl)); rotate_left
        try simp only [List.setIfInBounds_toArray, List.set_cons_zero, List.set_cons_succ]
        refine takeH 25 60 ?_ rfl rfl (by kernel_rfl) (by kernel_rfl) (by kernel_rfl) (fun _ _ _ h => h) (Or.inl ⟨by kernel_rfl, ?_⟩) hS ?_; rotate_left; (intro w' hw; skip; first | (go_simp; done) | (go_simp; with_reducible rfl)); rotate_left
        try simp only [List.setIfInBounds_toArray, List.set_cons_zero, List.set_cons_succ]
        refine wpAnyH_ready (rs := [20]) (by kernel_rfl) (by simp) ?_; refine AllReadyH.cons rfl (fun K2 hK => ?_) AllReadyH.nil; go_simp; go_wp2_with (go_at_call 12; (with_reducible refine (K20.out _ hS).mono ?_); rintro e wF ⟨rfl, rfl⟩); refine hK.out _ _ ?_ (fun _ => ?_); (exact hS); clear hK K2
        refine takeH 26 61 ?_ rfl rfl (by kernel_rfl) (by kernel_rfl) (by kernel_rfl) (fun _ _ _ h => h) (Or.inl ⟨by kernel_rfl, ?_⟩) hS ?_; rotate_left; (intro w' hw; skip; first | (go_simp; done) | (go_simp; with_reducible rfl)); rotate_left
        try simp only [List.setIfInBounds_toArray, List.set_cons_zero, List.set_cons_succ]
        refine takeH 27 62 ?_ rfl rfl (by kernel_rfl) (by kernel_rfl) (by kernel_rfl) (fun _ _ _ h => h) (Or.inl ⟨by kernel_rfl, ?_⟩) hS ?_; rotate_left; (intro w' hw; skip; first | (go_simp; done) | (go_simp; with_reducible rfl)); rotate_left
        try simp only [List.setIfInBounds_toArray, List.set_cons_zero, List.set_cons_succ]
        refine takeH 28 63 ?_ rfl rfl (by kernel_rfl) (by kernel_rfl) (by kernel_rfl) (fun _ _ _ h => h) (Or.inl ⟨by kernel_rfl, ?_⟩) hS ?_; rotate_left; (intro w' hw; skip; first | (go_simp; done) | (go_simp; with_reducible rfl)); rotate_left
        try simp only [List.setIfInBounds_toArray, List.set_cons_zero, List.set_cons_succ]
        refine takeH 29 64 ?_ rfl rfl (by kernel_rfl) (by kernel_rfl) (by kernel_rfl) (fun _ _ _ h => h) (Or.inl ⟨by kernel_rfl, ?_⟩) hS ?_; rotate_left; (intro w' hw; skip; first | (go_simp; done) | (go_simp; with_reducible rfl)); rotate_left
        try simp only [List.setIfInBounds_toArray, List.set_cons_zero, List.set_cons_succ]
        refine takeH 31 66 ?_ rfl rfl (by kernel_rfl) (by kernel_rfl) (by kernel_rfl) (fun _ _ _ h => h) (Or.inl ⟨by kernel_rfl, ?_⟩) hS ?_; rotate_left; (intro w' hw; skip; first | (go_simp; done) | (go_simp; with_reducible rfl)); rotate_left
        try simp only [List.setIfInBounds_toArray, List.set_cons_zero, List.set_cons_succ]
        refine wpAnyH_ready (rs := [30]) (by kernel_rfl) (by simp) ?_; refine AllReadyH.cons rfl (fun K2 hK => ?_) AllReadyH.nil; go_simp; go_wp2_with (go_at_call 12; (with_reducible refine (K20.out _ hS).mono ?_); rintro e wG ⟨rfl, rfl⟩); refine hK.out _ _ ?_ (fun _ => ?_); (exact hS); clear hK K2
        refine takeH 32 67 ?_ rfl rfl (by kernel_rfl) (by kernel_rfl) (by kernel_rfl) (fun _ _ _ h => h) (Or.inl ⟨by kernel_rfl, ?_⟩) hS ?_; rotate_left; (intro w' hw; skip; first | (go_simp; done) | (go_simp; with_reducible rfl)); rotate_left
        try simp only [List.setIfInBounds_toArray, List.set_cons_zero, List.set_cons_succ]
        refine takeH 33 68 ?_ rfl rfl (by kernel_rfl) (by kernel_rfl) (by kernel_rfl) (fun _ _ _ h => h) (Or.inl ⟨by kernel_rfl, ?_⟩) hS ?_; rotate_left; (intro w' hw; skip; first | (go_simp; done) | (go_simp; with_reducible rfl)); rotate_left
        try simp only [List.setIfInBounds_toArray, List.set_cons_zero, List.set_cons_succ]
        refine wpAnyH_done (by kernel_rfl) ?_ _
        go_wp2
        go_roundw
        case rel => exact ⟨k + 1, m, _, by omega, by go_num, Lib.hid ⟨hS, HG2.out, hr2, by omega⟩⟩
        case measure => simp [intOf]; omega
    · obtain rfl : k = len := by omega
      have HB := Lib.hid hst.out.1.b
      clear hst
      go_wp2_with (go_at_call 7; (with_reducible refine (KL.out _).mono ?_); rintro e wB ⟨rfl, hbB⟩)
      go_ret
      exact ⟨rfl, HB.out.trans (hbB.mono HB.out.size)⟩
end Go.Proofs.Ytmofjplojlobiaa
