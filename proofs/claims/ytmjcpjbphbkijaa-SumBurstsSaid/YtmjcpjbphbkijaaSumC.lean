/-
  The law of the bursts.
-/
import Derived.Test.YtmjcpjbphbkijaaSumB
namespace Go.Proofs.Ytmjcpjbphbkijaa
open Go.RowKit
set_option linter.unusedVariables false

theorem frozen_in (w : World) (g j lo hi : Nat) (cs : Array Value) (t : TypeId) (hg : w.heap[g]? = some (.cells cs t (lo, hi))) (hj : j < lo) : w.frozen? ⟨g, j, none⟩ = false := by
  unfold World.frozen?
  rw [hg]
  have : ¬ lo ≤ j := by omega
  simp [this]
theorem heap_setCell_any (w : World) (g i : Nat) (cs : Array Value) (t : TypeId) (fr : Nat × Nat) (v : Value) (hg : w.heap[g]? = some (.cells cs t fr)) :
    (w.setCell ⟨g, i, none⟩ v).heap[g]? = some (.cells (cs.setIfInBounds i v) t fr) := by
  simp [World.setCell, Array.getElem?_modify, hg]

/-- a row whose first cells are the bytes l -/
def RowIs (w : World) (g c : Nat) (l : List UInt8) : Prop :=
  ∃ C : Array Value, w.heap[g]? = some (.cells C 5 (c, c + 1)) ∧ C.size = c ∧ l.length ≤ c ∧ ∀ j (h : j < l.length), C[j]? = some (.int .u8 (l[j].toNat : Int))
theorem RowIs.lt {w : World} {g c : Nat} {l : List UInt8} (h : RowIs w g c l) : g < w.heap.size := by
  obtain ⟨C, hg, _⟩ := h
  exact lt_block hg
theorem RowIs.cell {w : World} {g c : Nat} {l : List UInt8} (h : RowIs w g c l) (j : Nat) (hj : j < l.length) : w.cell? ⟨g, j, none⟩ = some (.int .u8 (l[j].toNat : Int)) := by
  obtain ⟨C, hg, hc, hl, hC⟩ := h
  rw [cell_of_row w g j C _ _ hg]; exact hC j hj
theorem RowIs.frozen {w : World} {g c : Nat} {l : List UInt8} (h : RowIs w g c l) (j : Nat) (hj : j < l.length) : w.frozen? ⟨g, j, none⟩ = false := by
  obtain ⟨C, hg, hc, hl, hC⟩ := h
  exact frozen_in w g j c (c + 1) C _ hg (by omega)
theorem RowIs.set {w : World} {g c : Nat} {l m : List UInt8} (h : RowIs w g c l) (i : Nat) (hi : i < l.length) (b : UInt8) (hm : m.length = l.length)
    (hb : ∀ j (hj : j < m.length), m[j] = if j = i then b else l[j]'(by omega)) : RowIs (w.setCell ⟨g, i, none⟩ (.int .u8 (b.toNat : Int))) g c m := by
  obtain ⟨C, hg, hc, hl, hC⟩ := h
  refine ⟨_, heap_setCell_any w g i C _ _ _ hg, by simpa using hc, by omega, fun j hj => ?_⟩
  rw [Array.getElem?_setIfInBounds, hb j hj]
  by_cases e : i = j
  · subst e; rw [if_pos rfl, if_pos rfl, if_pos (by omega)]
  · rw [if_neg e, if_neg (by omega)]; exact hC j (by omega)
theorem RowIs.str {w : World} {g c : Nat} {l : List UInt8} (h : RowIs w g c l) (n : Nat) (hn : l.length = n) :
    (convert 28 9 (.slice (some ⟨g, 0, none⟩) n c)).run Try.prog w = .ok (.string ⟨l.toArray⟩) w := by
  subst hn
  refine run_convert_bytes_back (P := Try.prog) _ 28 9 5 ⟨g, 0, none⟩ _ l Try.underlying28 Try.underlying5 Try.underlying9 (fun j hj => ?_)
  have e : (⟨g, 0, none⟩ : Addr).add j = ⟨g, j, none⟩ := by
    unfold Addr.add; by_cases h : j = 0 <;> simp [h]
  rw [e, h.cell j hj]
theorem RowIs.below {w w' : World} {g c : Nat} {l : List UInt8} {b : Nat} (h : RowIs w g c l) (hb : Below b w w') (hg : g < b) : RowIs w' g c l := by
  obtain ⟨C, h1, h2⟩ := h
  exact ⟨C, (hb.block g hg).trans h1, h2⟩

theorem rowIs_new (w : World) (s : ByteArray) (c : Nat) (hc : s.size ≤ c) (hn : (bytesRow s c).size = c) :
    RowIs (w.drew.alloc (.cells (bytesRow s c) 5 ((bytesRow s c).size, (bytesRow s c).size + 1))) w.heap.size c (bl s) := by
  rw [hn]
  refine ⟨_, heap_alloc_new w.drew _, hn, by rw [bl_length]; exact hc, fun j hj => ?_⟩
  rw [bl_length] at hj
  rw [bytesRow_at s c j hj, bl_get s j hj]
  rfl

theorem pow_u8 (m : Nat) (h : m < 8) : (2 : Int) ^ m % 256 = ((2 ^ m : Nat) : Int) := by
  have hh : ∀ m : Fin 8, (2 : Int) ^ m.val % 256 = ((2 ^ m.val : Nat) : Int) := by decide +kernel
  exact hh ⟨m, h⟩
theorem xor_u8 (x : UInt8) (m : Nat) (h : m < 8) : bits BinOp.xor IntKind.u8 (x.toNat : Int) ((2 ^ m : Nat) : Int) = ((x ^^^ UInt8.ofNat (2 ^ m)).toNat : Int) := by
  have hp : 2 ^ m < 256 := by
    have hh : ∀ m : Fin 8, 2 ^ m.val < 256 := by decide +kernel
    exact hh ⟨m, h⟩
  rw [u8_xor_nat _ _ (UInt8.toNat_lt x) hp, UInt8.toNat_xor, UInt8.toNat_ofNat', Nat.mod_eq_of_lt hp]

set_option maxHeartbeats 1000000 in
set_option maxRecDepth 100000 in
theorem sumBursts_walk (s : ByteArray) (p v : Int) (w : World) (w0 : s.size ≤ maxLen) (w1 : (Lit.int .i64 p).wf = true) (w2 : (Lit.int .u32 v).wf = true) :
    Calls Try.prog 4 #[.string s, .int .i64 p, .int .u32 v] w (Ret (.bool true) w) := by
  have hs := len_max w0
  obtain ⟨p0, p1⟩ := wf_i64 w1
  obtain ⟨h0, h1⟩ := wf_u32 w2
  clear w0 w1 w2
  have c7 := fun W => liveOk W
  have C7 := Lib.hid c7; clear c7
  by_cases g1 : 2000 < s.size
  · go_enter Try.func4, Try.ntmps4
    go_wp2_with (go_at_call 5; (with_reducible refine (C7.out _).mono ?_); rintro e w1 ⟨rfl, hb1⟩)
    go_ret
    exact ⟨rfl, hb1⟩
  by_cases g2 : v = 0
  · go_enter Try.func4, Try.ntmps4
    go_wp2_with (go_at_call 5; (with_reducible refine (C7.out _).mono ?_); rintro e w1 ⟨rfl, hb1⟩)
    go_ret
    exact ⟨rfl, hb1⟩
  by_cases g3 : p < 0
  · go_enter Try.func4, Try.ntmps4
    go_wp2_with (go_at_call 5; (with_reducible refine (C7.out _).mono ?_); rintro e w1 ⟨rfl, hb1⟩)
    go_ret
    exact ⟨rfl, hb1⟩
  by_cases g4 : p > 8 * (s.size : Int) - 32
  · go_enter Try.func4, Try.ntmps4
    go_wp2_with (go_at_call 5; (with_reducible refine (C7.out _).mono ?_); rintro e w1 ⟨rfl, hb1⟩)
    go_ret
    exact ⟨rfl, hb1⟩
  obtain ⟨a, rfl⟩ : ∃ a : Nat, p = (a : Int) := ⟨p.toNat, by omega⟩
  clear p0 p1 g3 hs
  have q1 : ¬ (2000 : Int) < (s.size : Int) := by omega
  have q3 : ¬ (a : Int) < 0 := by omega
  have hcv := run_bytes_of_string (P := Try.prog) w 9 28 5 s Try.underlying9 Try.underlying28 Try.underlying5
  have hge := grownCap_ge w s.size 0 5
  generalize grownCap w s.size 0 5 = c at hcv hge
  have hrow := rowIs_new w s c hge (by unfold bytesRow; rw [Array.size_append, Array.size_map, Array.size_replicate]; show s.size + _ = _; omega)
  have hbel : Below w.heap.size w (w.drew.alloc (.cells (bytesRow s c) 5 ((bytesRow s c).size, (bytesRow s c).size + 1))) := (Below.refl _ _).drew.alloc (Nat.le_refl _) _
  obtain ⟨W0, HW0⟩ : ∃ W0, W0 = (w.drew.alloc (.cells (bytesRow s c) 5 ((bytesRow s c).size, (bytesRow s c).size + 1))) := ⟨_, rfl⟩
  rw [← HW0] at hcv hrow hbel
  clear HW0
  have hlen : (bl s).length = s.size := bl_length s
  have hne := Sm.crc_ne 4294967295#32 a v.toNat (bl s) (by omega) (by omega) (by omega)
  obtain ⟨V, HV⟩ : ∃ V : Nat, Hid (v = (V : Int) ∧ v.toNat = V) := ⟨v.toNat, ⟨by omega, rfl⟩⟩
  rw [HV.out.2] at hne
  have HNE := Lib.hid hne; clear hne
  go_enter Try.func4, Try.ntmps4
  go_wp2
  go_loopw [8] (fun i wr => ∃ k : Nat, k ≤ 32 ∧ i = .int .i64 k ∧ RowIs wr w.heap.size c (Sm.burst a V (bl s) k) ∧ Below w.heap.size w wr) (fun i _ => 32 - (intOf i).toNat)
  case atStart => exact ⟨0, by omega, rfl, hrow, hbel⟩
  case round =>
    obtain ⟨k, hk, rfl, hR, hB⟩ := hrel
    have hbl := Sm.burst_length a V (bl s) k
    by_cases hlt : k < 32
    · by_cases hbit : V / 2 ^ k % 2 = 1
      · have hbit' : ((v / 2 ^ k).tmod 2 == (1 : Int)) = true := by
          have e : ((V / 2 ^ k % 2 : Nat) : Int) = ((V : Int) / 2 ^ k).tmod 2 := by rw [Int.tmod_eq_emod_of_nonneg (Int.ediv_nonneg (by omega) (Int.le_of_lt (Int.pow_pos (by omega))))]; simp
          rw [HV.out.1, ← e, hbit]; rfl
        have hidx : (a + k) / 8 < (Sm.burst a V (bl s) k).length := by omega
        have hcell := hR.cell _ hidx
        have hfz := hR.frozen _ hidx
        have HBIT := Lib.hid hbit; clear hbit
        have HR := Lib.hid hR; clear hR
        go_wp2
        have hrem : (2 : Int) ^ (7 - (a + k) % 8) % 256 = ((2 ^ (7 - (a + k) % 8) : Nat) : Int) := pow_u8 _ (by omega)
        rw [hrem, xor_u8 _ _ (by omega)]
        refine ⟨⟨k + 1, by omega, rfl, HR.out.set _ hidx _ (by rw [Sm.burst_length, Sm.burst_length]) (fun j hj => ?_), hB.setCell (Nat.le_refl _) _⟩, by simp [intOf]; omega⟩
        have hj' : j < (Sm.burst a V (bl s) k).length := by rw [Sm.burst_length] at hj; omega
        have hg := Sm.flip_get (a + k) (Sm.burst a V (bl s) k) j hj'
        have e : Sm.burst a V (bl s) (k + 1) = Sm.flip (a + k) (Sm.burst a V (bl s) k) := by
          conv => lhs; unfold Sm.burst
          rw [if_pos HBIT.out]
        rw [← e] at hg
        rw [List.getElem?_eq_getElem hj] at hg
        have hg := Option.some.inj hg
        rw [hg]
        by_cases ej : j = (a + k) / 8
        · subst ej; rw [if_pos rfl]
        · rw [if_neg ej, if_neg ej]
      · have hbit' : ((v / 2 ^ k).tmod 2 == (1 : Int)) = false := by
          have e : ((V / 2 ^ k % 2 : Nat) : Int) = ((V : Int) / 2 ^ k).tmod 2 := by rw [Int.tmod_eq_emod_of_nonneg (Int.ediv_nonneg (by omega) (Int.le_of_lt (Int.pow_pos (by omega))))]; simp
          rw [HV.out.1, ← e]
          exact beq_eq_false_iff_ne.2 (fun h => hbit (by omega))
        have hR2 : RowIs wr w.heap.size c (Sm.burst a V (bl s) (k + 1)) := by
          unfold Sm.burst; rw [if_neg hbit]; exact hR
        have HBIT := Lib.hid hbit; clear hbit
        have HR := Lib.hid hR2; clear hR2 hR
        go_wp2
        exact ⟨⟨k + 1, by omega, rfl, HR.out, hB⟩, by simp [intOf]; omega⟩
    · obtain rfl : k = 32 := by omega
      have hstr := hR.str s.size (by omega)
      have c1 : ∀ W : World, Calls Try.prog 8 #[.slice (some ⟨W.heap.size, 0, none⟩) 1 1] (W.alloc (.cells #[.string ⟨(Sm.burst a V (bl s) 32).toArray⟩] 9)) (Same (.int .u32 ((Sm.crc 4294967295#32 (Sm.burst a V (bl s) 32)).toNat : Int)) (W.alloc (.cells #[.string ⟨(Sm.burst a V (bl s) 32).toArray⟩] 9))) := fun W => by
        have h := sumOf1 ⟨(Sm.burst a V (bl s) 32).toArray⟩ W.heap.size (W.alloc (.cells #[.string ⟨(Sm.burst a V (bl s) 32).toArray⟩] 9)) (by rw [size_mk]; omega) (heap_alloc_new _ _)
        rw [bl_mk] at h
        exact h
      have c2 : ∀ (W : World) (g : Nat), g = W.heap.size → Calls Try.prog 8 #[.slice (some ⟨g, 0, none⟩) 1 1] (W.alloc (.cells #[.string s] 9)) (Same (.int .u32 ((Sm.crc 4294967295#32 (bl s)).toNat : Int)) (W.alloc (.cells #[.string s] 9))) := fun W g hg => by
        subst hg
        exact sumOf1 s W.heap.size (W.alloc (.cells #[.string s] 9)) (by omega) (heap_alloc_new _ _)
      obtain ⟨A, HA⟩ : ∃ A : Int, A = ((Sm.crc 4294967295#32 (Sm.burst a V (bl s) 32)).toNat : Int) := ⟨_, rfl⟩
      obtain ⟨B, HBB⟩ : ∃ B : Int, B = ((Sm.crc 4294967295#32 (bl s)).toNat : Int) := ⟨_, rfl⟩
      rw [← HA] at c1
      rw [← HBB] at c2
      have hAB : (A != B) = true := bne_iff_ne.2 (fun h => HNE.out (BitVec.eq_of_toNat_eq (by omega)))
      obtain ⟨S, HS⟩ : ∃ S : ByteArray, S = ⟨(Sm.burst a V (bl s) 32).toArray⟩ := ⟨_, rfl⟩
      rw [← HS] at hstr c1
      clear HA HBB HS hR hbl HNE
      have C1 := Lib.hid c1; clear c1
      have C2 := Lib.hid c2; clear c2
      go_wp2_with (first
        | (go_at_call 8; (with_reducible refine (C1.out _).mono ?_); rintro e w1 ⟨rfl, rfl⟩)
        | (go_at_call 8; (with_reducible refine (C2.out _ _ (by simp)).mono ?_); rintro e w1 ⟨rfl, rfl⟩)
        | (go_at_call 5; (with_reducible refine (C7.out _).mono ?_); rintro e w1 ⟨rfl, hb1⟩))

      go_ret
      exact ⟨rfl, ((hB.alloc hB.size _).alloc (by have := hB.size; simp; omega) _).trans (hb1.mono (by have := hB.size; simp; omega))⟩
end Go.Proofs.Ytmjcpjbphbkijaa
