/-
  Of, the page's examples, the law of the checksums.
-/
import Derived.Test.YtmjcpjbphbkijaaSumA
namespace Go.Proofs.Ytmjcpjbphbkijaa
open Go.RowKit
set_option linter.unusedVariables false

/-- the strings' bytes one behind the other -/
def joinB : List ByteArray → List UInt8
  | [] => []
  | s :: l => bl s ++ joinB l
theorem joinB_take (l : List ByteArray) (k : Nat) (h : k < l.length) : joinB (l.take (k + 1)) = joinB (l.take k) ++ bl l[k] := by
  induction l generalizing k with
  | nil => simp at h
  | cons s l ih =>
    cases k with
    | zero => simp [joinB]
    | succ k =>
      have := ih k (by simpa using h)
      simp [joinB, this]

theorem sumOf (l : List ByteArray) (B c : Nat) (C : Array Value) (w : World) (hl : l.length ≤ 1000) (hz : ∀ s ∈ l, s.size ≤ 9223372036854775807)
    (hg : w.heap[B]? = some (.cells C 9 (0, 0))) (hC : ∀ j (h : j < l.length), C[j]? = some (.string l[j])) :
    Calls Try.prog 8 #[.slice (some ⟨B, 0, none⟩) l.length c] w (Same (reg (Sm.crc 4294967295#32 (joinB l))) w) := by
  have hc := fun x s W hs => sumCrc x s W hs
  have hend : l.take l.length = l := List.take_length
  unfold reg at *
  go_enter Try.func8, Try.ntmps8
  go_wp2
  go_loop [3, 8] (fun r i => ∃ k : Nat, k ≤ l.length ∧ i = .int .i64 k ∧ r = .int .u32 ((Sm.crc 4294967295#32 (joinB (l.take k))).toNat : Int)) (fun _ i => l.length - (intOf i).toNat)
  case atStart => exact ⟨0, by omega, rfl, rfl⟩
  case round =>
    obtain ⟨k, hk, rfl, rfl⟩ := hrel
    by_cases hlt : k < l.length
    · have hs := fun W => hc (Sm.crc 4294967295#32 (joinB (l.take k))) l[k] W (hz _ (List.getElem_mem hlt))
      rw [← Sm.crc_append, ← joinB_take l k hlt] at hs
      have HS := Lib.hid hs
      clear hs hc
      have hcell : w.cell? ⟨B, k, none⟩ = some (.string l[k]) := by rw [cell_of_row w B k C _ _ hg]; exact hC k hlt
      have hfz : w.frozen? ⟨B, k, none⟩ = false := frozen_of_row w B k C _ hg
      clear hg hC
      go_wp2_with (go_at_call 6; (with_reducible refine (HS.out _).mono ?_); rintro e w1 ⟨rfl, rfl⟩)
      exact ⟨⟨k + 1, by omega, rfl, rfl⟩, by simp [intOf]; omega⟩
    · obtain rfl : k = l.length := by omega
      rw [hend]
      go_wp2
      go_ret
      exact ⟨rfl, rfl⟩

theorem sumOfNil (w : World) : Calls Try.prog 8 #[.slice none 0 0] w (Same (.int .u32 4294967295) w) := by
  go_enter Try.func8, Try.ntmps8
  go_wp2
  go_loop [3, 8] (fun r i => i = .int .i64 0 ∧ r = .int .u32 4294967295) (fun _ i => 0)
  case atStart => exact ⟨rfl, rfl⟩
  case round =>
    obtain ⟨rfl, rfl⟩ := hrel
    go_wp2
    go_ret
    exact ⟨rfl, rfl⟩

theorem sumOf1 (s : ByteArray) (B : Nat) (w : World) (hs : s.size ≤ 9223372036854775807) (hg : w.heap[B]? = some (.cells #[.string s] 9 (0, 0))) :
    Calls Try.prog 8 #[.slice (some ⟨B, 0, none⟩) 1 1] w (Same (.int .u32 ((Sm.crc 4294967295#32 (bl s)).toNat : Int)) w) := by
  have h := sumOf [s] B 1 _ w (by simp) (by simpa using hs) hg (fun j hj => by
    have hj1 : j < 1 := hj
    obtain rfl : j = 0 := by omega
    rfl)
  simpa [joinB, reg] using h
theorem sumOf2 (s t : ByteArray) (B : Nat) (w : World) (hs : s.size ≤ 9223372036854775807) (ht : t.size ≤ 9223372036854775807) (hg : w.heap[B]? = some (.cells #[.string s, .string t] 9 (0, 0))) :
    Calls Try.prog 8 #[.slice (some ⟨B, 0, none⟩) 2 2] w (Same (.int .u32 ((Sm.crc 4294967295#32 (bl s ++ bl t)).toNat : Int)) w) := by
  have h := sumOf [s, t] B 2 _ w (by simp) (fun x hx => by
    rcases List.mem_cons.1 hx with rfl | hx
    · exact hs
    · rw [List.mem_singleton] at hx; subst hx; exact ht) hg (fun j hj => by
    have : j < 2 := by simpa using hj
    obtain rfl | rfl : j = 0 ∨ j = 1 := by omega
    · rfl
    · rfl)
  simpa [joinB, reg] using h

theorem liveOk (w : World) : Calls Try.prog 5 #[] w (Ret (.bool true) w) := by
  have c0 := fun W => sumOfNil W
  have c1 : ∀ W : World, Calls Try.prog 8 #[.slice (some ⟨W.heap.size, 0, none⟩) 1 1] (W.alloc (.cells #[.string ⟨#[49, 50, 51, 52, 53, 54, 55, 56, 57]⟩] 9)) (Same (.int .u32 58124007) _) := fun W => by
    have h := sumOf1 ⟨#[49, 50, 51, 52, 53, 54, 55, 56, 57]⟩ W.heap.size (W.alloc (.cells #[.string ⟨#[49, 50, 51, 52, 53, 54, 55, 56, 57]⟩] 9)) (by decide) (heap_alloc_new _ _)
    have e : bl ⟨#[49, 50, 51, 52, 53, 54, 55, 56, 57]⟩ = [49, 50, 51, 52, 53, 54, 55, 56, 57] := rfl
    rw [e, Sm.crc_live] at h
    exact h
  have C0 := Lib.hid c0; clear c0
  have C1 := Lib.hid c1; clear c1
  go_enter Try.func5, Try.ntmps5
  go_wp2_with (first | (go_at_call 8; (with_reducible refine (C1.out _).mono ?_); rintro e w1 ⟨rfl, rfl⟩) | (go_at_call 8; (with_reducible refine (C0.out _).mono ?_); rintro e w1 ⟨rfl, rfl⟩))
  go_ret
  exact ⟨rfl, (Below.refl _ _).alloc (Nat.le_refl _) _⟩

set_option maxHeartbeats 1000000 in
set_option maxRecDepth 100000 in
theorem sumCrcs_walk (v : Int) (s t : ByteArray) (w : World) (w0 : (Lit.int .u32 v).wf = true) (w1 : s.size ≤ maxLen) (w2 : t.size ≤ maxLen) :
    Calls Try.prog 3 #[.int .u32 v, .string s, .string t] w (Ret (.bool true) w) := by
  have hs := len_max w1
  have ht := len_max w2
  obtain ⟨h0, h1⟩ := wf_u32 w0
  clear w0 w1 w2
  by_cases hsz : s.size ≤ 2000 ∧ t.size ≤ 2000
  · obtain ⟨hs2, ht2⟩ := hsz
    clear hs ht
    obtain ⟨x, rfl⟩ : ∃ x : BitVec 32, v = (x.toNat : Int) := ⟨BitVec.ofNat 32 v.toNat, by rw [BitVec.toNat_ofNat]; omega⟩
    clear h0 h1
    have hsz : (s ++ t).size = s.size + t.size := ByteArray.size_append
    have c1 := fun W => sumCrc x s W (by omega)
    have c2 := fun W => refCrc x s W (by omega)
    have c3 := fun W => sumCrc (Sm.crc x (bl s)) t W (by omega)
    have c4 := fun W => refCrc x (s ++ t) W (by omega)
    have c5 : ∀ W : World, Calls Try.prog 8 #[.slice (some ⟨W.heap.size, 0, none⟩) 2 2] (W.alloc (.cells #[.string s, .string t] 9)) (Same (.int .u32 ((Sm.crc 4294967295#32 (bl s ++ bl t)).toNat : Int)) _) := fun W =>
      sumOf2 s t W.heap.size (W.alloc (.cells #[.string s, .string t] 9)) (by omega) (by omega) (heap_alloc_new _ _)
    have c6 := fun W => refOf (s ++ t) W (by omega)
    have c7 := fun W => liveOk W
    rw [← Sm.crc_append] at c3
    rw [bl_append] at c4 c6
    unfold reg at *
    obtain ⟨X, HX⟩ : ∃ X : Int, X = (x.toNat : Int) := ⟨_, rfl⟩
    obtain ⟨A, HA⟩ : ∃ A : Int, A = ((Sm.crc x (bl s)).toNat : Int) := ⟨_, rfl⟩
    obtain ⟨B, HB⟩ : ∃ B : Int, B = ((Sm.crc x (bl s ++ bl t)).toNat : Int) := ⟨_, rfl⟩
    obtain ⟨D, HD⟩ : ∃ D : Int, D = ((Sm.crc 4294967295#32 (bl s ++ bl t)).toNat : Int) := ⟨_, rfl⟩
    rw [← HX, ← HA] at c1 c2
    rw [← HA, ← HB] at c3
    rw [← HX, ← HB] at c4
    rw [← HD] at c5 c6
    rw [← HX]
    clear HX HA HB HD
    have C1 := Lib.hid c1; clear c1
    have C2 := Lib.hid c2; clear c2
    have C3 := Lib.hid c3; clear c3
    have C4 := Lib.hid c4; clear c4
    have C5 := Lib.hid c5; clear c5
    have C6 := Lib.hid c6; clear c6
    have C7 := Lib.hid c7; clear c7
    go_enter Try.func3, Try.ntmps3
    go_wp2_with (first
      | (go_at_call 6; (with_reducible refine (C1.out _).mono ?_); rintro e w1 ⟨rfl, rfl⟩)
      | (go_at_call 6; (with_reducible refine (C3.out _).mono ?_); rintro e w1 ⟨rfl, rfl⟩)
      | (go_at_call 7; (with_reducible refine (C2.out _).mono ?_); rintro e w1 ⟨rfl, rfl⟩)
      | (go_at_call 7; (with_reducible refine (C4.out _).mono ?_); rintro e w1 ⟨rfl, rfl⟩)
      | (go_at_call 8; (with_reducible refine (C5.out _).mono ?_); rintro e w1 ⟨rfl, rfl⟩)
      | (go_at_call 9; (with_reducible refine (C6.out _).mono ?_); rintro e w1 ⟨rfl, rfl⟩)
      | (go_at_call 5; (with_reducible refine (C7.out _).mono ?_); rintro e w1 ⟨rfl, hb1⟩))
    go_ret
    exact ⟨rfl, ((Below.refl _ _).alloc (Nat.le_refl _) _).trans (hb1.mono (by simp))⟩
  · have c7 := fun W => liveOk W
    have C7 := Lib.hid c7; clear c7
    by_cases h2 : 2000 < s.size
    · clear hsz
      go_enter Try.func3, Try.ntmps3
      go_wp2_with (go_at_call 5; (with_reducible refine (C7.out _).mono ?_); rintro e w1 ⟨rfl, hb1⟩)
      go_ret
      exact ⟨rfl, hb1⟩
    · have h3 : 2000 < t.size := by omega
      clear hsz
      go_enter Try.func3, Try.ntmps3
      go_wp2_with (go_at_call 5; (with_reducible refine (C7.out _).mono ?_); rintro e w1 ⟨rfl, hb1⟩)
      go_ret
      exact ⟨rfl, hb1⟩
end Go.Proofs.Ytmjcpjbphbkijaa
