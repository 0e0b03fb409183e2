/-
  What the functions of layer 1 (octet) and of the document's answer for it return: the numbers, the varints.
-/
import Derived.Test.YtbkcnhnndaejiaaChecked
import Derived.Test.YtbkcnhnndaejiaaOctMath
import Derived.Test.YtbkcnhnndaejiaaShelf
import Derived.WalkKit
import Derived.WalkLawsBesides
import Derived.WalkSpells
import Derived.Outline
import Derived.Below
import Derived.Lib.Hide
import Derived.Laws.IdiomStrings
import Derived.Handy
namespace Go.Proofs.Ytbkcnhnndaejiaa
open Go.RowKit
set_option linter.unusedVariables false
open Bil (bl)

/-- it returns r; what was there is as it was -/
structure Ret (r : Value) (w : World) (e : Ending) (w' : World) : Prop where
  e : e = .returned r
  b : Below w.heap.size w w'
/-- it returns r; the world is as it was -/
structure Same (r : Value) (w : World) (e : Ending) (w' : World) : Prop where
  e : e = .returned r
  w : w = w'
theorem Same.ret {r : Value} {w : World} {e : Ending} {w' : World} (h : Same r w e w') : Ret r w e w' := ⟨h.e, by rw [h.w]; exact Below.refl _ _⟩

theorem ret_str {a b : List UInt8} (h : a = b) : Ending.returned (.string ⟨a.toArray⟩) = .returned (.string ⟨b.toArray⟩) := by rw [h]

theorem app_str (l : List UInt8) (b : UInt8) : Value.string ({ data := l.toArray } ++ { data := #[b] }) = .string ⟨(l ++ [b]).toArray⟩ := by
  rw [ByteArray.mk_append_mk]

/-- '[]byte{x}' as a string -/
theorem run_byte1 (W : World) (n : Int) (h : 0 ≤ n ∧ n < 256) :
    (convert 64 9 (.slice (some ⟨W.heap.size, 0, none⟩) 1 1)).run Try.prog (W.alloc (.cells #[.int .u8 n] 5)) = .ok (.string ⟨[UInt8.ofNat n.toNat].toArray⟩) (W.alloc (.cells #[.int .u8 n] 5)) := by
  refine run_convert_bytes_back (P := Try.prog) _ 64 9 5 ⟨W.heap.size, 0, none⟩ 1 [UInt8.ofNat n.toNat] Try.underlying64 Try.underlying5 Try.underlying9 (fun j hj => ?_)
  obtain rfl : j = 0 := by simpa using hj
  have : ((UInt8.ofNat n.toNat).toNat : Int) = n := by simp; omega
  simp only [List.getElem_cons_zero, this]
  exact World.cell?_alloc_at #[Value.int .u8 n] 5 W.heap.size 0 rfl

/-- a row of bytes as a string -/
theorem run_row_str (W : World) (B n : Nat) (C : Array Value) (l : List UInt8) (hg : W.heap[B]? = some (.cells C 5 (0, 0))) (hl : l.length = n)
    (hc : ∀ j (hj : j < l.length), C[j]? = some (.int .u8 (l[j].toNat : Int))) :
    (convert 64 9 (.slice (some ⟨B, 0, none⟩) n n)).run Try.prog W = .ok (.string ⟨l.toArray⟩) W := by
  subst hl
  refine run_convert_bytes_back (P := Try.prog) _ 64 9 5 ⟨B, 0, none⟩ _ l Try.underlying64 Try.underlying5 Try.underlying9 (fun j hj => ?_)
  have e : (⟨B, 0, none⟩ : Addr).add j = ⟨B, j, none⟩ := by
    unfold Addr.add; by_cases h : j = 0 <;> simp [h]
  rw [e, cell_of_row W B j C 5 (0, 0) hg, hc j hj]

/-- 'make([]byte, n)' -/
theorem run_mkbytes (n : Nat) (hn : n ≤ 140737488351232) (W : World) :
    (Instr.makeSlice 64 (.int .i64 (n : Int)) (.int .i64 (n : Int))).run Try.prog W = .ok (.slice (some ⟨W.heap.size, 0, none⟩) n n) (W.alloc (.cells (Array.replicate n (.int .u8 0)) 5)) := by
  obtain ⟨i0, hi, hz0, hz1, hz2⟩ := info_parts (show (Try.prog.info? 5).map (fun i => (i.zero, i.size, i.bytes)) = some (some (.int .u8 0), 1, 1) by kernel_rfl)
  have h := run_make (P := Try.prog) W 64 5 i0 (.int .u8 0) Try.underlying64 hi hz0 .i64 .i64 (n : Int) (n : Int) (by omega) (by omega) (by rw [hz2]; omega) (by omega)
  have e : madeCells (Value.int .u8 0).cells (((n : Nat) : Int).toNat * i0.size) = Array.replicate n (.int .u8 0) := by
    rw [hz1]
    apply Array.ext
    · rw [size_madeCells]; simp
    · intro j h1 h2
      simp [madeCells, Value.cells, Nat.mod_one]
  rw [e] at h
  simpa using h

set_option maxHeartbeats 400000 in
theorem refChain (v : Int) (w : World) (h0 : 0 ≤ v) (h1 : v < 18446744073709551616) :
    Calls Try.prog 16 #[.int .u64 v] w (Ret (.string ⟨(Bil.chain v.toNat).toArray⟩) w) := by
  have hc10 := Bil.chain_length_10 v.toNat (by omega)
  go_enter Try.func16, Try.ntmps16
  go_wp2
  go_loopw [0, 3] (fun x s wr => ∃ (u : Int) (l : List UInt8), 0 ≤ u ∧ u < 18446744073709551616 ∧ x = .int .u64 u ∧ s = .string ⟨l.toArray⟩ ∧ l ++ Bil.chain u.toNat = Bil.chain v.toNat ∧ Below w.heap.size w wr) (fun x _ _ => (intOf x).toNat)
  case atStart => exact ⟨v, [], h0, h1, rfl, rfl, rfl, Below.refl _ _⟩
  case round =>
    obtain ⟨u, l, h0, h1, rfl, rfl, hl, hb⟩ := hrel
    have hl' : l.length + (Bil.chain u.toNat).length ≤ 10 := by rw [← List.length_append, hl]; exact hc10
    have hp := Bil.chain_pos u.toNat
    by_cases hu : u ≥ 128
    · have HL : Hid (l ++ [UInt8.ofNat (u % 128 + 128).toNat] ++ Bil.chain (u / 128).toNat = Bil.chain v.toNat) := by
        rw [← hl, List.append_assoc, Bil.chain_ge (v := u.toNat) (by omega)]
        have e1 : (u % 128 + 128).toNat = u.toNat % 128 + 128 := by omega
        have e2 : (u / 128).toNat = u.toNat / 128 := by omega
        rw [e1, e2]; rfl
      clear hl
      have hcv1 := run_byte1 wr (u % 128 + 128) (by omega)
      go_wp2
      exact ⟨⟨u / 128, l ++ [UInt8.ofNat (u % 128 + 128).toNat], by omega, by omega, rfl, app_str l _, HL.out, hb.alloc hb.size _⟩, by simp [intOf]; omega⟩
    · have HL : Hid (l ++ [UInt8.ofNat u.toNat] = Bil.chain v.toNat) := by
        rw [← hl, Bil.chain_lt (v := u.toNat) (by omega)]; rfl
      clear hl
      have hcv1 := run_byte1 wr u (by omega)
      go_wp2
      go_ret
      exact ⟨congrArg Ending.returned ((app_str l _).trans (congrArg (fun q : List UInt8 => Value.string ⟨q.toArray⟩) HL.out)), hb.alloc hb.size _⟩

theorem sum_or (v k : Nat) : ((UInt8.ofNat (v / 128 ^ k % 128 + 128)).toNat : Int) = ((v / 128 ^ k % 256 ||| 128 : Nat) : Int) := by
  have h : v / 128 ^ k % 256 ||| 128 = v / 128 ^ k % 128 + 128 := by
    have e : v / 128 ^ k % 256 = (v / 128 ^ k / 128 % 2) * 128 + v / 128 ^ k % 128 := by omega
    generalize v / 128 ^ k / 128 % 2 = b at e
    have hb : b = 0 ∨ b = 1 ∨ 2 ≤ b := by omega
    have h2 : v / 128 ^ k % 128 < 128 := by omega
    generalize v / 128 ^ k % 128 = x at *
    have hx : x ||| 128 = x + 128 := by
      rw [Nat.or_comm, Nat.add_comm]; exact nat_join 7 128 x (by decide) (by simpa using h2)
    rcases hb with rfl | rfl | hb
    · rw [e]; simpa using hx
    · rw [e]
      have h3 : 1 * 128 + x = 128 ||| x := by rw [Nat.one_mul]; exact (nat_join 7 128 x (by decide) (by simpa using h2)).symm
      rw [h3, Nat.or_comm 128 x, Nat.or_assoc, Nat.or_self, hx]
    · omega
  rw [h]
  simp
  omega

theorem octLen64 (x : Int) (w : World) (h0 : 0 ≤ x) (h1 : x < 18446744073709551616) :
    Calls Try.prog 31 #[.int .u64 x] w (Same (.int .i64 (Lib.bitLen x.toNat)) w) :=
  (Try.bits_Len64 x w h0 (by omega)).mono fun _ _ ⟨a, b⟩ => ⟨a, b.symm⟩

set_option maxHeartbeats 400000 in
theorem octChain (v : Int) (w : World) (h0 : 0 ≤ v) (h1 : v < 18446744073709551616) :
    Calls Try.prog 15 #[.int .u64 v] w (Ret (.string ⟨(Bil.chain v.toNat).toArray⟩) w) := by
  have hb10 := Lib.bitLen_le v.toNat 64 (by omega) (by omega)
  have hn := Bil.chainN_bits v.toNat (by omega)
  have hn1 := Bil.chainN_pos v.toNat
  obtain ⟨n, HN⟩ : ∃ n, n = Bil.chainN v.toNat := ⟨_, rfl⟩
  rw [← HN] at hn hn1
  have hn2 : n ≤ 10 := by omega
  have hmx : max 1 ((((Lib.bitLen v.toNat : Nat) : Int) + 6) / 7) = (n : Int) := by omega
  have HNN := Lib.hid HN; clear HN
  have HH := Lib.hid hn; clear hn
  have hmk := run_mkbytes n (by omega)
  obtain ⟨V, rfl⟩ : ∃ V : Nat, v = (V : Int) := ⟨v.toNat, by omega⟩
  rw [Int.toNat_natCast] at *
  go_enter Try.func15, Try.ntmps15
  go_wp2_with (go_at_call 31; refine (octLen64 V _ h0 (by omega)).mono ?_; rintro e w' ⟨rfl, rfl⟩)
  go_loopw [14] (fun i wr => ∃ (k : Nat) (C : Array Value), k ≤ n ∧ i = .int .i64 k ∧ C.size = n ∧ wr.heap[w.heap.size]? = some (.cells C 5 (0, 0)) ∧ (∀ j, j < k → C[j]? = some (.int .u8 ((V / 128 ^ j % 256 ||| 128 : Nat) : Int))) ∧ Below w.heap.size w wr) (fun i _ => n - (intOf i).toNat)
  case atStart => exact ⟨0, _, by omega, rfl, by simp, heap_alloc_new _ _, fun j hj => by omega, (Below.refl _ _).alloc (Nat.le_refl _) _⟩
  case round =>
    obtain ⟨k, C, hk, rfl, hC, hg, ha, hb⟩ := hrel
    by_cases hlt : k < n
    · obtain ⟨old, hold⟩ : ∃ old, C[k]? = some old := ⟨C[k], by simp [hC, hlt]⟩
      have hcell : wr.cell? ⟨w.heap.size, k, none⟩ = some old := by rw [cell_of_row wr _ k C _ _ hg]; exact hold
      have hfz : wr.frozen? ⟨w.heap.size, k, none⟩ = false := frozen_of_row wr _ k C _ hg
      have HG := Lib.hid hg; clear hg
      have HA := Lib.hid ha; clear ha
      have HC := Lib.hid hC; clear hC
      have HO := Lib.hid hold; clear hold
      go_wp2
      have HB : bits BinOp.or IntKind.u8 ((V : Int) / 2 ^ (7 * k) % 256) 128 = ((V / 128 ^ k % 256 ||| 128 : Nat) : Int) := by
        have e : (2 : Int) ^ (7 * k) = ((128 ^ k : Nat) : Int) := by
          rw [show (128 : Nat) ^ k = 2 ^ (7 * k) from by rw [Nat.pow_mul], Int.natCast_pow]; rfl
        rw [e]
        have e2 : (V : Int) / ((128 ^ k : Nat) : Int) % 256 = ((V / 128 ^ k % 256 : Nat) : Int) := by omega
        rw [e2]
        exact u8_or_nat _ 128 (by omega) (by omega)
      rw [HB]
      refine ⟨⟨k + 1, C.setIfInBounds k _, by omega, by go_num, by rw [Array.size_setIfInBounds]; exact HC.out, heap_setCell_same _ _ _ _ _ _ HG.out, fun j hj => ?_, hb.setCell (Nat.le_refl _) _⟩, by simp [intOf]; omega⟩
      rw [Array.getElem?_setIfInBounds]
      by_cases h : k = j
      · subst h; rw [if_pos rfl, if_pos (by rw [HC.out]; exact hlt)]
      · rw [if_neg h]; exact HA.out j (by omega)
    · obtain rfl : k = n := by omega
      obtain ⟨x, hx⟩ : ∃ x : Nat, x = V / 128 ^ (k - 1) % 256 ||| 128 := ⟨_, rfl⟩
      have hcell : wr.cell? ⟨w.heap.size, k - 1, none⟩ = some (.int .u8 (x : Int)) := by rw [cell_of_row wr _ _ C _ _ hg, hx]; exact ha _ (by omega)
      have hfz : wr.frozen? ⟨w.heap.size, k - 1, none⟩ = false := frozen_of_row wr _ _ C _ hg
      have hx256 : x < 256 := by
        rw [hx]; exact Nat.or_lt_two_pow (n := 8) (by omega) (by omega)
      have hconv := run_row_str (wr.setCell ⟨w.heap.size, k - 1, none⟩ (.int .u8 (bits BinOp.andNot IntKind.u8 (x : Int) 128))) w.heap.size k (C.setIfInBounds (k - 1) (.int .u8 (bits BinOp.andNot IntKind.u8 (x : Int) 128))) (Bil.chain V) (heap_setCell_same _ _ _ _ _ _ hg) (by rw [Bil.chain_length, HNN.out]) (fun j hj => by
        have hj' : j < k := by rw [HNN.out, ← Bil.chain_length]; exact hj
        rw [Array.getElem?_setIfInBounds]
        by_cases h : k - 1 = j
        · subst h
          rw [if_pos rfl, if_pos (by omega), Bil.chain_get, if_neg (by rw [Bil.chain_length, ← HNN.out]; omega)]
          have hl := Bil.chain_last_lt V
          rw [Bil.chain_length, ← HNN.out] at hl
          have e := u8_andNot_nat x 128 hx256 (by omega)
          rw [show ((128 : Nat) : Int) = 128 from rfl] at e
          have hy : x &&& (255 - 128) = V / 128 ^ (k - 1) := by
            rw [show 255 - 128 = 2 ^ 7 - 1 from rfl, Nat.and_two_pow_sub_one_eq_mod, hx, Nat.or_mod_two_pow]
            simp
            omega
          rw [e, hy]
          congr 3
          simp
          omega
        · rw [if_neg h, ha j hj', Bil.chain_get, if_pos (by rw [Bil.chain_length, ← HNN.out]; omega), sum_or])
      have HG := Lib.hid hg; clear hg
      have HA := Lib.hid ha; clear ha
      have HC := Lib.hid hC; clear hC
      have HX := Lib.hid hx; clear hx
      go_wp2
      go_ret
      exact ⟨rfl, hb.setCell (Nat.le_refl _) _⟩

end Go.Proofs.Ytbkcnhnndaejiaa
