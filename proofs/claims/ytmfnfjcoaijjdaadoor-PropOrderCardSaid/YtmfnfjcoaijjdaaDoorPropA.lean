/-
  The library's functions on strings, at a mark of one byte: Index, Contains, Cut, Count, Split; Compare.
-/
import Derived.Test.YtmfnfjcoaijjdaaDoorPropMath
import Derived.Test.YtmfnfjcoaijjdaaDoorTextN
import Derived.Lib.Split
import Derived.Lib.SplitLaws
import Derived.Deep.OwnRows
import Derived.Deep.LoopGhost
namespace Go.Proofs.YtmfnfjcoaijjdaaDoor
open Go.RowKit
set_option linter.unusedVariables false

/-- a string of bytes -/
def mk (x : Pr.B) : ByteArray := ⟨x.toArray⟩
theorem bl_mk' (x : Pr.B) : bl (mk x) = x := bl_mk x
theorem mk_bl' (s : ByteArray) : mk (bl s) = s := mk_bl s
theorem size_mk' (x : Pr.B) : (mk x).size = x.length := size_mk x
theorem toList_bl (s : ByteArray) : s.toList = bl s := Lib.toList_data s
theorem mk_append (x y : Pr.B) : mk x ++ mk y = mk (x ++ y) := bl_inj (by rw [bl_append, bl_mk', bl_mk', bl_mk'])
theorem extract_mk (x : Pr.B) (a b : Nat) : (mk x).extract a b = mk ((x.take b).drop a) := bl_inj (by rw [extract_bl, bl_mk', bl_mk'])

theorem idx_miss (c : UInt8) : ∀ x : Pr.B, c ∉ x → Lib.indexByte x c = -1
  | [], _ => rfl
  | y :: r, h => by
    have h1 : (y == c) = false := by simpa using fun e => h (by simp [e])
    have h2 := idx_miss c r (fun e => h (by simp [e]))
    simp [Lib.indexByte, h1, h2]
theorem idx_hit (c : UInt8) : ∀ (a r : Pr.B), c ∉ a → Lib.indexByte (a ++ c :: r) c = (a.length : Int)
  | [], r, _ => by simp [Lib.indexByte]
  | y :: a, r, h => by
    have h1 : (y == c) = false := by simpa using fun e => h (by simp [e])
    have h2 := idx_hit c a r (fun e => h (by simp [e]))
    have h3 : ((a.length : Int) == -1) = false := by simp only [beq_eq_false_iff_ne]; omega
    simp [Lib.indexByte, h1, h2, h3]

set_option maxRecDepth 100000 in
theorem indexByteC (s : ByteArray) (c : Int) (w : World) :
    Calls Tryd.prog 65 #[.string s, .int .u8 c] w (Same (.int .i64 (Lib.indexByte (bl s) c.toNat.toUInt8)) w) := by
  go_enter Tryd.func65, Tryd.ntmps65
  go_wp2
  rw [run_callFunc_extern Tryd.func76 (by kernel_rfl) (by kernel_rfl) (by kernel_rfl) (e := Extern.BytealgIndexByte.indexByte) (by kernel_rfl), Lib.run_indexByteString]
  simp only [Result.andThen]
  rw [Oper.upon_value]
  go_wp2
  go_ret
  exact ⟨rfl, rfl⟩

theorem one_toList (c : UInt8) : (ByteArray.mk #[c]).toList = [c] := Lib.toList_data _

set_option maxRecDepth 100000 in
theorem liteIndexC (s : ByteArray) (c : UInt8) (w : World) :
    Calls Tryd.prog 45 #[.string s, .string ⟨#[c]⟩] w (Same (.int .i64 (Lib.indexByte (bl s) c)) w) := by
  have C := Lib.hid (fun x W => indexByteC s x W)
  go_enter Tryd.func45, Tryd.ntmps45
  go_wp2_with (go_at_call 65; (with_reducible refine (C.out _ _).mono ?_); rintro e w1 ⟨rfl, rfl⟩)
  · have h : ([c] == s.toList) = true := by assumption
    go_ret
    refine ⟨?_, rfl⟩
    have e : bl s = [c] := by rw [← toList_bl]; exact (beq_iff_eq.1 h).symm
    rw [e]
    simp [Lib.indexByte]
  · go_ret
    refine ⟨?_, rfl⟩
    simp
    rfl

set_option maxRecDepth 100000 in
theorem indexC (s : ByteArray) (c : UInt8) (w : World) :
    Calls Tryd.prog 33 #[.string s, .string ⟨#[c]⟩] w (Same (.int .i64 (Lib.indexByte (bl s) c)) w) := by
  have C := Lib.hid (fun W => liteIndexC s c W)
  go_enter Tryd.func33, Tryd.ntmps33
  go_wp2_with (go_at_call 45; (with_reducible refine (C.out _).mono ?_); rintro e w1 ⟨rfl, rfl⟩)
  go_ret
  exact ⟨rfl, rfl⟩

theorem idx_mem (c : UInt8) (x : Pr.B) : decide (0 ≤ Lib.indexByte x c) = decide (c ∈ x) := by
  by_cases h : c ∈ x
  · obtain ⟨a, r, rfl, ha⟩ := Pr.first_of h
    rw [idx_hit c a r ha, decide_eq_true h]
    simp
  · rw [idx_miss c x h, decide_eq_false h]
    rfl

set_option maxRecDepth 100000 in
theorem containsC (s : ByteArray) (c : UInt8) (w : World) :
    Calls Tryd.prog 36 #[.string s, .string ⟨#[c]⟩] w (Same (.bool (decide (c ∈ bl s))) w) := by
  have C := Lib.hid (fun W => indexC s c W)
  rw [← idx_mem]
  go_enter Tryd.func36, Tryd.ntmps36
  go_wp2_with (go_at_call 33; (with_reducible refine (C.out _).mono ?_); rintro e w1 ⟨rfl, rfl⟩)
  go_ret
  exact ⟨rfl, rfl⟩

set_option maxRecDepth 100000 in
theorem countC (s : ByteArray) (c : UInt8) (w : World) :
    Calls Tryd.prog 16 #[.string s, .string ⟨#[c]⟩] w (Same (.int .i64 (((bl s).count c : Nat) : Int)) w) := by
  go_enter Tryd.func16, Tryd.ntmps16
  go_wp2
  rw [run_callFunc_extern Tryd.func32 (by kernel_rfl) (by kernel_rfl) (by kernel_rfl) (e := Extern.BytealgCount.count) (by kernel_rfl), Lib.run_countString]
  simp only [Result.andThen]
  rw [Oper.upon_value]
  go_wp2
  go_ret
  refine ⟨?_, rfl⟩
  simp [bl, Lib.countByte]
  rfl

set_option maxRecDepth 100000 in
theorem compareStringC (a b : ByteArray) (w : World) :
    Calls Tryd.prog 43 #[.string a, .string b] w (Same (.int .i64 (Lib.compareBytes (bl a) (bl b))) w) := by
  go_enter Tryd.func43, Tryd.ntmps43
  go_wp2
  rw [run_callFunc_extern Tryd.func63 (by kernel_rfl) (by kernel_rfl) (by kernel_rfl) (e := Extern.BytealgCompare.compare) (by kernel_rfl), Lib.run_compareString]
  simp only [Result.andThen]
  rw [Oper.upon_value]
  go_wp2
  go_ret
  exact ⟨rfl, rfl⟩

set_option maxRecDepth 100000 in
theorem compareC (a b : ByteArray) (w : World) :
    Calls Tryd.prog 24 #[.string a, .string b] w (Same (.int .i64 (Lib.compareBytes (bl a) (bl b))) w) := by
  have C := Lib.hid (fun W => compareStringC a b W)
  go_enter Tryd.func24, Tryd.ntmps24
  go_wp2_with (go_at_call 43; (with_reducible refine (C.out _).mono ?_); rintro e w1 ⟨rfl, rfl⟩)
  go_ret
  exact ⟨rfl, rfl⟩

/-! ### Cut -/
set_option maxRecDepth 100000 in
theorem liteCutMiss (s : ByteArray) (c : UInt8) (w : World) (h : c ∉ bl s) :
    Calls Tryd.prog 47 #[.string s, .string ⟨#[c]⟩] w (Ret (.tuple #[.string s, .string .empty, .bool false]) w) := by
  have C := Lib.hid (fun W => liteIndexC s c W)
  rw [idx_miss c _ h] at C
  clear h
  go_enter Tryd.func47, Tryd.ntmps47
  go_wp2_with (go_at_call 45; (with_reducible refine (C.out _).mono ?_); rintro e w1 ⟨rfl, rfl⟩)
  go_ret3
  exact ⟨rfl, Below.refl _ _⟩

set_option maxRecDepth 100000 in
theorem liteCutHit (a r : Pr.B) (c : UInt8) (w : World) (h : c ∉ a) (hs : (a ++ c :: r).length ≤ 9223372036854775807) :
    Calls Tryd.prog 47 #[.string (mk (a ++ c :: r)), .string ⟨#[c]⟩] w (Ret (.tuple #[.string (mk a), .string (mk r), .bool true]) w) := by
  have C := Lib.hid (fun W => liteIndexC (mk (a ++ c :: r)) c W)
  have e1 : (mk (a ++ c :: r)).extract 0 a.length = mk a := by rw [extract_mk]; simp
  have e2 : (mk (a ++ c :: r)).extract (a.length + 1) (mk (a ++ c :: r)).size = mk r := by
    rw [extract_mk, size_mk', List.take_length]
    rw [show a ++ c :: r = (a ++ [c]) ++ r by simp, show a.length + 1 = (a ++ [c]).length by simp, List.drop_left]
  rw [bl_mk', idx_hit c a r h] at C
  have hz : (mk (a ++ c :: r)).size = a.length + r.length + 1 := by rw [size_mk']; simp; omega
  have hs2 : a.length + r.length + 1 ≤ 9223372036854775807 := by simp at hs; omega
  clear hs h
  generalize mk (a ++ c :: r) = s at *
  rw [← e1, ← e2]
  have c1 : (0 : Int) ≤ ↑a.length := by omega
  have c2 : (↑a.length : Int) ≤ ↑s.size := by omega
  have c3 : (0 : Int) ≤ ↑a.length + 1 := by omega
  have c4 : (↑a.length + 1 : Int) ≤ ↑s.size := by omega
  clear e1 e2 hz
  go_enter Tryd.func47, Tryd.ntmps47
  go_wp2_with (go_at_call 45; (with_reducible refine (C.out _).mono ?_); rintro e w1 ⟨rfl, rfl⟩)
  go_region
  go_wp2
  go_ret3
  exact ⟨rfl, (Below.refl _ _).drew⟩

set_option maxRecDepth 100000 in
theorem cutMiss (s : ByteArray) (c : UInt8) (w : World) (h : c ∉ bl s) :
    Calls Tryd.prog 35 #[.string s, .string ⟨#[c]⟩] w (Ret (.tuple #[.string s, .string .empty, .bool false]) w) := by
  have C := Lib.hid (fun W => liteCutMiss s c W h)
  go_enter Tryd.func35, Tryd.ntmps35
  go_wp2_with (go_at_call 47; (with_reducible refine (C.out _).mono ?_); rintro e w1 ⟨rfl, hb⟩)
  go_ret3
  exact ⟨rfl, hb⟩
set_option maxRecDepth 100000 in
theorem cutHit (a r : Pr.B) (c : UInt8) (w : World) (h : c ∉ a) (hs : (a ++ c :: r).length ≤ 9223372036854775807) :
    Calls Tryd.prog 35 #[.string (mk (a ++ c :: r)), .string ⟨#[c]⟩] w (Ret (.tuple #[.string (mk a), .string (mk r), .bool true]) w) := by
  have C := Lib.hid (fun W => liteCutHit a r c W h hs)
  clear h hs
  generalize mk (a ++ c :: r) = s at *
  go_enter Tryd.func35, Tryd.ntmps35
  go_wp2_with (go_at_call 47; (with_reducible refine (C.out _).mono ?_); rintro e w1 ⟨rfl, hb⟩)
  go_ret3
  exact ⟨rfl, hb⟩
end Go.Proofs.YtmfnfjcoaijjdaaDoor
