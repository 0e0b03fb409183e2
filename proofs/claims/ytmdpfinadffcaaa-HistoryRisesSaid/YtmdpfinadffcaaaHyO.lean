/-
  A history beside the document's, apart; runs as they came in.
-/
import Derived.Test.YtmdpfinadffcaaaHyN
namespace Hy
open Lr
/-- what the first k runs leave -/
def runL (room : Int) (t : Nat → ByteArray × Int) : Nat → List E
  | 0 => []
  | k + 1 => obs room (runL room t k) (t k).1 (t k).2
theorem runL_good (room : Int) (t : Nat → ByteArray × Int) : ∀ k, Good (runL room t k)
  | 0 => good_nil
  | k + 1 => good_obs (runL_good room t k) _ _
theorem runL_len (room : Int) (t : Nat → ByteArray × Int) : ∀ k, (runL room t k).length ≤ k
  | 0 => Nat.le_refl _
  | k + 1 => by
    have := runL_len room t k
    have h := length_obs room (runL room t k) (t k).1 (t k).2
    unfold runL
    omega
theorem runL_room {room : Int} (h0 : 0 ≤ room) (t : Nat → ByteArray × Int) : ∀ k, ((runL room t k).length : Int) ≤ room
  | 0 => h0
  | k + 1 => room_obs h0 (runL_room h0 t k) _ _
theorem obs_reverse {room : Int} {l : List E} (hg : Good l) (k : ByteArray) (t : Int) : putR room l.reverse k (addV (valOf l.reverse k) t) = (obs room l k t).reverse := by
  rw [valOf_reverse hg, putR_reverse]
  rfl
end Hy
namespace Go.Proofs.Ytmdpfinadffcaaa
open Go.RowKit
set_option linter.unusedVariables false

/-- runs as they came in -/
def RunAt (w : World) (a : Option Addr) (len : Nat) (t : Nat → ByteArray × Int) : Prop := len = 0 ∨ ∃ b off : Nat, a = some ⟨b, off, none⟩ ∧ b < w.heap.size ∧
  ∀ i, i < len → w.cell? ⟨b, off + i * 2, none⟩ = some (.string (t i).1) ∧ w.cell? ⟨b, off + i * 2 + 1, none⟩ = some (.int .u64 (t i).2) ∧ (t i).1.size ≤ 140737488351232 ∧ 0 ≤ (t i).2 ∧ (t i).2 < 18446744073709551616
/-- the two, apart from the box of what is asked, which is the first block since w0 -/
structure TwoH (w0 : World) (T D : Nat) (room : Int) (q : Obj) (da : Option Addr) (dcap : Nat) (l ld : List Lr.E) (W : World) : Prop where
  s : ∃ F, HIs W w0.heap.size T room l F ∧ ∀ k, F k → ¬ DH D da k ∧ k ≠ w0.heap.size
  d : DRef W w0.heap.size D room da dcap ld
  q : W.heap[w0.heap.size]? = some q
  n : ¬ DH D da w0.heap.size
  b : Below w0.heap.size w0 W
theorem TwoH.real {w0 : World} {T D : Nat} {room : Int} {q : Obj} {da : Option Addr} {dcap : Nat} {l l' ld : List Lr.E} {W W' : World} {F : Nat → Prop} {r : Value} {e : Ending} (h : TwoH w0 T D room q da dcap l ld W) (h1 : HIs W w0.heap.size T room l F) (h2 : ∀ k, F k → ¬ DH D da k ∧ k ≠ w0.heap.size) (hr : RetHy r w0.heap.size T room l' F W e W') :
    e = .returned r ∧ TwoH w0 T D room q da dcap l' ld W' := by
  obtain ⟨F', g1, g2⟩ := hr.s
  refine ⟨hr.r, ⟨F', g1, fun k hk => ?_⟩, h.d.keep hr.c.size (fun k hk => hr.c.block k (h.d.in k hk) (fun hf => (h2 k hf).1 hk)), hr.c.keep h.q (fun hf => (h2 _ hf).2 rfl), h.n, h.b.trans (hr.c.below (fun k hk => (h1.lt k hk).1) h.b.size)⟩
  rcases g2 k hk with e | e
  · exact h2 k e
  · exact ⟨fun hf => by have := h.d.in k hf; omega, fun hq => by have := lt_block h.q; omega⟩
theorem TwoH.ref {w0 : World} {T D : Nat} {room : Int} {q : Obj} {da : Option Addr} {dcap : Nat} {l ld ld' : List Lr.E} {W W' : World} {e : Ending} (h : TwoH w0 T D room q da dcap l ld W) (hr : RetD w0.heap.size D room ld' W e W') :
    e = .returned (.tuple #[]) ∧ ∃ da' dcap', TwoH w0 T D room q da' dcap' l ld' W' := by
  obtain ⟨F, h1, h2⟩ := h.s
  obtain ⟨da', dcap', g1, g2⟩ := hr.s
  have hno : ∀ k, k < W.heap.size → ¬ DH D da k → ¬ DH D da' k := fun k hk hn hf => by
    rcases hf with e | ⟨off, e⟩
    · exact hn (Or.inl e)
    · have := g2 k off e; omega
  exact ⟨hr.r, da', dcap', ⟨F, h1.keep (fun k hk => hr.c.block k (h1.lt k hk).2 (fun e => (h2 k hk).1 (Or.inl e))), fun k hk => ⟨hno k (h1.lt k hk).2 (h2 k hk).1, (h2 k hk).2⟩⟩, g1, hr.c.keep h.q (fun e => h.n (Or.inl e)), hno _ (lt_block h.q) h.n,
    h.b.trans (hr.c.below (fun k hk => by subst hk; exact h.d.base) h.b.size)⟩
theorem TwoH.below {w0 : World} {T D : Nat} {room : Int} {q : Obj} {da : Option Addr} {dcap : Nat} {l ld : List Lr.E} {W W' : World} (h : TwoH w0 T D room q da dcap l ld W) (hb : Below W.heap.size W W') : TwoH w0 T D room q da dcap l ld W' := by
  obtain ⟨F, h1, h2⟩ := h.s
  exact ⟨⟨F, h1.below hb, h2⟩, h.d.below hb, (hb.block _ (lt_block h.q)).trans h.q, h.n, h.b.trans (hb.mono h.b.size)⟩
/-- both with the same rows -/
def TwoS (w0 : World) (T D : Nat) (room : Int) (q : Obj) (l : List Lr.E) (W : World) : Prop := ∃ da dcap, TwoH w0 T D room q da dcap l l.reverse W
theorem two_obs {w0 : World} {T D : Nat} {room : Int} {q : Obj} {l : List Lr.E} {da : Option Addr} {dcap : Nat} (key : ByteArray) (x : Int) (W : World) (hk : key.size ≤ 140737488351232) (h0 : 0 ≤ x) (h1 : x < 18446744073709551616) (hl : l.length ≤ 1000000) (hr : (l.length : Int) ≤ room) (h : TwoH w0 T D room q da dcap l l.reverse W) :
    Calls Try.prog 8 #[.pointer (some ⟨T, 0, none⟩), .string key, .int .u64 x] W fun e W' => e = .returned (.tuple #[]) ∧ TwoH w0 T D room q da dcap (Hy.obs room l key x) l.reverse W' := by
  obtain ⟨F, g1, g2⟩ := h.s
  exact (observeC w0.heap.size T room l F key x W g1 hk h0 h1 hl hr h.b.size).mono fun e w' hr => h.real g1 g2 hr
theorem two_refobs {w0 : World} {T D : Nat} {room : Int} {q : Obj} {l l' : List Lr.E} {da : Option Addr} {dcap : Nat} (key : ByteArray) (x : Int) (W : World) (h0 : 0 ≤ x) (h1 : x < 18446744073709551616) (hl : l.length ≤ 1000) (hg : Lr.Good l) (hroom : 1 ≤ room) (h : TwoH w0 T D room q da dcap l' l.reverse W) :
    Calls Try.prog 9 #[.pointer (some ⟨D, 0, none⟩), .string key, .int .u64 x] W fun e W' => e = .returned (.tuple #[]) ∧ ∃ da' dcap', TwoH w0 T D room q da' dcap' l' (Hy.obs room l key x).reverse W' := by
  have := refObserveC w0.heap.size D room da dcap l.reverse key x W h.d h0 h1 (by simp; omega) hroom
  rw [Hy.obs_reverse hg] at this
  exact this.mono fun e w' hr => h.ref hr
end Go.Proofs.Ytmdpfinadffcaaa
