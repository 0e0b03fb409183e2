/-
  The law LruNil; a table beside the document's.
-/
import Derived.Test.YtmofjplojlobiaaLruU
namespace Go.Proofs.Ytmofjplojlobiaa
open Go.RowKit
set_option linter.unusedVariables false

set_option maxRecDepth 100000 in
set_option maxHeartbeats 4000000 in
theorem lruNil_walk (key : ByteArray) (v : Int) (w : World) (hk : key.size ≤ maxLen) (hv : (Lit.int .i64 v).wf = true) : Calls Try.prog 4 #[.string key, .int .i64 v] w (Ret (.bool true) w) := by
  have K1 := Lib.hid (fun W => nilPut key v W)
  have K2 := Lib.hid (fun W => nilGet key W)
  have K3 := Lib.hid (fun W => nilPeek key W)
  have K4 := Lib.hid (fun W => nilDrop key W)
  have K5 := Lib.hid (fun W => nilKeys W)
  have K6 := Lib.hid (fun W => nilLen W)
  have K7 := Lib.hid (fun W => liveOk W)
  clear hk hv
  go_enter Try.func4, Try.ntmps4
  go_wp2_with (first | (go_at_call 13; (with_reducible refine (K1.out _).mono ?_); rintro e wA ⟨rfl, rfl⟩) | (go_at_call 14; (with_reducible refine (K2.out _).mono ?_); rintro e wA ⟨rfl, rfl⟩) | (go_at_call 15; (with_reducible refine (K3.out _).mono ?_); rintro e wA ⟨rfl, rfl⟩) | (go_at_call 16; (with_reducible refine (K4.out _).mono ?_); rintro e wA ⟨rfl, rfl⟩) | (go_at_call 10; (with_reducible refine (K5.out _).mono ?_); rintro e wA ⟨rfl, rfl⟩) | (go_at_call 12; (with_reducible refine (K6.out _).mono ?_); rintro e wA ⟨rfl, rfl⟩) | (go_at_call 7; (with_reducible refine (K7.out _).mono ?_); rintro e wB ⟨rfl, hbB⟩))
  go_ret
  exact ⟨rfl, hbB⟩

/-- the table and the document's, apart, beside a block that stays -/
structure TwoQ (w0 : World) (B P R : Nat) (room : Int) (v : Value) (lt lr : List Lr.E) (Q : Nat) (o : Obj) (w : World) : Prop where
  s : ∃ F, TIs w B P room lt F ∧ ∀ k, F k → ¬ RefH R v k ∧ k ≠ Q
  r : RefT w B R room v lr
  q : w.heap[Q]? = some o
  n : ¬ RefH R v Q
  b : Below B w0 w
theorem TwoQ.size {w0 : World} {B P R Q : Nat} {room : Int} {v : Value} {lt lr : List Lr.E} {o : Obj} {w : World} (h : TwoQ w0 B P R room v lt lr Q o w) : B ≤ w.heap.size := by
  have h1 := lt_block h.r.cell
  have h2 := h.r.base
  omega
theorem TwoQ.real {w0 : World} {B P R Q : Nat} {room : Int} {v : Value} {lt lr l' : List Lr.E} {o : Obj} {w w' : World} {F : Nat → Prop} {r : Value} {e : Ending} (h : TwoQ w0 B P R room v lt lr Q o w) (h1 : TIs w B P room lt F) (h2 : ∀ k, F k → ¬ RefH R v k ∧ k ≠ Q) (hr : RetT r B P room l' F w e w') :
    e = .returned r ∧ TwoQ w0 B P R room v l' lr Q o w' := by
  obtain ⟨F', g1, g2⟩ := hr.s
  refine ⟨hr.r, ⟨F', g1, fun k hk => ?_⟩, h.r.apart hr.c (fun k hk hf => (h2 k hf).1 hk), hr.c.keep h.q (fun hf => (h2 Q hf).2 rfl), h.n, h.b.trans (hr.c.below (fun k hk => (h1.lt k hk).1) h.size)⟩
  rcases g2 k hk with e | e
  · exact h2 k e
  · exact ⟨fun hf => by have := (h.r.lt k hf).2; omega, fun hq => by have := lt_block h.q; omega⟩
theorem TwoQ.ref {w0 : World} {B P R Q : Nat} {room : Int} {v : Value} {lt lr l' : List Lr.E} {o : Obj} {w w' : World} {r : Value} {e : Ending} (h : TwoQ w0 B P R room v lt lr Q o w) (hr : RetRT r B R room v l' w e w') :
    e = .returned r ∧ ∃ v', TwoQ w0 B P R room v' lt l' Q o w' := by
  obtain ⟨F, h1, h2⟩ := h.s
  obtain ⟨v', g1, g2⟩ := hr.s
  have hno : ∀ k, k < w.heap.size → ¬ RefH R v k → ¬ RefH R v' k := fun k hk hn hf => by
    rcases hf with e | e
    · exact hn (Or.inl e)
    · rcases g2 k e with e | e
      · exact hn (Or.inr e)
      · omega
  exact ⟨hr.r, v', ⟨⟨F, h1.keep (fun k hk => hr.c.block k (h1.lt k hk).2 (h2 k hk).1), fun k hk => ⟨hno k (h1.lt k hk).2 (h2 k hk).1, (h2 k hk).2⟩⟩, g1, hr.c.keep h.q h.n, hno Q (lt_block h.q) h.n, h.b.trans (hr.c.below (fun k hk => (h.r.lt k hk).1) h.size)⟩⟩
theorem TwoQ.below {w0 : World} {B P R Q : Nat} {room : Int} {v : Value} {lt lr : List Lr.E} {o : Obj} {w w' : World} (h : TwoQ w0 B P R room v lt lr Q o w) (hb : Below w.heap.size w w') : TwoQ w0 B P R room v lt lr Q o w' := by
  obtain ⟨F, h1, h2⟩ := h.s
  exact ⟨⟨F, h1.keep (fun k hk => hb.block k (h1.lt k hk).2), h2⟩, h.r.below hb, (hb.block Q (lt_block h.q)).trans h.q, h.n, h.b.trans (hb.mono h.size)⟩
/-- the two, apart -/
structure TwoT (w0 : World) (B P R : Nat) (room : Int) (v : Value) (l : List Lr.E) (w : World) : Prop where
  s : ∃ F, TIs w B P room l F ∧ ∀ k, F k → ¬ RefH R v k
  r : RefT w B R room v l
  b : Below B w0 w
theorem TwoT.size {w0 : World} {B P R : Nat} {room : Int} {v : Value} {l : List Lr.E} {w : World} (h : TwoT w0 B P R room v l w) : B ≤ w.heap.size := by
  have h1 := lt_block h.r.cell
  have h2 := h.r.base
  omega
theorem TwoT.below {w0 : World} {B P R : Nat} {room : Int} {v : Value} {l : List Lr.E} {w w' : World} (h : TwoT w0 B P R room v l w) (hb : Below w.heap.size w w') : TwoT w0 B P R room v l w' := by
  obtain ⟨F, h1, h2⟩ := h.s
  exact ⟨⟨F, h1.keep (fun k hk => hb.block k (h1.lt k hk).2), h2⟩, h.r.below hb, h.b.trans (hb.mono h.size)⟩
theorem TwoT.withQ {w0 : World} {B P R : Nat} {room : Int} {v : Value} {l : List Lr.E} {w : World} (h : TwoT w0 B P R room v l w) (o : Obj) : TwoQ w0 B P R room v l l w.heap.size o (w.alloc o) := by
  obtain ⟨F, h1, h2⟩ := h.s
  have h3 := h.below ((Below.refl _ w).alloc (Nat.le_refl _) o)
  exact ⟨⟨F, h1.keep (fun k hk => box_keep (h1.lt k hk).2), fun k hk => ⟨h2 k hk, fun e => by have := (h1.lt k hk).2; omega⟩⟩, h3.r, heap_alloc_new w o, fun hf => by have := (h.r.lt _ hf).2; omega, h3.b⟩
theorem TwoQ.two {w0 : World} {B P R Q : Nat} {room : Int} {v : Value} {l : List Lr.E} {o : Obj} {w : World} (h : TwoQ w0 B P R room v l l Q o w) : TwoT w0 B P R room v l w := by
  obtain ⟨F, h1, h2⟩ := h.s
  exact ⟨⟨F, h1, fun k hk => (h2 k hk).1⟩, h.r, h.b⟩
end Go.Proofs.Ytmofjplojlobiaa
