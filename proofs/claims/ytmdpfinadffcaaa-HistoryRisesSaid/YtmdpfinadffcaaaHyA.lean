/-
  A history: how it lies; New, Hist, Estimate, Class.
-/
import Derived.Test.YtmdpfinadffcaaaLhI
import Derived.Test.YtmdpfinadffcaaaHyM
import Derived.Test.YtmdpfinadffcaaaHyEq
import Derived.Test.YtmdpfinadffcaaaQuD
import Derived.Test.YtmdpfinadffcaaaQuA
import Derived.LoopTactic
namespace Go.Proofs.Ytmdpfinadffcaaa
open Go.RowKit
set_option linter.unusedVariables false

abbrev tabO (P : Nat) : Obj := .cells #[.pointer (some ⟨P, 0, none⟩)] 51
/-- block T is the history of these keys, the last used first; its blocks are F's -/
def HIs (w : World) (B T : Nat) (room : Int) (l : List Lr.E) (F : Nat → Prop) : Prop :=
  ∃ P F0, w.heap[T]? = some (tabO P) ∧ TIs w B P room l F0 ∧ ¬ F0 T ∧ B ≤ T ∧ ∀ k, F k ↔ k = T ∨ F0 k
theorem HIs.keep {w w' : World} {B T : Nat} {room : Int} {l : List Lr.E} {F : Nat → Prop} (h : HIs w B T room l F) (hk : ∀ k, F k → w'.heap[k]? = w.heap[k]?) : HIs w' B T room l F := by
  obtain ⟨P, F0, h1, h2, h3, h4, h5⟩ := h
  exact ⟨P, F0, (hk T ((h5 T).2 (Or.inl rfl))).trans h1, h2.keep (fun k hf => hk k ((h5 k).2 (Or.inr hf))), h3, h4, h5⟩
theorem HIs.lt {w : World} {B T : Nat} {room : Int} {l : List Lr.E} {F : Nat → Prop} (h : HIs w B T room l F) : ∀ k, F k → B ≤ k ∧ k < w.heap.size := by
  obtain ⟨P, F0, h1, h2, h3, h4, h5⟩ := h
  intro k hk
  rcases (h5 k).1 hk with rfl | hk
  · exact ⟨h4, lt_block h1⟩
  · exact h2.lt k hk
theorem HIs.below {w w' : World} {B T : Nat} {room : Int} {l : List Lr.E} {F : Nat → Prop} (h : HIs w B T room l F) (hb : Below w.heap.size w w') : HIs w' B T room l F := h.keep (fun k hk => hb.block k (h.lt k hk).2)
theorem HIs.good {w : World} {B T : Nat} {room : Int} {l : List Lr.E} {F : Nat → Prop} (h : HIs w B T room l F) : Lr.Good l := by
  obtain ⟨P, F0, h1, h2, h3, h4, h5⟩ := h
  exact h2.good
/-- it returns r; the history holds l' -/
structure RetHy (r : Value) (B T : Nat) (room : Int) (l' : List Lr.E) (F : Nat → Prop) (w : World) (e : Ending) (w' : World) : Prop where
  r : e = .returned r
  s : ∃ F', HIs w' B T room l' F' ∧ ∀ k, F' k → F k ∨ w.heap.size ≤ k
  c : Chg F w w'

theorem newHBad (room : Int) (w : World) (h : room < 1) : Calls Try.prog 6 #[.int .i64 room] w (Same (.pointer none) w) := by
  go_enter Try.func6, Try.ntmps6
  go_wp2
  go_ret
  exact ⟨rfl, rfl⟩
set_option maxRecDepth 100000 in
theorem newHC (room : Int) (w : World) (h : ¬ room < 1) : Calls Try.prog 6 #[.int .i64 room] w fun e w' => ∃ T F, e = .returned (.pointer (some ⟨T, 0, none⟩)) ∧ HIs w' w.heap.size T room [] F ∧ Below w.heap.size w w' := by
  have K := Lib.hid ((newC room w h).mono (R' := fun e wA => ∃ P, e = .returned (.pointer (some ⟨P, 0, none⟩)) ∧ Hid (∃ F, HIs (wA.alloc (tabO P)) w.heap.size wA.heap.size room [] F ∧ Below w.heap.size w (wA.alloc (tabO P)))) fun e wA hr => by
    obtain ⟨P, F, rfl, h1, h2⟩ := hr
    refine ⟨P, rfl, Lib.hid ⟨fun k => k = wA.heap.size ∨ F k, ⟨P, F, heap_alloc_new _ _, h1.keep (fun k hk => Lib.alloc_old _ _ _ (h1.lt k hk).2), fun hf => by have := (h1.lt _ hf).2; omega, h2.size, fun k => Iff.rfl⟩, h2.alloc h2.size _⟩⟩)
  have hR : decide (room < 1) = false := decide_eq_false h
  clear h
  go_enter Try.func6, Try.ntmps6
  go_wp2_with (go_at_call 15; (with_reducible refine K.out.mono ?_); rintro e wA ⟨P, rfl, hA⟩)
  go_ret
  obtain ⟨F, h1, h2⟩ := hA.out
  exact ⟨_, F, rfl, h1, h2⟩

set_option maxRecDepth 100000 in
set_option maxHeartbeats 1000000 in
theorem histC (B T : Nat) (room : Int) (l : List Lr.E) (F : Nat → Prop) (key : ByteArray) (w : World) (h : HIs w B T room l F) (hk : key.size ≤ 140737488351232) :
    Calls Try.prog 18 #[.pointer (some ⟨T, 0, none⟩), .string key] w (Ret (.agg (Hi.cells (Hy.valOf l key).1)) w) := by
  obtain ⟨P, F0, h1, h2, h3, h4, h5⟩ := h
  have h1' : (w.alloc zb).heap[T]? = some (tabO P) := (Lib.alloc_old _ _ _ (lt_block h1)).trans h1
  have c0 : (w.alloc zb).cell? ⟨T, 0, none⟩ = some (.pointer (some ⟨P, 0, none⟩)) := by rw [cell_of_row _ _ _ _ _ _ h1']; rfl
  have K := Lib.hid (peekC B P room l F0 key (w.alloc zb) (h2.keep (fun k hk => Lib.alloc_old _ _ _ (h2.lt k hk).2)) hk)
  have B0 := Lib.hid (zeros_new w)
  have HB := Lib.hid ((Below.refl w.heap.size w).alloc (Nat.le_refl _) zb)
  have hv : gotV (Lr.find l key) = .tuple #[.agg (Hi.cells (Hy.valOf l key).1), .bool (Lr.find l key).isSome] := rfl
  rw [hv] at K
  clear h1 h1' h2 h3 h4 h5 hv
  generalize Hy.valOf l key = v at *
  generalize (Lr.find l key).isSome = q at *
  go_enter Try.func18, Try.ntmps18
  go_wp2_with (first
    | (go_at_call 42; (with_reducible refine K.out.mono ?_); rintro e wA ⟨rfl, hb⟩; have A0 := Lib.hid ((B0.out.below hb).old zb); have A1 := Lib.hid (zeros_new wA); have HA := Lib.hid ((HB.out.trans (hb.mono (by simp))).alloc (Nat.le_trans HB.out.size hb.size) zb); have HNE : Hid (w.heap.size < wA.heap.size) := Lib.hid (by have := hb.size; simp at this; omega); clear hb)
    | (refine storeB A1.out (l := v.1) v.2 rfl _ _ rfl rfl rfl ?_)
    | (refine loadB (A1.out.row (m := v.1) v.2) _ rfl rfl rfl ?_)
    | (refine storeB (A0.out.rowO wA.heap.size (Hi.cells v.1) (Nat.ne_of_lt HNE.out)) (l := v.1) v.2 rfl _ _ rfl rfl rfl ?_))
  (try simp only [Exit.inBlock, Exit.then])
  refine bodyPost_ret (v := .agg (Hi.cells v.1)) ?_ rfl ⟨rfl, below_row (below_row HA.out (Nat.le_of_lt HNE.out) _) (Nat.le_refl _) _⟩
  exact results_cell_row rfl _ _ _ _ _ _ _ rfl ((A0.out.rowO wA.heap.size (Hi.cells v.1) (Nat.ne_of_lt HNE.out)).row (m := v.1) v.2).h Try.underlying49 rfl (by rw [infoH, Hi.cells_size, v.2])

/-- the estimate -/
theorem ofC (v : Lr.V) (p : Int) (L : Nat → Int) (n : Nat) (x : Int) (ok : Bool) (c : Nat) (ht : Hy.Told v.1 p L n x ok c) (w : World) : Calls Try.prog 28 #[.agg (Hi.cells v.1), .int .i64 p] w (Ret (.tuple #[.int .u64 x, .bool ok]) w) := by
  by_cases g : Qu.Good v.1 p
  · obtain ⟨rfl, ⟨b, hb, rfl⟩, _⟩ := ht.yes g
    exact ofYes v.1 v.2 p b g hb w
  · obtain ⟨rfl, rfl, _⟩ := ht.no g
    exact ofNo v.1 v.2 p g w
theorem refOfC (v : Lr.V) (p : Int) (L : Nat → Int) (n : Nat) (x : Int) (ok : Bool) (c : Nat) (ht : Hy.Told v.1 p L n x ok c) (w : World) : Calls Try.prog 21 #[.agg (Hi.cells v.1), .int .i64 p] w (Ret (.tuple #[.int .u64 x, .bool ok]) w) := by
  by_cases g : Qu.Good v.1 p
  · obtain ⟨rfl, ⟨b, hb, rfl⟩, _⟩ := ht.yes g
    exact refOfYes v.1 v.2 p b g hb w
  · obtain ⟨rfl, rfl, _⟩ := ht.no g
    exact refOfNo v.1 v.2 p g w
set_option maxRecDepth 100000 in
theorem estC (B T : Nat) (room : Int) (l : List Lr.E) (F : Nat → Prop) (key : ByteArray) (p : Int) (L : Nat → Int) (n : Nat) (x : Int) (ok : Bool) (c : Nat) (w : World) (h : HIs w B T room l F) (hk : key.size ≤ 140737488351232) (ht : Hy.Told (Hy.valOf l key).1 p L n x ok c) :
    Calls Try.prog 14 #[.pointer (some ⟨T, 0, none⟩), .string key, .int .i64 p] w (Ret (.tuple #[.int .u64 x, .bool ok]) w) := by
  have K := Lib.hid (histC B T room l F key w h hk)
  have K2 := Lib.hid (fun W => ofC (Hy.valOf l key) p L n x ok c ht W)
  clear h hk ht
  generalize Hy.valOf l key = v at *
  go_enter Try.func14, Try.ntmps14
  go_wp2_with (first
    | (go_at_call 18; (with_reducible refine K.out.mono ?_); rintro e wA ⟨rfl, hb⟩; have HA := Lib.hid hb; clear hb)
    | (go_at_call 28; (with_reducible refine (K2.out _).mono ?_); rintro e wB ⟨rfl, hb⟩; have HB := Lib.hid (HA.out.trans (hb.mono HA.out.size)); clear hb))
  go_ret2
  exact ⟨rfl, HB.out⟩

/-! ### classes -/
/-- limits as they came in -/
structure LimW (w : World) (a : Option Addr) (n : Nat) (L : Nat → Int) : Prop where
  at_ : n = 0 ∨ ∃ b off : Nat, a = some ⟨b, off, none⟩ ∧ b < w.heap.size ∧ ∀ i, i < n → w.cell? ⟨b, off + i, none⟩ = some (.int .i64 (L i))
  wf : ∀ i, i < n → -9223372036854775808 ≤ L i ∧ L i < 9223372036854775808
theorem LimW.below {w w' : World} {a : Option Addr} {n : Nat} {L : Nat → Int} (h : LimW w a n L) (hb : Below w.heap.size w w') : LimW w' a n L := by
  refine ⟨h.at_.imp id ?_, h.wf⟩
  rintro ⟨b, off, ha, hlt, hc⟩
  exact ⟨b, off, ha, Nat.lt_of_lt_of_le hlt hb.size, fun i hi => (hb.cell (p := ⟨b, off + i, none⟩) hlt).trans (hc i hi)⟩
theorem LimW.cell {w : World} {a : Option Addr} {n : Nat} {L : Nat → Int} (h : LimW w a n L) {i : Nat} (hi : i < n) : ∃ b off : Nat, a = some ⟨b, off, none⟩ ∧ w.cell? ⟨b, off + i, none⟩ = some (.int .i64 (L i)) := by
  rcases h.at_ with h0 | ⟨b, off, ha, hlt, hc⟩
  · omega
  · exact ⟨b, off, ha, hc i hi⟩
theorem run_max0 (ts : Array TypeId) (t : TypeId) (P : Program) (w : World) (x : Int) : (Builtin.max_ ts t #[.int .i64 x, .int .i64 0]).run P w = .ok (.int .i64 (max x 0)) w := by
  have e : max x 0 = if 0 > x then 0 else x := by split <;> omega
  rw [e]
  simp [Builtin.max_, Builtin.max2]
set_option maxRecDepth 100000 in
set_option maxHeartbeats 1000000 in
theorem classC (B T : Nat) (room : Int) (l : List Lr.E) (F : Nat → Prop) (key : ByteArray) (a : Option Addr) (n cap : Nat) (p : Int) (L : Nat → Int) (x : Int) (ok : Bool) (c : Nat) (w : World) (h : HIs w B T room l F) (hk : key.size ≤ 140737488351232) (hL : LimW w a n L) (hn : n ≤ 1000000) (ht : Hy.Told (Hy.valOf l key).1 p L n x ok c) :
    Calls Try.prog 13 #[.pointer (some ⟨T, 0, none⟩), .string key, .slice a n cap, .int .i64 p] w (Ret (.int .i64 (c : Int)) w) := by
  have K := Lib.hid (estC B T room l F key p L n x ok c w h hk ht)
  have HLM := Lib.hid hL
  have hx := ht.range
  have HT : Hid ((ok = false ∧ c = 0) ∨ (ok = true ∧ Hy.IsCls x L n c)) := Lib.hid (by
    by_cases g : Qu.Good (Hy.valOf l key).1 p
    · obtain ⟨h1, _, h3⟩ := ht.yes g
      exact Or.inr ⟨h1, h3⟩
    · obtain ⟨_, h2, h3⟩ := ht.no g
      exact Or.inl ⟨h2, h3⟩)
  clear h hk hL ht
  obtain ⟨hx0, hx1⟩ := hx
  rcases HT.out with ⟨rfl, rfl⟩ | ⟨rfl, hc⟩
  · clear HT
    go_enter Try.func13, Try.ntmps13
    go_wp2_with (go_at_call 14; (with_reducible refine K.out.mono ?_); rintro e wA ⟨rfl, hb⟩; have HA := Lib.hid hb; clear hb)
    go_ret
    exact ⟨rfl, HA.out⟩
  · have HC := Lib.hid hc
    have hcn := hc.le
    clear hc HT
    have hmx := run_max0
    go_enter Try.func13, Try.ntmps13
    go_wp2_with (go_at_call 14; (with_reducible refine K.out.mono ?_); rintro e wA ⟨rfl, hb⟩; have HA := Lib.hid hb; clear hb)
    go_loop [24] (fun s => ∃ j : Nat, j ≤ c ∧ s = .int .i64 (j : Int)) (fun s => c - (intOf s).toNat)
    case atStart => exact ⟨0, Nat.zero_le _, rfl⟩
    case round =>
      obtain ⟨j, hj, rfl⟩ := hrel
      by_cases hjn : j < n
      · obtain ⟨g, off, rfl, d0⟩ := (HLM.out.below HA.out).cell hjn
        obtain ⟨r0, r1⟩ := HLM.out.wf j hjn
        by_cases hlt : j < c
        · have hb := HC.out.below j hlt
          have hm0 : 0 ≤ max (L j) 0 := by omega
          have hm1 : max (L j) 0 < 9223372036854775808 := by omega
          have HM := Lib.hid hmx
          generalize hM : max (L j) 0 = M at *
          have hmx2 : ∀ (ts : Array TypeId) (t : TypeId) (P : Program) (w : World), (Builtin.max_ ts t #[.int .i64 (L j), .int .i64 0]).run P w = .ok (.int .i64 M) w := fun ts t P w => by rw [← hM]; exact HM.out ts t P w (L j)
          clear hmx hM
          generalize L j = y at *
          go_wp2
          go_round
          case rel => exact ⟨j + 1, by omega, by go_num⟩
          case measure => simp [intOf]; omega
        · obtain rfl : j = c := by omega
          have hb := HC.out.at_ hjn
          have hm0 : 0 ≤ max (L j) 0 := by omega
          have hm1 : max (L j) 0 < 9223372036854775808 := by omega
          have HM := Lib.hid hmx
          generalize hM : max (L j) 0 = M at *
          have hmx2 : ∀ (ts : Array TypeId) (t : TypeId) (P : Program) (w : World), (Builtin.max_ ts t #[.int .i64 (L j), .int .i64 0]).run P w = .ok (.int .i64 M) w := fun ts t P w => by rw [← hM]; exact HM.out ts t P w (L j)
          clear hmx hM
          generalize L j = y at *
          go_wp2
          go_ret
          exact ⟨rfl, HA.out⟩
      · obtain rfl : j = n := by omega
        obtain rfl : j = c := by omega
        go_wp2
        go_ret
        exact ⟨rfl, HA.out⟩
end Go.Proofs.Ytmdpfinadffcaaa
