/-
  How the program's set of timers lies: its two cells, its wheel, its slice of what is due; the calls that only read.
-/
import Derived.Test.YtmmfmpnkjienfaaDuF
import Derived.Test.YtmmfmpnkjienfaaWhY
namespace Go.Proofs.Ytmmfmpnkjienfaa
open Go.RowKit
set_option linter.unusedVariables false

/-! ### the wheel once more -/
theorem WIs.perm {w : World} {B P : Nat} {n : Int} {l m : List Wh.E} {F : Nat → Prop} (h : WIs w B P n l F) (p : l.Perm m) : WIs w B P n m F := by
  obtain ⟨T, sl, h, e⟩ := h
  exact ⟨T, sl, h.perm p p, e⟩
theorem whAtS (id : Int) (w : World) (B P : Nat) (n : Int) (l : List Wh.E) (F : Nat → Prop) (hid : (Lit.int .i64 id).wf = true) (h : WIs w B P n l F) : Calls Try.prog 27 #[.pointer (some ⟨P, 0, none⟩), .int .i64 id] w (Same (atV (Wh.find l id)) w) := by
  obtain ⟨T, sl, h, rfl⟩ := h
  exact atR id w B P n l l T sl hid h
set_option maxRecDepth 100000 in
theorem whNowS (w : World) (B P : Nat) (n : Int) (l : List Wh.E) (F : Nat → Prop) (h : WIs w B P n l F) : Calls Try.prog 31 #[.pointer (some ⟨P, 0, none⟩)] w (Same (.int .u64 n) w) := by
  obtain ⟨T, sl, h, rfl⟩ := h
  have c0 := h.now0
  clear h
  go_enter Try.func31, Try.ntmps31
  go_wp2
  go_ret
  exact ⟨rfl, rfl⟩
set_option maxRecDepth 100000 in
theorem whLenS (w : World) (B P : Nat) (n : Int) (l : List Wh.E) (F : Nat → Prop) (h : WIs w B P n l F) : Calls Try.prog 30 #[.pointer (some ⟨P, 0, none⟩)] w (Same (.int .i64 (l.length : Int)) w) := by
  obtain ⟨T, sl, h, rfl⟩ := h
  have c1 := h.map1
  have hM := Lib.hid h.tm
  clear h
  go_enter Try.func30, Try.ntmps30
  go_wp2_with (at_len; refine wpLenE _ rfl _ _ rfl Try.underlying68 T l rfl hM.out ?_)
  go_ret
  exact ⟨rfl, rfl⟩
theorem WIs.wfNow {w : World} {B P : Nat} {n : Int} {l : List Wh.E} {F : Nat → Prop} (h : WIs w B P n l F) : (Lit.int .u64 n).wf = true := by
  obtain ⟨T, sl, h, e⟩ := h
  exact h.now

/-! ### the set of timers -/
/-- the set at D: its tick, its timers l (keys and ticks), what is ready r -/
structure DAt (w : World) (B D : Nat) (now : Int) (l r : List Wh.E) (P : Nat) (F : Nat → Prop) (a : Option Addr) (cap : Nat) : Prop where
  row : w.heap[D]? = some (.cells #[.pointer (some ⟨P, 0, none⟩), .slice a r.length cap] 56 (0, 0))
  wh : WIs w B P now l F
  rd : Rd w B a cap r
  bD : B ≤ D
  nD : ¬ F D
  aF : ∀ x, a = some x → ¬ F x.block
  nd : (l.map (·.1)).Nodup
  good : Wh.Good l
/-- its blocks -/
def DF (D : Nat) (F : Nat → Prop) (a : Option Addr) (k : Nat) : Prop := k = D ∨ F k ∨ ∃ x, a = some x ∧ k = x.block
section
variable {w w' w1 w0 : World} {B D P : Nat} {now n' : Int} {l l' r r' : List Wh.E} {F F' G : Nat → Prop} {a a' : Option Addr} {cap cap' : Nat}
theorem DAt.aD (h : DAt w B D now l r P F a cap) (x : Addr) (hx : a = some x) : x.block ≠ D := h.rd.ne x hx h.row (by decide)
theorem DAt.lt (h : DAt w B D now l r P F a cap) (k : Nat) (hk : DF D F a k) : B ≤ k ∧ k < w.heap.size := by
  rcases hk with rfl | hk | ⟨x, hx, rfl⟩
  · exact ⟨h.bD, lt_block h.row⟩
  · exact wheelC.lt h.wh k hk
  · exact h.rd.lt x hx
theorem DAt.keep (h : DAt w B D now l r P F a cap) (hs : w.heap.size ≤ w'.heap.size) (hk : ∀ k, DF D F a k → w'.heap[k]? = w.heap[k]?) : DAt w' B D now l r P F a cap :=
  { h with row := (hk D (Or.inl rfl)).trans h.row, wh := wheelC.keep h.wh hs (fun k hf => hk k (Or.inr (Or.inl hf))), rd := h.rd.keep (fun x hx => hk _ (Or.inr (Or.inr ⟨x, hx, rfl⟩))) }
theorem DAt.below (h : DAt w B D now l r P F a cap) (hb : Below w.heap.size w w') : DAt w' B D now l r P F a cap := h.keep hb.size (fun k hk => hb.block k (h.lt k hk).2)
theorem DAt.ptr (h : DAt w B D now l r P F a cap) : w.cell? ⟨D, 0, none⟩ = some (.pointer (some ⟨P, 0, none⟩)) := by rw [cell_of_row w D 0 _ _ _ h.row]; rfl
theorem DAt.sl (h : DAt w B D now l r P F a cap) : w.cell? ⟨D, 1, none⟩ = some (.slice a r.length cap) := by rw [cell_of_row w D 1 _ _ _ h.row]; rfl
theorem DAt.fr (h : DAt w B D now l r P F a cap) (i : Nat) : w.frozen? ⟨D, i, none⟩ = false := frozen_of w D i _ _ h.row
theorem DAt.perm (h : DAt w B D now l r P F a cap) (p : l.Perm l') : DAt w B D now l' r P F a cap :=
  { h with wh := h.wh.perm p, nd := (p.map _).nodup_iff.1 h.nd, good := h.good.perm p }

/-- in the course of a call that began at w0, whose set lay in G -/
structure DQ (w0 : World) (G : Nat → Prop) (B D : Nat) (now : Int) (l r : List Wh.E) (P : Nat) (F : Nat → Prop) (a : Option Addr) (cap : Nat) (w : World) : Prop where
  at_ : DAt w B D now l r P F a cap
  new : ∀ k, DF D F a k → G k ∨ w0.heap.size ≤ k
  chg : Chg G w0 w
theorem DAt.start (h : DAt w B D now l r P F a cap) : DQ w (DF D F a) B D now l r P F a cap w := ⟨h, fun k hk => Or.inl hk, Chg.refl _ _⟩
theorem DQ.below (h : DQ w0 G B D now l r P F a cap w) (hb : Below w.heap.size w w') : DQ w0 G B D now l r P F a cap w' := ⟨h.at_.below hb, h.new, h.chg.then hb⟩
theorem DQ.perm (h : DQ w0 G B D now l r P F a cap w) (p : l.Perm l') : DQ w0 G B D now l' r P F a cap w := ⟨h.at_.perm p, h.new, h.chg⟩
/-- behind a call of the wheel -/
theorem DQ.wheel (h : DQ w0 G B D now l r P F a cap w) (hI : WIs w' B P n' l' F') (hF : ∀ k, F' k → F k ∨ w.heap.size ≤ k) (hc : Chg F w w') (hn : (l'.map (·.1)).Nodup) (hg : Wh.Good l') : DQ w0 G B D n' l' r P F' a cap w' := by
  have hout : ∀ k, k < w.heap.size → ¬ F k → ¬ F' k := fun k hk hf hf' => by rcases hF k hf' with e | e; exact hf e; omega
  have hD := (h.at_.lt D (Or.inl rfl)).2
  refine ⟨⟨hc.keep h.at_.row h.at_.nD, hI, h.at_.rd.keep (fun x hx => hc.block _ (h.at_.rd.lt x hx).2 (h.at_.aF x hx)), h.at_.bD, hout D hD h.at_.nD, fun x hx => hout _ (h.at_.rd.lt x hx).2 (h.at_.aF x hx), hn, hg⟩, fun k hk => ?_, ?_⟩
  · have hsz := h.chg.size
    rcases hk with e | e | e
    · exact h.new k (Or.inl e)
    · rcases hF k e with e | e
      · exact h.new k (Or.inr (Or.inl e))
      · exact Or.inr (by omega)
    · exact h.new k (Or.inr (Or.inr e))
  · exact h.chg.trans hc (fun k hk => h.new k (Or.inr (Or.inl hk)))
/-- the slice of what is ready is written: its cells by a call, then its header -/
theorem DQ.ready (h : DQ w0 G B D now l r P F a cap w) (hr : Rd w1 B a' cap' r') (hx : ∀ x, a' = some x → (∃ y, a = some y ∧ x.block = y.block) ∨ w.heap.size ≤ x.block) (hc : Chg (fun k => ∃ y, a = some y ∧ k = y.block) w w1)
    (hw' : w' = w1.setCell ⟨D, 1, none⟩ (.slice a' r'.length cap')) : DQ w0 G B D now l r' P F a' cap' w' := by
  subst hw'
  have hD := (h.at_.lt D (Or.inl rfl)).2
  have hDa : ¬ ∃ y, a = some y ∧ D = y.block := fun ⟨y, hy, e⟩ => h.at_.aD y hy e.symm
  have hrow1 := hc.keep h.at_.row hDa
  have hD' := setCell_block w1 D 1 _ _ (.slice a' r'.length cap') hrow1
  have hoth : ∀ k, k ≠ D → (w1.setCell ⟨D, 1, none⟩ (.slice a' r'.length cap')).heap[k]? = w1.heap[k]? := fun k hk => Below.heap_setCell _ _ _ _ hk
  have haD : ∀ x, a' = some x → x.block ≠ D := fun x hx' => hr.ne x hx' hrow1 (by decide)
  have hsz : w1.heap.size ≤ (w1.setCell ⟨D, 1, none⟩ (.slice a' r'.length cap')).heap.size := by simp [World.setCell]
  refine ⟨⟨hD', wheelC.keep (wheelC.keep h.at_.wh hc.size (fun k hk => hc.block k (wheelC.lt h.at_.wh k hk).2 (fun ⟨y, hy, e⟩ => h.at_.aF y hy (e ▸ hk)))) hsz (fun k hk => hoth k (fun e => h.at_.nD (e ▸ hk))), hr.keep (fun x hx' => hoth _ (haD x hx')), h.at_.bD, h.at_.nD, fun x hx' hf => ?_, h.at_.nd, h.at_.good⟩, fun k hk => ?_, ?_⟩
  · rcases hx x hx' with ⟨y, hy, e⟩ | e
    · exact h.at_.aF y hy (e ▸ hf)
    · have := (wheelC.lt h.at_.wh _ hf).2; omega
  · have hs0 := h.chg.size
    rcases hk with e | e | ⟨x, hx', rfl⟩
    · exact h.new k (Or.inl e)
    · exact h.new k (Or.inr (Or.inl e))
    · rcases hx x hx' with ⟨y, hy, e⟩ | e
      · exact h.new _ (Or.inr (Or.inr ⟨y, hy, e⟩))
      · exact Or.inr (by omega)
  · exact (h.chg.trans hc (fun k hk => h.new k (Or.inr (Or.inr hk)))).setCell (h.new D (Or.inl rfl)) _
/-- what the cell of the slice's header is, ahead of the store -/
theorem DQ.header (h : DQ w0 G B D now l r P F a cap w) (hc : Chg (fun k => ∃ y, a = some y ∧ k = y.block) w w1) : w1.cell? ⟨D, 1, none⟩ = some (.slice a r.length cap) ∧ w1.frozen? ⟨D, 1, none⟩ = false := by
  have hDa : ¬ ∃ y, a = some y ∧ D = y.block := fun ⟨y, hy, e⟩ => h.at_.aD y hy e.symm
  have hrow1 := hc.keep h.at_.row hDa
  exact ⟨by rw [cell_of_row w1 D 1 _ _ _ hrow1]; rfl, frozen_of w1 D 1 _ _ hrow1⟩
end
/-- the set at D, what is ready being what is due -/
def DIs : WS := fun w B D now l G => ∃ P F a cap, DAt w B D now l (Wh.turned l now) P F a cap ∧ G = DF D F a
theorem DQ.ret {w0 w : World} {G : Nat → Prop} {B D : Nat} {now : Int} {l : List Wh.E} {P : Nat} {F : Nat → Prop} {a : Option Addr} {cap : Nat} {r : Value} {e : Ending} (he : e = .returned r) (h : DQ w0 G B D now l (Wh.turned l now) P F a cap w) : RetW DIs r B D now l G w0 e w :=
  ⟨he, ⟨_, ⟨P, F, a, cap, h.at_, rfl⟩, h.new⟩, h.chg⟩
theorem DIs.asks {r : Value} {B D : Nat} {n : Int} {l : List Wh.E} {G : Nat → Prop} {w w' : World} {e : Ending} (he : e = .returned r) (h : DIs w B D n l G) (hb : Below w.heap.size w w') : RetW DIs r B D n l G w e w' := by
  obtain ⟨P, F, a, cap, h, rfl⟩ := h
  exact (h.start.below hb).ret he
end Go.Proofs.Ytmmfmpnkjienfaa
