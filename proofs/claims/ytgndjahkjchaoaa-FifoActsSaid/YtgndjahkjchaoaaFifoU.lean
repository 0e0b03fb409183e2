/-
  A queue beside the document's, and a box.
-/
import Derived.Test.YtgndjahkjchaoaaFifoT
namespace Go.Proofs.Ytgndjahkjchaoaa
open Go.RowKit
set_option linter.unusedVariables false

theorem cell_eq {w w' : World} {g : Nat} (h : w'.heap[g]? = w.heap[g]?) (o : Nat) : w'.cell? ⟨g, o, none⟩ = w.cell? ⟨g, o, none⟩ := by
  simp [World.cell?, h]
theorem Elt.View.apart {α : Type} {E : Elt Try.prog α} {w w' : World} {a : Option Addr} {l : List α} {F : Nat → Prop} (h : E.View w a l) (hc : Chg F w w') (hd : 0 < l.length → ∀ g off, a = some ⟨g, off, none⟩ → ¬ F g) : E.View w' a l := by
  refine ⟨fun h0 => ?_⟩
  obtain ⟨g, off, ha, hg, hcells⟩ := h.is h0
  have hb := hc.block g hg (hd h0 g off ha)
  exact ⟨g, off, ha, Nat.lt_of_lt_of_le hg hc.size, fun j hj i u hu => (cell_eq hb _).trans (hcells j hj i u hu)⟩
abbrev actO (kd id co : Int) : Obj := .cells #[.int .i64 kd, .int .i64 id, .int .i64 co] 28
theorem act_cells {w : World} {Q : Nat} {kd id co : Int} (h : w.heap[Q]? = some (actO kd id co)) : w.cell? ⟨Q, 0, none⟩ = some (.int .i64 kd) ∧ w.cell? ⟨Q, 1, none⟩ = some (.int .i64 id) ∧ w.cell? ⟨Q, 2, none⟩ = some (.int .i64 co) :=
  ⟨by rw [cell_of_row w _ _ _ _ _ h]; rfl, by rw [cell_of_row w _ _ _ _ _ h]; rfl, by rw [cell_of_row w _ _ _ _ _ h]; rfl⟩
/-- a queue of lt, the document's of lr in the slice at a, an act's box Q, apart -/
structure TwoF (w0 : World) (P : Nat) (lt lr : List Ff.E) (a : Option Addr) (Q : Nat) (o : Obj) (W : World) : Prop where
  s : ∃ F, QIs W w0.heap.size P lt F ∧ (0 < lr.length → ∀ g off, a = some ⟨g, off, none⟩ → ¬ F g) ∧ ¬ F Q
  v : eltI.View W a lr
  q : W.heap[Q]? = some o
  b : Below w0.heap.size w0 W
theorem TwoF.below {w0 : World} {P : Nat} {lt lr : List Ff.E} {a : Option Addr} {Q : Nat} {o : Obj} {W W' : World} (h : TwoF w0 P lt lr a Q o W) (hb : Below W.heap.size W W') : TwoF w0 P lt lr a Q o W' := by
  obtain ⟨F, h1, h2, h3⟩ := h.s
  exact ⟨⟨F, h1.below hb, h2, h3⟩, h.v.below hb, (hb.block Q (lt_block h.q)).trans h.q, h.b.trans (hb.mono h.b.size)⟩
theorem TwoF.did {w0 : World} {P : Nat} {lt lt' lr : List Ff.E} {a : Option Addr} {Q : Nat} {o : Obj} {W W' : World} {F : Nat → Prop} {r : Value} {e : Ending} (h : TwoF w0 P lt lr a Q o W) (h1 : QIs W w0.heap.size P lt F) (h2 : 0 < lr.length → ∀ g off, a = some ⟨g, off, none⟩ → ¬ F g) (h3 : ¬ F Q) (hr : RetQ r w0.heap.size P lt' F W e W') :
    e = .returned r ∧ TwoF w0 P lt' lr a Q o W' := by
  obtain ⟨F', g1, g2⟩ := hr.s
  refine ⟨hr.r, ⟨F', g1, fun h0 g off ha hf => ?_, fun hf => ?_⟩, h.v.apart hr.c h2, hr.c.keep h.q h3, h.b.trans (hr.c.below (fun k hk => (h1.lt k hk).1) h.b.size)⟩
  · obtain ⟨g', off', ha', hg', _⟩ := h.v.is h0
    rw [ha] at ha'
    cases ha'
    rcases g2 g hf with e | e
    · exact h2 h0 g off ha e
    · omega
  · rcases g2 Q hf with e | e
    · exact h3 e
    · have := lt_block h.q; omega
theorem Elt.Row.le {α : Type} {E : Elt Try.prog α} {w : World} {B n cap : Nat} {a : Option Addr} {l : List α} (h : E.Row w B (.slice a n cap) l) : l.length ≤ cap := by
  obtain ⟨_, ⟨hv, h0⟩ | ⟨g, c2, cur, hv, hg, hc, hn, hm, hs, hx⟩⟩ := h
  · cases hv; omega
  · cases hv; exact hn
/-- the document's list in another slice -/
theorem TwoF.row {w0 : World} {P : Nat} {lt lr lr' : List Ff.E} {a a' : Option Addr} {cap' : Nat} {Q : Nat} {o : Obj} {W W' : World} (h : TwoF w0 P lt lr a Q o W) (hb : Below W.heap.size W W') (hr : eltI.Row W' W.heap.size (.slice a' lr'.length cap') lr') :
    TwoF w0 P lt lr' a' Q o W' ∧ (a' = none → cap' = 0) ∧ lr'.length ≤ cap' := by
  obtain ⟨F, h1, h2, h3⟩ := h.s
  obtain ⟨a2, c2, e, hf, h0⟩ := hr.flat0
  cases e
  refine ⟨⟨⟨F, h1.below hb, fun h4 g off ha hfg => ?_, h3⟩, hf.view, (hb.block Q (lt_block h.q)).trans h.q, h.b.trans (hb.mono h.b.size)⟩, h0, hr.le⟩
  have := hr.lt g (by rw [ha]; rfl)
  have := (h1.lt g hfg).2
  omega
theorem two_push {w0 : World} {P : Nat} {lt lr : List Ff.E} {a : Option Addr} {Q : Nat} {o : Obj} (id co : Int) (W : World) (hid : (Lit.int .i64 id).wf = true) (hl : lt.length ≤ 1000) (h : TwoF w0 P lt lr a Q o W) :
    Calls Try.prog 9 #[.pointer (some ⟨P, 0, none⟩), .agg #[.int .i64 id, .int .i64 co]] W fun e W' => e = .returned (.int .i64 (Ff.pushE lt id co)) ∧ TwoF w0 P (Ff.pushL lt id co) lr a Q o W' := by
  obtain ⟨F, h1, h2, h3⟩ := h.s
  exact (pushC _ P lt F id co W h1 hid (by omega) h.b.size).mono fun e W' hr => h.did h1 h2 h3 hr
theorem two_pop {w0 : World} {P : Nat} {lt lr : List Ff.E} {a : Option Addr} {Q : Nat} {o : Obj} (W : World) (hl : lt.length ≤ 1000) (h : TwoF w0 P lt lr a Q o W) :
    Calls Try.prog 10 #[.pointer (some ⟨P, 0, none⟩)] W fun e W' => e = .returned (itemV lt.head?) ∧ TwoF w0 P lt.tail lr a Q o W' := by
  obtain ⟨F, h1, h2, h3⟩ := h.s
  exact (popC _ P lt F W h1 (by omega)).mono fun e W' hr => h.did h1 h2 h3 hr
theorem two_drop {w0 : World} {P : Nat} {lt lr : List Ff.E} {a : Option Addr} {Q : Nat} {o : Obj} (id : Int) (W : World) (hid : (Lit.int .i64 id).wf = true) (hl : lt.length ≤ 1000) (h : TwoF w0 P lt lr a Q o W) :
    Calls Try.prog 11 #[.pointer (some ⟨P, 0, none⟩), .int .i64 id] W fun e W' => e = .returned (itemV (lt.find? (fun e => e.1 == id))) ∧ TwoF w0 P (Ff.drop lt id) lr a Q o W' := by
  obtain ⟨F, h1, h2, h3⟩ := h.s
  exact (dropC _ P lt F id W h1 hid (by omega)).mono fun e W' hr => h.did h1 h2 h3 hr
theorem two_head {w0 : World} {P : Nat} {lt lr : List Ff.E} {a : Option Addr} {Q : Nat} {o : Obj} (W : World) (hl : lt.length ≤ 1000) (h : TwoF w0 P lt lr a Q o W) :
    Calls Try.prog 14 #[.pointer (some ⟨P, 0, none⟩)] W fun e W' => e = .returned (itemV lt.head?) ∧ TwoF w0 P lt lr a Q o W' := by
  obtain ⟨F, h1, h2, h3⟩ := h.s
  exact (headC _ P lt F W h1 (by omega)).mono fun e W' hr => ⟨hr.e, h.below hr.b⟩
theorem two_all {w0 : World} {P : Nat} {lt lr : List Ff.E} {a : Option Addr} {Q : Nat} {o : Obj} (W : World) (hl : lt.length ≤ 1000) (h : TwoF w0 P lt lr a Q o W) :
    Calls Try.prog 16 #[.pointer (some ⟨P, 0, none⟩)] W fun e W' => ∃ b cb, e = .returned (.slice b lt.length cb) ∧ Hid (eltI.View W' b lt ∧ Below W.heap.size W W') := by
  obtain ⟨F, h1, h2, h3⟩ := h.s
  refine (allC _ P lt F W h1 (by omega)).mono fun e W' hr => ?_
  obtain ⟨v, rfl, h4⟩ := hr.r
  obtain ⟨b, cb, rfl, hf⟩ := h4.flat
  exact ⟨b, cb, rfl, Lib.hid ⟨hf.view, hr.b⟩⟩
theorem two_len {w0 : World} {P : Nat} {lt lr : List Ff.E} {a : Option Addr} {Q : Nat} {o : Obj} (W : World) (hl : lt.length ≤ 1000) (h : TwoF w0 P lt lr a Q o W) :
    Calls Try.prog 17 #[.pointer (some ⟨P, 0, none⟩)] W (Same (.int .i64 (lt.length : Int)) W) := by
  obtain ⟨F, h1, h2, h3⟩ := h.s
  exact lenC _ P lt F W h1 (by omega)
theorem two_cost {w0 : World} {P : Nat} {lt lr : List Ff.E} {a : Option Addr} {Q : Nat} {o : Obj} (W : World) (h : TwoF w0 P lt lr a Q o W) :
    Calls Try.prog 18 #[.pointer (some ⟨P, 0, none⟩)] W (Same (.int .i64 (Ff.cost lt)) W) := by
  obtain ⟨F, h1, h2, h3⟩ := h.s
  exact costC _ P lt F W h1
theorem two_has {w0 : World} {P : Nat} {lt lr : List Ff.E} {a : Option Addr} {Q : Nat} {o : Obj} (id : Int) (W : World) (hid : (Lit.int .i64 id).wf = true) (h : TwoF w0 P lt lr a Q o W) :
    Calls Try.prog 20 #[.pointer (some ⟨P, 0, none⟩), .int .i64 id] W (Same (.bool (Ff.has lt id)) W) := by
  obtain ⟨F, h1, h2, h3⟩ := h.s
  exact hasC _ P lt F id W h1 hid
/-- the document's Push -/
theorem two_refpush {w0 : World} {P : Nat} {lt lr : List Ff.E} {a : Option Addr} {cap : Nat} {Q : Nat} {o : Obj} (id co : Int) (W : World) (hl : lr.length ≤ 1000) (ha : a = none → cap = 0) (hcap : lr.length ≤ cap) (h : TwoF w0 P lt lr a Q o W) :
    Calls Try.prog 7 #[.slice a lr.length cap, .agg #[.int .i64 id, .int .i64 co]] W fun e W' => ∃ a' cap', e = .returned (.tuple #[.slice a' (Ff.pushL lr id co).length cap', .int .i64 (Ff.pushE lr id co)]) ∧ Hid (TwoF w0 P lt (Ff.pushL lr id co) a' Q o W' ∧ (a' = none → cap' = 0) ∧ (Ff.pushL lr id co).length ≤ cap') := by
  unfold Ff.pushL Ff.pushE
  cases hb : Ff.bad id co with
  | true => exact (refPushBad id co a cap lr W hb).mono fun e W' hr => ⟨a, cap, hr.e, Lib.hid ⟨h.below hr.b, ha, hcap⟩⟩
  | false =>
    cases hh : Ff.has lr id with
    | true => exact (refPushThere id co a cap lr W (by omega) h.v hb hh).mono fun e W' hr => ⟨a, cap, hr.e, Lib.hid ⟨h.below hr.b, ha, hcap⟩⟩
    | false =>
      exact (refPushNew id co a cap lr W (by omega) ha h.v hb hh).mono fun e W' hr => by
        obtain ⟨a', cap', he, hrow⟩ := hr.s
        exact ⟨a', cap', he, Lib.hid (h.row hr.b hrow)⟩
theorem two_refdrop {w0 : World} {P : Nat} {lt lr : List Ff.E} {a : Option Addr} {cap : Nat} {Q : Nat} {o : Obj} (id : Int) (W : World) (hl : lr.length ≤ 1000) (h : TwoF w0 P lt lr a Q o W) :
    Calls Try.prog 13 #[.slice a lr.length cap, .int .i64 id] W fun e W' => ∃ a' cap', e = .returned (.slice a' (Ff.drop lr id).length cap') ∧ Hid (TwoF w0 P lt (Ff.drop lr id) a' Q o W' ∧ (a' = none → cap' = 0) ∧ (Ff.drop lr id).length ≤ cap') :=
  (refDropC id a cap lr W (by omega) h.v).mono fun e W' hr => by
    obtain ⟨a', cap', he, hrow⟩ := hr.s
    exact ⟨a', cap', he, Lib.hid (h.row hr.b hrow)⟩
theorem two_reffind {w0 : World} {P : Nat} {lt lr : List Ff.E} {a : Option Addr} {cap : Nat} {Q : Nat} {o : Obj} (id : Int) (W : World) (hl : lr.length ≤ 1000) (h : TwoF w0 P lt lr a Q o W) :
    Calls Try.prog 12 #[.slice a lr.length cap, .int .i64 id] W (Same (.int .i64 (Ff.place lr id)) W) := refFindC id a cap lr W (by omega) h.v
theorem two_refcost {w0 : World} {P : Nat} {lt lr : List Ff.E} {a : Option Addr} {cap : Nat} {Q : Nat} {o : Obj} (W : World) (hl : lr.length ≤ 1000) (hg : Ff.Good lr) (h : TwoF w0 P lt lr a Q o W) :
    Calls Try.prog 19 #[.slice a lr.length cap] W (Same (.int .i64 (Ff.cost lr)) W) := refCostC a cap lr W (by omega) hg h.v
/-- the document's list less its first -/
theorem TwoF.tail {w0 : World} {P : Nat} {lt : List Ff.E} {x : Ff.E} {lr : List Ff.E} {g off : Nat} {a' : Option Addr} {Q : Nat} {o : Obj} {W : World} (h : TwoF w0 P lt (x :: lr) (some ⟨g, off, none⟩) Q o W) (ha : 0 < lr.length → a' = some ⟨g, off + 2, none⟩) : TwoF w0 P lt lr a' Q o W := by
  obtain ⟨F, h1, h2, h3⟩ := h.s
  refine ⟨⟨F, h1, fun h0 g' off' e => ?_, h3⟩, ⟨fun h0 => ?_⟩, h.q, h.b⟩
  · rw [ha h0] at e
    cases e
    exact h2 (by simp) g off rfl
  · obtain ⟨g', off', e, hg, hc⟩ := h.v.is (by simp)
    cases e
    refine ⟨g, off + 2, ha h0, hg, fun j hj i u hu => ?_⟩
    have := hc (j + 1) (by simp; omega) i u (by simpa using hu)
    have e2 : off + 2 + j * eltI.size + i = off + (j + 1) * eltI.size + i := by show off + 2 + j * 2 + i = off + (j + 1) * 2 + i; omega
    rw [e2]
    exact this
end Go.Proofs.Ytgndjahkjchaoaa
