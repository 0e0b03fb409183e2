/-
  Acts as they came in; what a pick leaves; the first of Rows.
-/
import Derived.Test.YtgeoebodlcbebaaFlL
namespace Fl
structure Ac where
  kd : Int
  f : Int
  w : Int
  id : Int
  co : Int
/-- what a call leaves: 0 Push, 1 Take, 2 Pick, else Drop -/
def St.act (s : St) (a : Ac) : St := if a.kd = 0 then s.push a.f a.w a.id a.co else if a.kd = 1 then s.take else if a.kd = 2 then s.pick else s.drop a.f a.id
/-- .. of push and take alone -/
def St.act1 (s : St) (a : Ac) : St := if a.kd = 0 then s.push a.f a.w a.id a.co else if a.kd = 1 then s.take else s
theorem takeV_again {s : St} (hG : Good s) (hL : Lim 64 s) : s.pick.takeV = s.takeV := by
  unfold St.takeV
  rw [pick_again hG hL]
theorem picked {s : St} (hG : Good s) (hL : Lim 64 s) : (s.takeV = none ∧ s.pick.l = []) ∨ ∃ f id co r t rest, s.takeV = some (f, (id, co)) ∧ s.pick.l = r :: t ∧ r.f = f ∧ r.its = (id, co) :: rest ∧ co ≤ r.d ∧ s.pick.g = true ∧ row s.pick.l f = some r := by
  obtain ⟨h1, h2, h3⟩ := hG.pick hL
  cases hl : s.pick.l with
  | nil => exact Or.inl ⟨by unfold St.takeV; rw [hl], rfl⟩
  | cons r t =>
    have hok := h1.ok r (by rw [hl]; simp)
    cases hi : r.its with
    | nil => exact absurd hi hok.ne
    | cons e rest =>
      obtain ⟨id, co⟩ := e
      have hr := h3
      unfold St.ready at hr
      rw [hl] at hr
      have hr2 : (s.pick.g && r.fits) = true := hr
      rw [Bool.and_eq_true] at hr2
      have hf : r.fits = decide (co ≤ r.d) := by unfold Rw.fits; rw [hi]
      refine Or.inr ⟨r.f, id, co, r, t, rest, ?_, rfl, rfl, hi, ?_, hr2.1, ?_⟩
      · unfold St.takeV
        rw [hl]
        show (r.its.head?).map (fun x => (r.f, x)) = _
        rw [hi]; rfl
      · have := hr2.2; rw [hf] at this; exact of_decide_eq_true this
      · unfold row; simp
end Fl
namespace Go.Proofs.Ytgeoebodlcbebaa
open Go.RowKit
open Rb (Nd)
set_option linter.unusedVariables false

/-- acts as they came in -/
def ActAt (w : World) (a : Option Addr) (len : Nat) (t : Nat → Fl.Ac) : Prop := len = 0 ∨ ∃ b off : Nat, a = some ⟨b, off, none⟩ ∧ b < w.heap.size ∧
  ∀ i, i < len → w.cell? ⟨b, off + i * 5, none⟩ = some (.int .i64 (t i).kd) ∧ w.cell? ⟨b, off + i * 5 + 1, none⟩ = some (.int .i64 (t i).f) ∧ w.cell? ⟨b, off + i * 5 + 2, none⟩ = some (.int .i64 (t i).w) ∧ w.cell? ⟨b, off + i * 5 + 3, none⟩ = some (.int .i64 (t i).id) ∧ w.cell? ⟨b, off + i * 5 + 4, none⟩ = some (.int .i64 (t i).co) ∧ (Lit.int .i64 (t i).f).wf = true ∧ (Lit.int .i64 (t i).id).wf = true
/-- the first of Rows, with its first item -/
theorem solo_first {w0 : World} {P n : Nat} {s : Fl.St} {bx : List (Nat × Obj)} {r : Fl.Rw} {t : List Fl.Rw} {id co : Int} {rest : List Ff.E} (hl : s.l = r :: t) (hi : r.its = (id, co) :: rest) (W : World) (h : SoloF w0 P n s bx W) (hn : n ≤ 1000) :
    Calls Try.prog 20 #[.pointer (some ⟨P, 0, none⟩)] W fun e W' => ∃ g c g2 off c2, e = .returned (.slice (some ⟨g, 0, none⟩) (t.length + 1) c) ∧ W'.cell? ⟨g, 0, none⟩ = some (.int .i64 r.f) ∧ W'.cell? ⟨g, 3, none⟩ = some (.slice (some ⟨g2, off, none⟩) (rest.length + 1) c2) ∧ W'.cell? ⟨g2, off, none⟩ = some (.int .i64 id) ∧ W'.cell? ⟨g2, off + 1, none⟩ = some (.int .i64 co) ∧ Hid (SoloF w0 P n s bx W') := by
  refine (solo_rows W h hn).mono fun e W' hr => ?_
  obtain ⟨v, ds, rfl, hrow, hdr, hok⟩ := hr.r
  obtain ⟨a, c, rfl, hf⟩ := hrow.flat
  rw [hl] at hdr
  cases ds with
  | nil => cases hdr
  | cons d ds =>
    rw [List.map_cons] at hdr
    obtain ⟨e1, e2⟩ := List.cons.inj hdr
    obtain ⟨g, rfl, hg, hc⟩ := hf.is (by simp)
    have hd := hok d (by simp)
    have hlen : ds.length = t.length := by rw [← e2]; simp
    have hil : d.r.its = (id, co) :: rest := by rw [e1]; exact hi
    obtain ⟨g2, off, ha, hg2, hc2⟩ := hd.v.is (by rw [hil]; simp)
    have c0 := hc 0 (by simp) 0 _ rfl
    have c3 := hc 0 (by simp) 3 _ rfl
    have k0 := hc2 0 (by rw [hil]; simp) 0 (.int .i64 id) (by simp [hil]; rfl)
    have k1 := hc2 0 (by rw [hil]; simp) 1 (.int .i64 co) (by simp [hil]; rfl)
    refine ⟨g, c, g2, off, d.cap, by rw [List.length_cons, hlen], ?_, ?_, ?_, ?_, Lib.hid (h.below hr.b)⟩
    · rw [← e1]; simpa using c0
    · have : W'.cell? ⟨g, 3, none⟩ = some (.slice d.a d.r.its.length d.cap) := by simpa using c3
      rw [this, ha, hil]; rfl
    · simpa using k0
    · simpa using k1
end Go.Proofs.Ytgeoebodlcbebaa
