/-
  A ring of flows alone, one lemma a call; the chapter's example.
  Acts as they came in; what a pick leaves; the first of Rows.
-/
import Derived.Test.YtgeoebodlcbebaaFlS
namespace Fl
/-- the example's ring: behind so many pushes, so many takes -/
def liveP : Nat → St
  | 0 => ⟨2, [], false⟩
  | k + 1 => (liveP k).push (((k : Int) + 1) % 2) (1 + ((k : Int) + 1) % 2) ((k : Int) + 1) 2
def liveT : Nat → St
  | 0 => liveP 8
  | k + 1 => (liveT k).take
def wantAt : Nat → Int
  | 0 => 1
  | 1 => 1
  | 2 => 0
  | 3 => 1
  | 4 => 1
  | _ => 0
theorem live_pushE : ∀ k : Nat, k < 8 → (liveP k).pushE (((k : Int) + 1) % 2) (1 + ((k : Int) + 1) % 2) ((k : Int) + 1) 2 = 0 := by decide
theorem live_takes : ∀ k : Nat, k < 6 → (((liveT k).takeV).map (·.1)) = some (wantAt k) := by decide
end Fl
namespace Go.Proofs.Ytgeoebodlcbebaa
open Go.RowKit
open Rb (Nd)
set_option linter.unusedVariables false

/-- a ring alone, beside boxes -/
structure SoloF (w0 : World) (P n : Nat) (s : Fl.St) (bx : List (Nat × Obj)) (W : World) : Prop where
  st : ∃ F, FIs W w0.heap.size P s F ∧ ∀ p ∈ bx, W.heap[p.1]? = some p.2 ∧ ¬ F p.1
  b : Below w0.heap.size w0 W
  g : Fl.Good s
  l : Fl.Lim 64 s
  z : Fl.Small n s
section
variable {w0 W W' : World} {P n : Nat} {s s' : Fl.St} {bx : List (Nat × Obj)}
theorem SoloF.below (h : SoloF w0 P n s bx W) (hb : Below W.heap.size W W') : SoloF w0 P n s bx W' := by
  obtain ⟨F, h1, h2⟩ := h.st
  exact ⟨⟨F, h1.below hb, fun p hp => ⟨(hb.block p.1 (lt_block (h2 p hp).1)).trans (h2 p hp).1, (h2 p hp).2⟩⟩, h.b.trans (hb.mono h.b.size), h.g, h.l, h.z⟩
theorem SoloF.did {r : Value} {F : Nat → Prop} {e : Ending} {n' : Nat} (h : SoloF w0 P n s bx W) (h1 : FIs W w0.heap.size P s F) (h2 : ∀ p ∈ bx, W.heap[p.1]? = some p.2 ∧ ¬ F p.1) (hr : RetF r w0.heap.size P s' F W e W') (hg : Fl.Good s') (hl : Fl.Lim 64 s') (hz : Fl.Small n' s') : e = .returned r ∧ SoloF w0 P n' s' bx W' := by
  obtain ⟨F', g1, g2⟩ := hr.s
  refine ⟨hr.r, ⟨F', g1, fun p hp => ⟨hr.c.keep (h2 p hp).1 (h2 p hp).2, fun hf => ?_⟩⟩, h.b.trans (hr.c.below (fun k hk => (h1.lt k hk).1) h.b.size), hg, hl, hz⟩
  rcases g2 _ hf with e | e
  · exact (h2 p hp).2 e
  · have := lt_block (h2 p hp).1; omega
theorem SoloF.box (h : SoloF w0 P n s bx W) (o : Obj) : SoloF w0 P n s ((W.heap.size, o) :: bx) (W.alloc o) := by
  have hb : Below W.heap.size W (W.alloc o) := (Below.refl _ _).alloc (Nat.le_refl _) _
  have h' := h.below hb
  obtain ⟨F, h1, h2⟩ := h.st
  refine ⟨⟨F, h1.below hb, fun p hp => ?_⟩, h'.b, h.g, h.l, h.z⟩
  rcases List.mem_cons.1 hp with e | hp
  · subst e
    exact ⟨heap_alloc_new _ _, fun hf => by have := (h1.lt _ hf).2; omega⟩
  · exact ⟨(hb.block p.1 (lt_block (h2 p hp).1)).trans (h2 p hp).1, (h2 p hp).2⟩
theorem SoloF.at_ (h : SoloF w0 P n s bx W) {k : Nat} {o : Obj} (hm : (k, o) ∈ bx) : W.heap[k]? = some o := by
  obtain ⟨F, h1, h2⟩ := h.st
  exact (h2 _ hm).1
theorem SoloF.fewer {bx' : List (Nat × Obj)} (h : SoloF w0 P n s bx W) (hs : ∀ p ∈ bx', p ∈ bx) : SoloF w0 P n s bx' W := by
  obtain ⟨F, h1, h2⟩ := h.st
  exact ⟨⟨F, h1, fun p hp => h2 p (hs p hp)⟩, h.b, h.g, h.l, h.z⟩
theorem SoloF.mono {m : Nat} (h : SoloF w0 P n s bx W) (hm : n ≤ m) : SoloF w0 P m s bx W := ⟨h.st, h.b, h.g, h.l, h.z.mono hm⟩
end
theorem pushE_co {s : Fl.St} {f wt id co : Int} (h : s.pushE f wt id co = 0) : co ≤ 64 := by
  rcases Fl.push_cases s f wt id co with hb | ⟨hok, hrow⟩
  · have := (Fl.push_bad (id := id) (c := co) hb).2; rw [this] at h; cases h
  · rcases hrow with hr | ⟨r, hr, hw⟩
    · rw [(Fl.push_new (id := id) (c := co) hok hr).2] at h
      exact (Ff.bad_no (Fl.pushE_zero h).1).2.2
    · rw [(Fl.push_there (id := id) (c := co) hok hr hw).2] at h
      exact (Ff.bad_no (Fl.pushE_zero h).1).2.2
theorem solo_push {w0 : World} {P n : Nat} {s : Fl.St} {bx : List (Nat × Obj)} (f wt id co : Int) (W : World) (h : SoloF w0 P n s bx W) (hf : (Lit.int .i64 f).wf = true) (hid : (Lit.int .i64 id).wf = true) (hn : n ≤ 1000) :
    Calls Try.prog 15 #[.pointer (some ⟨P, 0, none⟩), .int .i64 f, .int .i64 wt, .agg #[.int .i64 id, .int .i64 co]] W fun e W' => e = .returned (.int .i64 (s.pushE f wt id co)) ∧ SoloF w0 P (n + 1) (s.push f wt id co) bx W' := by
  obtain ⟨F, h1, h2⟩ := h.st
  exact (flPushC _ P s F f wt id co W h1 h.g (h.z.mono (by omega)) h.b.size hf hid).mono fun e W' hr => h.did h1 h2 hr (h.g.push (wf_i64 hf).2 (wf_i64 hid).2) (h.l.push h.g (by decide) pushE_co) (h.z.push h.g f wt id co)
theorem solo_pick {w0 : World} {P n : Nat} {s : Fl.St} {bx : List (Nat × Obj)} (W : World) (h : SoloF w0 P n s bx W) (hn : n ≤ 1000) :
    Calls Try.prog 17 #[.pointer (some ⟨P, 0, none⟩)] W fun e W' => e = .returned (tkV s.takeV) ∧ SoloF w0 P n s.pick bx W' := by
  obtain ⟨F, h1, h2⟩ := h.st
  obtain ⟨g1, g2, _⟩ := h.g.pick h.l
  exact (flPickC _ P s F W h1 h.g h.l (h.z.mono (by omega))).mono fun e W' hr => h.did h1 h2 hr g1 g2 (h.z.pick h.g h.l)
theorem solo_take {w0 : World} {P n : Nat} {s : Fl.St} {bx : List (Nat × Obj)} (W : World) (h : SoloF w0 P n s bx W) (hn : n ≤ 1000) :
    Calls Try.prog 16 #[.pointer (some ⟨P, 0, none⟩)] W fun e W' => e = .returned (tkV s.takeV) ∧ SoloF w0 P n s.take bx W' := by
  obtain ⟨F, h1, h2⟩ := h.st
  exact (flTakeC _ P s F W h1 h.g h.l (h.z.mono (by omega)) h.b.size).mono fun e W' hr => h.did h1 h2 hr (h.g.take h.l) (h.l.take h.g h.l) (h.z.take h.g h.l)
theorem solo_drop {w0 : World} {P n : Nat} {s : Fl.St} {bx : List (Nat × Obj)} (f id : Int) (W : World) (h : SoloF w0 P n s bx W) (hf : (Lit.int .i64 f).wf = true) (hid : (Lit.int .i64 id).wf = true) (hn : n ≤ 1000) :
    Calls Try.prog 18 #[.pointer (some ⟨P, 0, none⟩), .int .i64 f, .int .i64 id] W fun e W' => e = .returned (.bool (s.dropB f id)) ∧ SoloF w0 P n (s.drop f id) bx W' := by
  obtain ⟨F, h1, h2⟩ := h.st
  exact (flDropC _ P s F f id W h1 h.g (h.z.mono (by omega)) h.b.size hf hid).mono fun e W' hr => h.did h1 h2 hr (h.g.drop f id) (h.l.drop h.g f id) (h.z.drop f id)
theorem solo_len {w0 : World} {P n : Nat} {s : Fl.St} {bx : List (Nat × Obj)} (f : Int) (W : World) (h : SoloF w0 P n s bx W) (hf : (Lit.int .i64 f).wf = true) (hn : n ≤ 1000) :
    Calls Try.prog 12 #[.pointer (some ⟨P, 0, none⟩), .int .i64 f] W (Ret (.int .i64 (lenOf s.l f)) W) := by
  obtain ⟨F, h1, h2⟩ := h.st
  exact flLenC _ P s F f W h1 hf (h.z.mono (by omega))
theorem solo_def {w0 : World} {P n : Nat} {s : Fl.St} {bx : List (Nat × Obj)} (f : Int) (W : World) (h : SoloF w0 P n s bx W) (hf : (Lit.int .i64 f).wf = true) :
    Calls Try.prog 13 #[.pointer (some ⟨P, 0, none⟩), .int .i64 f] W (Ret (.int .i64 (defOf s.l f)) W) := by
  obtain ⟨F, h1, h2⟩ := h.st
  exact flDefC _ P s F f W h1 hf
theorem solo_rows {w0 : World} {P n : Nat} {s : Fl.St} {bx : List (Nat × Obj)} (W : World) (h : SoloF w0 P n s bx W) (hn : n ≤ 1000) :
    Calls Try.prog 20 #[.pointer (some ⟨P, 0, none⟩)] W (RetRows s.l W) := by
  obtain ⟨F, h1, h2⟩ := h.st
  exact flRowsC _ P s F W h1 (h.z.mono (by omega))
theorem solo_given {w0 : World} {P n : Nat} {s : Fl.St} {bx : List (Nat × Obj)} (W : World) (h : SoloF w0 P n s bx W) :
    Calls Try.prog 21 #[.pointer (some ⟨P, 0, none⟩)] W (Same (.bool s.g) W) := by
  obtain ⟨F, h1, h2⟩ := h.st
  exact flGivenC _ P s F W h1
theorem good_empty {q : Int} (h1 : 1 ≤ q) (h2 : q ≤ 64) : Fl.Good ⟨q, [], false⟩ ∧ Fl.Lim 64 ⟨q, [], false⟩ ∧ Fl.Small 0 ⟨q, [], false⟩ :=
  ⟨⟨⟨h1, h2⟩, by simp, fun r hr => by simp at hr, fun _ => rfl⟩, ⟨fun r hr => by simp at hr, fun r hr => by simp at hr, fun r hr => by simp at hr⟩, ⟨by simp, fun r hr => by simp at hr⟩⟩
theorem FIs.base {w : World} {B B' P : Nat} {s : Fl.St} {F : Nat → Prop} (h : FIs w B P s F) (hb : B' ≤ B) : FIs w B' P s F := by
  obtain ⟨R, m, ns, x, y, h1, h2, h3⟩ := h
  refine ⟨R, m, ns, x, y, ⟨h1.p, ⟨h1.r.r, ⟨h1.r.qs.src, fun n hn => (h1.r.qs.q n hn).base hb, h1.r.qs.own, h1.r.qs.apart⟩, h1.r.ring, fun k hk => Nat.le_trans hb (h1.r.lo k hk)⟩, h1.np, Nat.le_trans hb h1.lo⟩, h2, h3⟩
theorem solo_new (w0 W : World) (q : Int) (hb : Below w0.heap.size w0 W) (h1 : 1 ≤ q) (h2 : q ≤ 64) : Calls Try.prog 7 #[.int .i64 q] W fun e W' => ∃ P, e = .returned (.pointer (some ⟨P, 0, none⟩)) ∧ SoloF w0 P 0 ⟨q, [], false⟩ [] W' :=
  (flNewC q W h1 h2).mono fun e W' hr => by
    obtain ⟨P, F, rfl, h⟩ := hr.s
    obtain ⟨g1, g2, g3⟩ := good_empty h1 h2
    exact ⟨P, rfl, ⟨F, h.base hb.size, fun p hp => by simp at hp⟩, hb.trans (hr.b.mono hb.size), g1, g2, g3⟩
theorem numC (e : Int) (w : World) : Calls Try.prog 14 #[.int .i64 e] w (Same (.int .i64 e) w) := by
  go_enter Try.func14, Try.ntmps14
  go_wp2
  go_ret
  exact ⟨rfl, rfl⟩
theorem tkV_of {o : Option (Int × Ff.E)} {f : Int} (h : o.map (·.1) = some f) : ∃ id co, tkV o = .tuple #[.int .i64 f, .agg #[.int .i64 id, .int .i64 co], .bool true] := by
  cases o with
  | none => cases h
  | some v =>
    obtain ⟨f', id, co⟩ := v
    simp at h
    subst h
    exact ⟨id, co, rfl⟩
set_option maxRecDepth 100000 in
set_option maxHeartbeats 4000000 in
theorem liveOk (w : World) : Calls Try.prog 8 #[] w (Ret (.bool true) w) := by
  have K0 := Lib.hid (solo_new w w 2 (Below.refl _ _) (by decide) (by decide))
  have KN := Lib.hid (fun e W => numC e W)
  go_enter Try.func8, Try.ntmps8
  go_wp2_with (go_at_call 7; (with_reducible refine K0.out.mono ?_); rintro e wA ⟨P, rfl, hV⟩; have HV := Lib.hid hV; clear hV)
  clear K0
  go_loopw [2] (fun i wr => ∃ k : Nat, k ≤ 8 ∧ i = .int .i64 ((k : Int) + 1) ∧ Hid (SoloF w P k (Fl.liveP k) [] wr)) (fun i _ => 9 - (intOf i).toNat)
  case atStart => exact ⟨0, by omega, rfl, HV⟩
  case round =>
    obtain ⟨k, hk, rfl, hst⟩ := hrel
    by_cases hlt : k < 8
    · have hp := Fl.live_pushE k hlt
      have hw1 : (Lit.int .i64 (((k : Int) + 1) % 2)).wf = true := wf_i64' (by omega) (by omega)
      have hw2 : (Lit.int .i64 ((k : Int) + 1)).wf = true := wf_i64' (by omega) (by omega)
      have KP := Lib.hid (solo_push (((k : Int) + 1) % 2) (1 + ((k : Int) + 1) % 2) ((k : Int) + 1) 2 wr hst.out hw1 hw2 (by omega))
      rw [hp] at KP
      clear hp hw1 hw2 HV hst
      go_wp2_with (first | (go_at_call 15; (with_reducible refine KP.out.mono ?_); rintro e wB ⟨rfl, hB⟩; have HB := Lib.hid hB; clear hB) | (go_at_call 14; (with_reducible refine (KN.out _ _).mono ?_); rintro e wC ⟨rfl, rfl⟩))
      go_roundw
      case rel => exact ⟨k + 1, by omega, by go_num, HB⟩
      case measure => simp [intOf]; omega
    · obtain rfl : k = 8 := by omega
      have HS0 := Lib.hid (hst.out.box (.cells #[.int .i64 1, .int .i64 1, .int .i64 0, .int .i64 1, .int .i64 1, .int .i64 0] 3))
      obtain ⟨X, hX⟩ : ∃ X, X = wr.heap.size := ⟨_, rfl⟩
      have HX := Lib.hid hX
      rw [← hX] at HS0
      clear HV hst hX
      go_wp2
      rw [← HX.out]
      go_loopg [4] 6 (fun gk i wq => ∃ k : Nat, k ≤ 6 ∧ gk = 6 - k ∧ i = .int .i64 (k : Int) ∧ Hid (SoloF w P 8 (Fl.liveT k) [(X, .cells #[.int .i64 1, .int .i64 1, .int .i64 0, .int .i64 1, .int .i64 1, .int .i64 0] 3)] wq))
      case atStart => exact ⟨0, by omega, rfl, rfl, HS0⟩
      case round =>
        obtain ⟨k, hk, rfl, rfl, hst⟩ := hrel
        clear HS0
        by_cases hlt : k < 6
        · obtain ⟨id, co, htk⟩ := tkV_of (Fl.live_takes k hlt)
          have KT := Lib.hid ((solo_take wr hst.out (by decide)).mono (R' := fun e w' => e = .returned (.tuple #[.int .i64 (Fl.wantAt k), .agg #[.int .i64 id, .int .i64 co], .bool true]) ∧ w'.cell? ⟨X, k, none⟩ = some (.int .i64 (Fl.wantAt k)) ∧ Hid (SoloF w P 8 (Fl.liveT (k + 1)) [(X, .cells #[.int .i64 1, .int .i64 1, .int .i64 0, .int .i64 1, .int .i64 1, .int .i64 0] 3)] w')) fun e w' hr => by
            obtain ⟨h1, h2⟩ := hr
            rw [htk] at h1
            refine ⟨h1, ?_, Lib.hid h2⟩
            have hg : w'.heap[X]? = some (.cells #[.int .i64 1, .int .i64 1, .int .i64 0, .int .i64 1, .int .i64 1, .int .i64 0] 3) := h2.at_ (by simp)
            rw [cell_of_row w' _ _ _ _ _ hg]
            obtain rfl | rfl | rfl | rfl | rfl | rfl : k = 0 ∨ k = 1 ∨ k = 2 ∨ k = 3 ∨ k = 4 ∨ k = 5 := by omega
            all_goals rfl)
          clear htk hst
          generalize Fl.wantAt k = u at *
          go_wp2_with (go_at_call 16; (with_reducible refine KT.out.mono ?_); rintro e wB ⟨rfl, hc, hB⟩; have hc2 : (wB.alloc (itO id co)).cell? ⟨X, k, none⟩ = some (.int .i64 u) := (((Below.refl wB.heap.size wB).alloc (Nat.le_refl _) (itO id co)).cell (p := ⟨X, k, none⟩) (block_lt_of_cell hc)).trans hc; have HB := Lib.hid (hB.out.below ((Below.refl _ _).alloc (Nat.le_refl _) (itO id co))))
          go_roundg (6 - (k + 1))
          case rel => exact ⟨k + 1, by omega, rfl, by go_num, HB⟩
          case measure => omega
        · obtain rfl : k = 6 := by omega
          have HE := Lib.hid hst.out.b
          clear hst
          go_wp2
          go_ret
          exact ⟨rfl, HE.out⟩
end Go.Proofs.Ytgeoebodlcbebaa

namespace Fl
structure Ac where
  kd : Int
  f : Int
  w : Int
  id : Int
  co : Int
/-- what a call leaves: 0 Push, 1 Take, 2 Pick, else Drop -/
def St.act (s : St) (a : Ac) : St := if a.kd = 0 then s.push a.f a.w a.id a.co else if a.kd = 1 then s.take else if a.kd = 2 then s.pick else s.drop a.f a.id
/-- .. of push and take alone -/
def St.act1 (s : St) (a : Ac) : St := if a.kd = 0 then s.push a.f a.w a.id a.co else if a.kd = 1 then s.take else s
theorem takeV_again {s : St} (hG : Good s) (hL : Lim 64 s) : s.pick.takeV = s.takeV := by
  unfold St.takeV
  rw [pick_again hG hL]
theorem picked {s : St} (hG : Good s) (hL : Lim 64 s) : (s.takeV = none ∧ s.pick.l = []) ∨ ∃ f id co r t rest, s.takeV = some (f, (id, co)) ∧ s.pick.l = r :: t ∧ r.f = f ∧ r.its = (id, co) :: rest ∧ co ≤ r.d ∧ s.pick.g = true ∧ row s.pick.l f = some r := by
  obtain ⟨h1, h2, h3⟩ := hG.pick hL
  cases hl : s.pick.l with
  | nil => exact Or.inl ⟨by unfold St.takeV; rw [hl], rfl⟩
  | cons r t =>
    have hok := h1.ok r (by rw [hl]; simp)
    cases hi : r.its with
    | nil => exact absurd hi hok.ne
    | cons e rest =>
      obtain ⟨id, co⟩ := e
      have hr := h3
      unfold St.ready at hr
      rw [hl] at hr
      have hr2 : (s.pick.g && r.fits) = true := hr
      rw [Bool.and_eq_true] at hr2
      have hf : r.fits = decide (co ≤ r.d) := by unfold Rw.fits; rw [hi]
      refine Or.inr ⟨r.f, id, co, r, t, rest, ?_, rfl, rfl, hi, ?_, hr2.1, ?_⟩
      · unfold St.takeV
        rw [hl]
        show (r.its.head?).map (fun x => (r.f, x)) = _
        rw [hi]; rfl
      · have := hr2.2; rw [hf] at this; exact of_decide_eq_true this
      · unfold row; simp
end Fl
namespace Go.Proofs.Ytgeoebodlcbebaa
open Go.RowKit
open Rb (Nd)
set_option linter.unusedVariables false

/-- acts as they came in -/
def ActAt (w : World) (a : Option Addr) (len : Nat) (t : Nat → Fl.Ac) : Prop := len = 0 ∨ ∃ b off : Nat, a = some ⟨b, off, none⟩ ∧ b < w.heap.size ∧
  ∀ i, i < len → w.cell? ⟨b, off + i * 5, none⟩ = some (.int .i64 (t i).kd) ∧ w.cell? ⟨b, off + i * 5 + 1, none⟩ = some (.int .i64 (t i).f) ∧ w.cell? ⟨b, off + i * 5 + 2, none⟩ = some (.int .i64 (t i).w) ∧ w.cell? ⟨b, off + i * 5 + 3, none⟩ = some (.int .i64 (t i).id) ∧ w.cell? ⟨b, off + i * 5 + 4, none⟩ = some (.int .i64 (t i).co) ∧ (Lit.int .i64 (t i).f).wf = true ∧ (Lit.int .i64 (t i).id).wf = true
/-- the first of Rows, with its first item -/
theorem solo_first {w0 : World} {P n : Nat} {s : Fl.St} {bx : List (Nat × Obj)} {r : Fl.Rw} {t : List Fl.Rw} {id co : Int} {rest : List Ff.E} (hl : s.l = r :: t) (hi : r.its = (id, co) :: rest) (W : World) (h : SoloF w0 P n s bx W) (hn : n ≤ 1000) :
    Calls Try.prog 20 #[.pointer (some ⟨P, 0, none⟩)] W fun e W' => ∃ g c g2 off c2, e = .returned (.slice (some ⟨g, 0, none⟩) (t.length + 1) c) ∧ W'.cell? ⟨g, 0, none⟩ = some (.int .i64 r.f) ∧ W'.cell? ⟨g, 3, none⟩ = some (.slice (some ⟨g2, off, none⟩) (rest.length + 1) c2) ∧ W'.cell? ⟨g2, off, none⟩ = some (.int .i64 id) ∧ W'.cell? ⟨g2, off + 1, none⟩ = some (.int .i64 co) ∧ Hid (SoloF w0 P n s bx W') := by
  refine (solo_rows W h hn).mono fun e W' hr => ?_
  obtain ⟨v, ds, rfl, hrow, hdr, hok⟩ := hr.r
  obtain ⟨a, c, rfl, hf⟩ := hrow.flat
  rw [hl] at hdr
  cases ds with
  | nil => cases hdr
  | cons d ds =>
    rw [List.map_cons] at hdr
    obtain ⟨e1, e2⟩ := List.cons.inj hdr
    obtain ⟨g, rfl, hg, hc⟩ := hf.is (by simp)
    have hd := hok d (by simp)
    have hlen : ds.length = t.length := by rw [← e2]; simp
    have hil : d.r.its = (id, co) :: rest := by rw [e1]; exact hi
    obtain ⟨g2, off, ha, hg2, hc2⟩ := hd.v.is (by rw [hil]; simp)
    have c0 := hc 0 (by simp) 0 _ rfl
    have c3 := hc 0 (by simp) 3 _ rfl
    have k0 := hc2 0 (by rw [hil]; simp) 0 (.int .i64 id) (by simp [hil]; rfl)
    have k1 := hc2 0 (by rw [hil]; simp) 1 (.int .i64 co) (by simp [hil]; rfl)
    refine ⟨g, c, g2, off, d.cap, by rw [List.length_cons, hlen], ?_, ?_, ?_, ?_, Lib.hid (h.below hr.b)⟩
    · rw [← e1]; simpa using c0
    · have : W'.cell? ⟨g, 3, none⟩ = some (.slice d.a d.r.its.length d.cap) := by simpa using c3
      rw [this, ha, hil]; rfl
    · simpa using k0
    · simpa using k1
end Go.Proofs.Ytgeoebodlcbebaa
