/-
  flow's Load.
-/
import Derived.Test.YtgeoebodlcbebaaFbC
namespace Go.Proofs.Ytgeoebodlcbebaa
open Go.RowKit
open Rb (Nd)
set_option linter.unusedVariables false
set_option linter.unusedSimpArgs false

theorem robLoadC (q : Int) (g : Bool) (B : Nat) (a : Option Addr) (cap : Nat) (ns : List Nd) (w : World) (h : FlsAt w B a ns) (hl : ns.length ≤ 1000) (hil : ∀ n ∈ ns, n.r.its.length ≤ 1000) :
    Calls Try.prog 48 #[.int .i64 q, .slice a ns.length cap, .bool g] w (RetLd q g B ns w) := by
  by_cases hq : 1 ≤ q ∧ q ≤ 64
  · by_cases hg : ns = [] → g = false
    · exact robLoadAt q g B a cap ns w h hl hil hq.1 hq.2 hg
    · have hn : ns = [] := Classical.byContradiction fun hc => hg (fun e => absurd e hc)
      have hg2 : g = true := by cases g; exact absurd (fun _ => rfl) hg; rfl
      subst hn hg2
      exact robLoadG q B a cap w hq.1 hq.2
  · exact robLoadQ q g B a cap ns w hq
/-- a ring of these rows, or none -/
structure RetLo (q : Int) (g : Bool) (l : List Fl.Rw) (w : World) (e : Ending) (w' : World) : Prop where
  r : (Fl.Right q g l ∧ ∃ P F, e = .returned (.tuple #[.pointer (some ⟨P, 0, none⟩), .bool true]) ∧ FIs w' w.heap.size P ⟨q, l, g⟩ F) ∨ (¬ Fl.Right q g l ∧ e = .returned (.tuple #[.pointer none, .bool false]))
  b : Below w.heap.size w w'
/-- the flows behind k rows -/
structure LoQ (w : World) (l : List Fl.Rw) (k : Nat) (ns : List Nd) (o : Value) (W : World) : Prop where
  row : eltW.Row W w.heap.size o ns
  rs : ns.map (·.r) = l.take k
  t : ∀ n ∈ ns, n.t = 69
  q : ∀ n ∈ ns, QIs W w.heap.size n.q n.r.its n.F
  ap : ns.Pairwise (fun n n' => ∀ k, n.F k → ¬ n'.F k)
  own : ∀ n ∈ ns, ∀ j, n.F j → o.ownBlock ≠ some j
  b : Below w.heap.size w W
section
variable {w W W' : World} {l : List Fl.Rw} {k : Nat} {ns : List Nd} {o o' : Value}
theorem LoQ.below (h : LoQ w l k ns o W) (hb : Below W.heap.size W W') : LoQ w l k ns o W' :=
  ⟨h.row.below hb, h.rs, h.t, fun n hn => (h.q n hn).below hb, h.ap, h.own, h.b.trans (hb.mono h.b.size)⟩
/-- a flow appended, whose queue is new -/
theorem LoQ.app {w1 : World} {Q : Nat} {F : Nat → Prop} (h : LoQ w l k ns o W) (hk : k < l.length) (hq : QIs W w1.heap.size Q l[k].its F) (hw1 : ∀ n ∈ ns, ∀ j, n.F j → j < w1.heap.size) (ho : ∀ j, o.ownBlock = some j → j < w1.heap.size) (hww : w.heap.size ≤ w1.heap.size)
    (hrow : eltW.Row W' w.heap.size o' (ns ++ [⟨0, Q, 69, F, l[k]⟩])) (hb : Below w.heap.size W W') (hkeep : ∀ j, j < W.heap.size → some j ≠ o.ownBlock → W'.heap[j]? = W.heap[j]?) (hlies : ∀ j, o'.ownBlock = some j → o.ownBlock = some j ∨ W.heap.size ≤ j) :
    LoQ w l (k + 1) (ns ++ [⟨0, Q, 69, F, l[k]⟩]) o' W' := by
  have hold : ∀ n ∈ ns, ∀ j, n.F j → W'.heap[j]? = W.heap[j]? := fun n hn j hj => hkeep j ((h.q n hn).lt j hj).2 (fun e => h.own n hn j hj e.symm)
  have hnew : ∀ j, F j → o.ownBlock ≠ some j := fun j hj e => by
    have h1 := ho j e
    have h2 := (hq.lt j hj).1
    omega
  refine ⟨hrow, ?_, fun n hn => ?_, fun n hn => ?_, ?_, fun n hn j hj e => ?_, h.b.trans hb⟩
  · rw [List.map_append, h.rs, List.take_add_one, List.getElem?_eq_getElem hk]; rfl
  · rcases List.mem_append.1 hn with e | e
    · exact h.t n e
    · simp at e; subst e; rfl
  · rcases List.mem_append.1 hn with e | e
    · exact (h.q n e).keep (hold n e)
    · simp at e; subst e
      exact (hq.base hww).keep (fun j hj => hkeep j (hq.lt j hj).2 (fun e => hnew j hj e.symm))
  · rw [List.pairwise_append]
    refine ⟨h.ap, by simp, fun n hn n' hn' j hj hj' => ?_⟩
    simp at hn'; subst hn'
    have h1 := hw1 n hn j hj
    have h2 := (hq.lt j hj').1
    omega
  · rcases hlies j e with e2 | e2
    · rcases List.mem_append.1 hn with e3 | e3
      · exact h.own n e3 j hj e2
      · simp at e3; subst e3; exact hnew j hj e2
    · rcases List.mem_append.1 hn with e3 | e3
      · have := ((h.q n e3).lt j hj).2; omega
      · simp at e3; subst e3
        have := (hq.lt j hj).2; omega
theorem LoQ.fls (h : LoQ w l k ns o W) (hwf : ∀ r ∈ l, (Lit.int .i64 r.f).wf = true) : ∃ a cap, o = .slice a ns.length cap ∧ FlsAt W w.heap.size a ns := by
  obtain ⟨a, cap, e, hf⟩ := h.row.flat
  refine ⟨a, cap, e, hf.view, h.t, h.q, h.ap, fun n hn => ?_, fun n hn j hj g off sp ha ej => ?_, h.b.size⟩
  · have : n.r ∈ ns.map (·.r) := List.mem_map.2 ⟨n, hn, rfl⟩
    rw [h.rs] at this
    exact hwf _ (List.mem_of_mem_take this)
  · refine h.own n hn j hj ?_
    rw [e, ha, ej]; rfl
end
theorem rowsR_at {w : World} {a : Option Addr} {l : List DR} (h : eltR.View w a l) (h0 : 0 < l.length) : ∃ g off, a = some ⟨g, off, none⟩ ∧ g < w.heap.size ∧ ∀ j (hj : j < l.length), w.cell? ⟨g, off + j * 4, none⟩ = some (.int .i64 l[j].r.f) ∧ w.cell? ⟨g, off + j * 4 + 1, none⟩ = some (.int .i64 l[j].r.w) ∧ w.cell? ⟨g, off + j * 4 + 2, none⟩ = some (.int .i64 l[j].r.d) ∧ w.cell? ⟨g, off + j * 4 + 3, none⟩ = some (.slice l[j].a l[j].r.its.length l[j].cap) := by
  obtain ⟨g, off, ha, hg, hc⟩ := h.is h0
  exact ⟨g, off, ha, hg, fun j hj => ⟨hc j hj 0 _ rfl, hc j hj 1 _ rfl, hc j hj 2 _ rfl, hc j hj 3 _ rfl⟩⟩
abbrev rwO (f wt d : Int) (a : Option Addr) (n c : Nat) : Obj := .cells #[.int .i64 f, .int .i64 wt, .int .i64 d, .slice a n c] 56
theorem rw_cells {w : World} {X : Nat} {f wt d : Int} {a : Option Addr} {n c : Nat} (h : w.heap[X]? = some (rwO f wt d a n c)) : w.cell? ⟨X, 0, none⟩ = some (.int .i64 f) ∧ w.cell? ⟨X, 1, none⟩ = some (.int .i64 wt) ∧ w.cell? ⟨X, 2, none⟩ = some (.int .i64 d) ∧ w.cell? ⟨X, 3, none⟩ = some (.slice a n c) :=
  ⟨by rw [cell_of_row w _ _ _ _ _ h]; rfl, by rw [cell_of_row w _ _ _ _ _ h]; rfl, by rw [cell_of_row w _ _ _ _ _ h]; rfl, by rw [cell_of_row w _ _ _ _ _ h]; rfl⟩
set_option maxRecDepth 100000 in
set_option maxHeartbeats 16000000 in
theorem flLoadC (q : Int) (g : Bool) (a : Option Addr) (cap : Nat) (ds : List DR) (w : World) (hv : eltR.View w a ds) (hd : ∀ d ∈ ds, DOk w d) (hl : ds.length ≤ 1000) (hil : ∀ d ∈ ds, d.r.its.length ≤ 1000) (hwf : ∀ d ∈ ds, (Lit.int .i64 d.r.f).wf = true) (hwi : ∀ d ∈ ds, ∀ e ∈ d.r.its, (Lit.int .i64 e.1).wf = true) :
    Calls Try.prog 22 #[.int .i64 q, .slice a ds.length cap, .bool g] w (RetLo q g (ds.map DR.r) w) := by
  have H0 : Hid (LoQ w (ds.map DR.r) 0 [] (.slice none 0 0) w) := Lib.hid ⟨Elt.Row.nil w _, by simp, fun n hn => by simp at hn, fun n hn => by simp at hn, by simp, fun n hn => by simp at hn, Below.refl _ _⟩
  have HV := Lib.hid hv
  have HD := Lib.hid hd
  have HIL := Lib.hid hil
  have HWF := Lib.hid hwf
  have HWI := Lib.hid hwi
  have KQ := Lib.hid (fun a cap l W (h1 : eltI.View W a l) (h2 : l.length ≤ 1000) h3 => queueOfC a cap l W h1 h2 h3)
  clear hv hd hil hwf hwi
  go_enter Try.func22, Try.ntmps22
  go_wp2
  go_loopw [8, 17] (fun o i wr => ∃ k : Nat, k ≤ ds.length ∧ i = .int .i64 (k : Int) ∧ Hid (∃ ns, LoQ w (ds.map DR.r) k ns o wr)) (fun _ i _ => ds.length - (intOf i).toNat)
  case atStart => exact ⟨0, by omega, rfl, Lib.hid ⟨[], H0.out⟩⟩
  case round =>
    obtain ⟨k, hk, rfl, hst⟩ := hrel
    clear H0
    obtain ⟨ns, hq⟩ := hst.out
    by_cases hlt : k < ds.length
    · obtain ⟨gR, off, rfl, hgR, hc⟩ := rowsR_at HV.out (by omega)
      obtain ⟨e0, e1, e2, e3⟩ := hc k hlt
      have d0 := (hq.b.cell (p := ⟨gR, _, none⟩) hgR).trans e0
      have d1 := (hq.b.cell (p := ⟨gR, _, none⟩) hgR).trans e1
      have d2 := (hq.b.cell (p := ⟨gR, _, none⟩) hgR).trans e2
      have d3 := (hq.b.cell (p := ⟨gR, _, none⟩) hgR).trans e3
      clear e0 e1 e2 e3 hc
      have hmem := List.getElem_mem hlt
      obtain ⟨W1, hW1⟩ : ∃ W1, W1 = wr.alloc (rwO ds[k].r.f ds[k].r.w ds[k].r.d ds[k].a ds[k].r.its.length ds[k].cap) := ⟨_, rfl⟩
      have hb1 : Below wr.heap.size wr W1 := by rw [hW1]; exact (Below.refl _ _).alloc (Nat.le_refl _) _
      have hbox : W1.heap[wr.heap.size]? = some (rwO ds[k].r.f ds[k].r.w ds[k].r.d ds[k].a ds[k].r.its.length ds[k].cap) := by rw [hW1]; exact heap_alloc_new _ _
      have hq1 := hq.below hb1
      have hdk := (HD.out _ hmem).below hq1.b
      have KO := Lib.hid (KQ.out ds[k].a ds[k].cap ds[k].r.its W1 hdk.v (HIL.out _ hmem) (HWI.out _ hmem))
      have HBX := Lib.hid (fun W (hW : Below W1.heap.size W1 W) => rw_cells ((hW.block _ (lt_block hbox)).trans hbox))
      have HQ1 := Lib.hid hq1
      have hlm : k < (ds.map DR.r).length := by simpa using hlt
      have hlr : (ds.map DR.r)[k] = ds[k].r := by simp
      have HNG : Hid (¬ Ff.Good ds[k].r.its → ¬ Fl.Right q g (ds.map DR.r)) := Lib.hid (fun hn hr => hn (hr.its _ (List.mem_map_of_mem hmem)))
      have hnl : ns.length ≤ 1000 := by have := congrArg List.length hq.rs; simp at this; omega
      have HAP := Lib.hid (fun Q F o' W W' (hW : Below W1.heap.size W1 W) (h1 : QIs W W1.heap.size Q ds[k].r.its F) h2 h3 h4 h5 => (hq1.below hW).app (w1 := W1) (Q := Q) (F := F) (o' := o') (W' := W') hlm (by rw [hlr]; exact h1) (fun n hn j hj => ((hq1.q n hn).lt j hj).2) (fun j hj => (hq1.row.lt j hj).2) hq1.b.size h2 h3 h4 h5)
      rw [hlr] at HAP
      obtain ⟨oa, oc, rfl⟩ := hq.row.slice
      have HPV : Hid (∀ Q F, (#[.iface 69 (.pointer (some ⟨Q, 0, none⟩)), .int .i64 ds[k].r.f, .int .i64 ds[k].r.w, .int .i64 ds[k].r.d] : Array Value).toList = eltW.pv ⟨0, Q, 69, F, ds[k].r⟩) := Lib.hid (fun _ _ => rfl)
      have HRW := Lib.hid (fun W (hW : Below W1.heap.size W1 W) => (hq1.below hW).row)
      have hwz := hq1.b.size
      have HX := Lib.hid (show wr.heap.size = wr.heap.size from rfl)
      have HW1 := Lib.hid hW1
      generalize ds[k].r.f = f at *
      generalize ds[k].r.w = wt at *
      generalize ds[k].r.d = df at *
      generalize ds[k].a = ia at *
      generalize ds[k].cap = ic at *
      by_cases hgd : Ff.Good ds[k].r.its
      · replace KO := Lib.hid (KO.out.mono (R' := fun e w' => ∃ Q, e = .returned (.tuple #[.pointer (some ⟨Q, 0, none⟩), .bool true]) ∧ Hid (∃ F, QIs w' W1.heap.size Q ds[k].r.its F ∧ Below W1.heap.size W1 w')) fun e w' hr => by
          rcases hr.r with ⟨_, Q, F, rfl, h⟩ | ⟨hn, _⟩
          · exact ⟨Q, rfl, Lib.hid ⟨F, h, hr.b⟩⟩
          · exact absurd hgd hn)
        generalize ds[k].r.its.length = N at *
        clear hst hq hb1 hbox hq1 hdk hlm hlr hgd hmem hW1 HX HNG
        go_upto_region 5 with fail
        rw [← HW1.out]
        obtain ⟨x0, x1, x2, x3⟩ := HBX.out _ (Below.refl _ _)
        go_wp2_with (first | (go_at_call 47; (with_reducible refine KO.out.mono ?_); rintro e wB ⟨Q, rfl, hB⟩; obtain ⟨y0, y1, y2, y3⟩ := HBX.out _ hB.out.choose_spec.2) | (at_builtin; (refine eltW.wpApp wB rfl _ _ rfl w.heap.size (.slice oa ns.length oc) ns rfl (HRW.out _ hB.out.choose_spec.2) #[.iface 69 (.pointer (some ⟨Q, 0, none⟩)), .int .i64 f, .int .i64 wt, .int .i64 df] _ rfl _ (HPV.out Q hB.out.choose) (by omega) (Nat.le_trans hwz hB.out.choose_spec.2.size) ?_); intro v2 w2 hown hb2 hkeep hlies; have HR2 := Lib.hid (HAP.out _ _ _ _ _ hB.out.choose_spec.2 hB.out.choose_spec.1 hown hb2 hkeep hlies); clear hown hb2 hkeep hlies))
        go_roundw
        case rel => exact ⟨k + 1, by omega, by go_num, Lib.hid ⟨_, HR2.out⟩⟩
        case measure => simp [intOf]; omega
      · replace KO := Lib.hid (KO.out.mono (R' := fun e w' => e = .returned (.tuple #[.pointer none, .bool false]) ∧ Hid (Below W1.heap.size W1 w')) fun e w' hr => by
          rcases hr.r with ⟨hy, _⟩ | ⟨_, rfl⟩
          · exact absurd hy hgd
          · exact ⟨rfl, Lib.hid hr.b⟩)
        have HNR := Lib.hid (HNG.out hgd)
        generalize ds[k].r.its.length = N at *
        clear hst hq hb1 hbox hq1 hdk hlm hlr hgd hmem hW1 HX HNG HAP
        go_upto_region 5 with fail
        rw [← HW1.out]
        obtain ⟨x0, x1, x2, x3⟩ := HBX.out _ (Below.refl _ _)
        go_wp2_with (go_at_call 47; (with_reducible refine KO.out.mono ?_); rintro e wB ⟨rfl, hB⟩)
        go_ret2
        exact ⟨Or.inr ⟨HNR.out, rfl⟩, HQ1.out.b.trans (hB.out.mono hwz)⟩
    · obtain rfl : k = ds.length := by omega
      obtain ⟨oa, oc, rfl, hfl⟩ := hq.fls (fun r hr => by obtain ⟨d, hd, rfl⟩ := List.mem_map.1 hr; exact HWF.out d hd)
      have hrs : ns.map (·.r) = ds.map DR.r := by rw [hq.rs]; exact List.take_of_length_le (by simp)
      have hnl : ns.length ≤ 1000 := by have := congrArg List.length hrs; simp at this; omega
      have K := robLoadC q g w.heap.size oa oc ns wr hfl hnl (fun n hn => by
        have : n.r ∈ ds.map DR.r := by rw [← hrs]; exact List.mem_map_of_mem hn
        obtain ⟨d, hd, e⟩ := List.mem_map.1 this
        rw [← e]; exact HIL.out d hd)
      have hsz := hq.b.size
      have hcb : ∀ W', Chg (fun k => ∃ n ∈ ns, n.F k) wr W' → Below w.heap.size w W' := fun W' hc => hq.b.trans (hc.below (fun j ⟨n, hn, hf⟩ => ((hq.q n hn).lt j hf).1) hsz)
      have HB := Lib.hid hcb
      by_cases hr : Fl.Right q g (ds.map DR.r)
      · have KR := Lib.hid (K.mono (R' := fun e w' => ∃ R, e = .returned (.tuple #[.pointer (some ⟨R, 0, none⟩), .bool true]) ∧ Hid (RetLo q g (ds.map DR.r) w (.returned (.tuple #[.pointer (some ⟨w'.heap.size, 0, none⟩), .bool true])) (w'.alloc (ringO R)))) fun e w' hx => by
          rcases hx.r with ⟨_, R, F, rfl, ⟨m, ms, x, y, h1, h2, h3⟩, h4⟩ | ⟨hn, _⟩
          · have hb : Below w'.heap.size w' (w'.alloc (ringO R)) := (Below.refl _ _).alloc (Nat.le_refl _) _
            have hbw := hcb _ hx.c
            exact ⟨R, rfl, Lib.hid ⟨Or.inl ⟨hr, w'.heap.size, _, rfl, R, m, ms, x, y, ⟨heap_alloc_new _ _, h1.below hb, fun hf => by have := (h1.lt _ hf).2; omega, hbw.size⟩, h2.trans hrs, fun k => Iff.rfl⟩, hbw.trans (hb.mono hbw.size)⟩⟩
          · rw [hrs] at hn; exact absurd hr hn)
        clear hst hq hfl hrs hnl K hcb hr
        go_wp2_with (go_at_call 48; (with_reducible refine KR.out.mono ?_); rintro e wB ⟨R, rfl, hB⟩)
        go_ret2
        exact hB.out
      · have KR := Lib.hid (K.mono (R' := fun e w' => e = .returned (.tuple #[.pointer none, .bool false]) ∧ Hid (RetLo q g (ds.map DR.r) w (.returned (.tuple #[.pointer none, .bool false])) w')) fun e w' hx => by
          rcases hx.r with ⟨hy, _⟩ | ⟨_, rfl⟩
          · rw [hrs] at hy; exact absurd hy hr
          · exact ⟨rfl, Lib.hid ⟨Or.inr ⟨hr, rfl⟩, hcb _ hx.c⟩⟩)
        clear hst hq hfl hrs hnl K hcb hr
        go_wp2_with (go_at_call 48; (with_reducible refine KR.out.mono ?_); rintro e wB ⟨rfl, hB⟩)
        go_ret2
        exact hB.out
end Go.Proofs.Ytgeoebodlcbebaa
