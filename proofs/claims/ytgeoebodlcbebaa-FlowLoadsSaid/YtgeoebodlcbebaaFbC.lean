/-
  robin's Load.
-/
import Derived.Test.YtgeoebodlcbebaaFbB
namespace Go.Proofs.Ytgeoebodlcbebaa
open Go.RowKit
open Rb (Nd)
set_option linter.unusedVariables false
set_option linter.unusedSimpArgs false

/-- a ring of these flows, or none -/
structure RetLd (q : Int) (g : Bool) (B : Nat) (ns : List Nd) (w : World) (e : Ending) (w' : World) : Prop where
  r : (Fl.Right q g (ns.map (·.r)) ∧ ∃ R F, e = .returned (.tuple #[.pointer (some ⟨R, 0, none⟩), .bool true]) ∧ RIs w' B R ⟨q, ns.map (·.r), g⟩ F ∧ ∀ k, F k → (∃ n ∈ ns, n.F k) ∨ w.heap.size ≤ k) ∨ (¬ Fl.Right q g (ns.map (·.r)) ∧ e = .returned (.tuple #[.pointer none, .bool false]))
  c : Chg (fun k => ∃ n ∈ ns, n.F k) w w'
set_option maxRecDepth 100000 in
theorem robLoadQ (q : Int) (g : Bool) (B : Nat) (a : Option Addr) (cap : Nat) (ns : List Nd) (w : World) (h : ¬ (1 ≤ q ∧ q ≤ 64)) :
    Calls Try.prog 48 #[.int .i64 q, .slice a ns.length cap, .bool g] w (RetLd q g B ns w) := by
  have K0 := Lib.hid (robNewNil q w h)
  have HN : Hid (¬ Fl.Right q g (ns.map (·.r))) := Lib.hid (fun hr => h hr.qu)
  clear h
  go_enter Try.func48, Try.ntmps48
  go_wp2_with (go_at_call 25; (with_reducible refine K0.out.mono ?_); rintro e wA ⟨rfl, rfl⟩)
  go_ret2
  exact ⟨Or.inr ⟨HN.out, rfl⟩, Chg.refl _ _⟩
set_option maxRecDepth 100000 in
theorem robLoadG (q : Int) (B : Nat) (a : Option Addr) (cap : Nat) (w : World) (h1 : 1 ≤ q) (h2 : q ≤ 64) :
    Calls Try.prog 48 #[.int .i64 q, .slice a 0 cap, .bool true] w (RetLd q true B [] w) := by
  have K0 := Lib.hid ((robNewC q w h1 h2).mono (R' := fun e w' => ∃ R, e = .returned (.pointer (some ⟨R, 0, none⟩)) ∧ Hid (Below w.heap.size w w')) fun e w' hr => by
    obtain ⟨R, m, x, y, rfl, h'⟩ := hr.s
    exact ⟨R, rfl, Lib.hid hr.b⟩)
  have HN : Hid (¬ Fl.Right q true []) := Lib.hid (fun hr => by have := hr.gv rfl; cases this)
  clear h1 h2
  go_enter Try.func48, Try.ntmps48
  go_wp2_with (go_at_call 25; (with_reducible refine K0.out.mono ?_); rintro e wA ⟨R, rfl, hA⟩)
  go_ret2
  exact ⟨Or.inr ⟨HN.out, rfl⟩, Chg.of_below hA.out⟩
theorem mostM {q wt : Int} (b : Bool) (h1 : 1 ≤ q) (h2 : q ≤ 64) (h3 : 1 ≤ wt) (h4 : wt ≤ 16) : (if b then wrap64 (64 + wrap64 (q * wt)) else 64) = Fl.mostOf q wt b := by
  have hm : q * wt ≤ 64 * 16 := Int.mul_le_mul h2 h4 (by omega) (by omega)
  have hp : 0 ≤ q * wt := Int.mul_nonneg (by omega) (by omega)
  unfold Fl.mostOf
  split
  · generalize q * wt = z at *
    unfold wrap64; omega
  · rfl
theorem right_at {q : Int} {g : Bool} {ns : List Nd} {k : Nat} (hk : k < ns.length) (hr : Fl.Right q g (ns.map (·.r))) : Fl.row ((ns.map (·.r)).take k) ns[k].r.f = none ∧ Fl.RowR q (g && decide (k = 0)) ns[k].r := by
  have hk' : k < (ns.map (fun z : Nd => z.r)).length := by simpa using hk
  have h1 := hr.pre.row hk'
  have h2 := hr.pre.ok k hk' hk'
  simp only [List.getElem_map] at h1 h2
  exact ⟨h1, h2⟩
theorem giveQ {w W : World} {B R m : Nat} {q : Int} {ns : List Nd} {x y : Nat → Nat} (h : RIn W B R m q false ns x y) (hR : w.heap.size ≤ R) {F : Nat → Prop} (hc : Chg F w W) (g : Bool) : RIn (W.setCell ⟨R, 3, none⟩ (.bool g)) B R m q g ns x y ∧ Chg F w (W.setCell ⟨R, 3, none⟩ (.bool g)) := by
  have h1 : GQ W (footG R m ns) B R m q (visOf ns) g ns (fun k => pB (x k)) (fun k => pB (y k)) (W.setCell ⟨R, 3, none⟩ (.bool g)) :=
    h.gq.own (h.r.giv g) ((Chg.refl (footR R m ns) W).setCell (p := ⟨R, 3, none⟩) (Or.inl (Or.inl rfl)) _)
  exact ⟨⟨h1.r, h1.qs, h.ring, h.lo⟩, hc.setCell (p := ⟨R, 3, none⟩) (Or.inr hR) _⟩
set_option maxRecDepth 100000 in
set_option maxHeartbeats 16000000 in
theorem robLoadAt (q : Int) (g : Bool) (B : Nat) (a : Option Addr) (cap : Nat) (ns : List Nd) (w : World) (h : FlsAt w B a ns) (hl : ns.length ≤ 1000) (hil : ∀ n ∈ ns, n.r.its.length ≤ 1000) (h1 : 1 ≤ q) (h2 : q ≤ 64) (hg : ns = [] → g = false) :
    Calls Try.prog 48 #[.int .i64 q, .slice a ns.length cap, .bool g] w (RetLd q g B ns w) := by
  have K0 := Lib.hid ((robNewC q w h1 h2).mono (R' := fun e w' => ∃ R, e = .returned (.pointer (some ⟨R, 0, none⟩)) ∧ Hid (∃ m ms x y, LdQ w B R m q g ns 0 ms x y w')) fun e w' hr => by
    obtain ⟨R, m, x, y, rfl, h'⟩ := hr.s
    exact ⟨R, rfl, Lib.hid ⟨m, [], x, y, h'.base h.b, by simp, fun j hj => h'.lo j (Or.inl hj), Chg.of_below hr.b, Fl.Pre.zero _ _ _⟩⟩)
  have HA := Lib.hid h
  have HG := Lib.hid hg
  have HIL := Lib.hid hil
  have HQ : Hid (1 ≤ q ∧ q ≤ 64) := Lib.hid ⟨h1, h2⟩
  clear h hg hil h1 h2
  go_enter Try.func48, Try.ntmps48
  go_upto_region 2 with (go_at_call 25; (with_reducible refine K0.out.mono ?_); rintro e wA ⟨R, rfl, hA⟩)
  clear K0
  go_cut [25] from 16 to 25 (fun s wx => s = .bool false ∧ wx = wA)
  case first =>
    cases g with
    | false =>
      go_wp2
      go_meet
      exact ⟨rfl, rfl⟩
    | true =>
      have t1 : (((ns.length : Nat) : Int) == 0) = false := by
        have : ns ≠ [] := fun e => by have := HG.out e; cases this
        have := List.length_pos_iff.2 this
        simp; omega
      go_wp2
      go_meet
      exact ⟨rfl, rfl⟩
  case rest =>
    obtain ⟨rfl, rfl⟩ := hcut
    go_wp2
    go_loopw [28] (fun i wr => ∃ k : Nat, k ≤ ns.length ∧ i = .int .i64 (k : Int) ∧ Hid (∃ m ms x y, LdQ w B R m q g ns k ms x y wr)) (fun i _ => ns.length - (intOf i).toNat)
    case atStart => exact ⟨0, by omega, rfl, hA⟩
    case round =>
      obtain ⟨k, hk, rfl, hst⟩ := hrel
      clear hA
      obtain ⟨m, ms, x, y, hq⟩ := hst.out
      by_cases hlt : k < ns.length
      · obtain ⟨gR, off, rfl, hgR, hc⟩ := flows_at HA.out.v (by omega)
        obtain ⟨e0, e1, e2, e3⟩ := hc k hlt
        have hrw := hq.row HA.out hgR rfl
        have hmem := List.getElem_mem hlt
        rw [HA.out.t _ hmem] at e0
        have d0 := (cell_eq' hrw _).trans e0
        have d1 := (cell_eq' hrw _).trans e1
        have d2 := (cell_eq' hrw _).trans e2
        have d3 := (cell_eq' hrw _).trans e3
        clear e0 e1 e2 e3 hrw hc
        obtain ⟨W1, hW1⟩ : ∃ W1, W1 = wr.alloc (flO ns[k]) := ⟨_, rfl⟩
        have hb1 : Below wr.heap.size wr W1 := by rw [hW1]; exact (Below.refl _ _).alloc (Nat.le_refl _) _
        have hbox : W1.heap[wr.heap.size]? = some (flO ns[k]) := by rw [hW1]; exact heap_alloc_new _ _
        have HQ1 := Lib.hid (hq.below hb1)
        have hrows := core_rows hq.c
        have HBX := Lib.hid (fun W (hW : Below W1.heap.size W1 W) => fl_cells ((hW.block _ (lt_block hbox)).trans hbox))
        have HCH : Hid (∀ W, Below W1.heap.size W1 W → Chg (fun j => ∃ n ∈ ns, n.F j) w W) := Lib.hid (fun W hW => (HQ1.out.ch.mono (fun j ⟨n, hn, hf⟩ => Or.inl ⟨n, List.mem_of_mem_take hn, hf⟩)).then hW)
        have KFT := Lib.hid (fun W (hW : Below W1.heap.size W1 W) => fitsC B R ⟨q, ms.map (·.r), false⟩ (footG R m ms) ns[k].r.f ns[k].r.w W ⟨m, ms, x, y, HQ1.out.r.below hW, rfl, fun _ => Iff.rfl⟩ (HA.out.wf _ hmem))
        have KLN := Lib.hid (fun W (hW : Below W1.heap.size W1 W) => lenC B ns[k].q ns[k].r.its ns[k].F W (((HQ1.out).below hW).queue HA.out hlt) (by have := HIL.out _ hmem; omega))
        have HNK : Hid (Fl.Right q g (ns.map (·.r)) → Fl.row (ms.map (·.r)) ns[k].r.f = none ∧ 0 ≤ ns[k].r.f ∧ (1 ≤ ns[k].r.w ∧ ns[k].r.w ≤ 16) ∧ (0 ≤ ns[k].r.d ∧ ns[k].r.d ≤ Fl.mostOf q ns[k].r.w (g && decide (k = 0))) ∧ ns[k].r.its ≠ []) := Lib.hid (fun hr => by
          rw [hrows]
          obtain ⟨e0, e1⟩ := right_at hlt hr
          exact ⟨e0, e1.f, e1.w, e1.d, e1.ne⟩)
        have KAP := Lib.hid (fun (hrow : Fl.row ((ns.map (·.r)).take k) ns[k].r.f = none) (h0 : 0 ≤ ns[k].r.f) (h1 : 1 ≤ ns[k].r.w ∧ ns[k].r.w ≤ 16) (h2 : 0 ≤ ns[k].r.d ∧ ns[k].r.d ≤ Fl.mostOf q ns[k].r.w (g && decide (k = 0))) (h3 : ns[k].r.its ≠ []) W (hW : Below W1.heap.size W1 W) => ld_append (HQ1.out.below hW) HA.out hlt hl hrow ⟨h0, h1, h2, h3⟩)
        rw [← hrows] at KAP
        have hm1 := run_mLen ns[k].q
        simp only [Try.types_size, Made.depth, Nat.reduceAdd] at hm1
        have KFY := Lib.hid (fun n (hn : n ∈ ms) => flowYes R m _ _ _ ms _ _ n W1 HQ1.out.r.r hn)
        have KFN := Lib.hid (fun (hno : ∀ n ∈ ms, n.r.f ≠ ns[k].r.f) => flowNo R m _ _ _ ms _ _ ns[k].r.f W1 HQ1.out.r.r (HA.out.wf _ hmem) hno)
        have HMO := Lib.hid (fun (hw : 1 ≤ ns[k].r.w ∧ ns[k].r.w ≤ 16) => mostM (q := q) (wt := ns[k].r.w) (g && decide (k = 0)) HQ.out.1 HQ.out.2 hw.1 hw.2)
        have ht := HA.out.t _ hmem
        have HFT : Hid (Fl.row (ms.map (·.r)) ns[k].r.f = none → ¬ (ns[k].r.f < 0 ∨ ns[k].r.w < 1 ∨ ns[k].r.w > 16) → fits (ms.map (·.r)) ns[k].r.f ns[k].r.w = true) := Lib.hid (fun hr hn => fits_ok hn (Or.inl hr))
        have HFF : Hid ((ns[k].r.f < 0 ∨ ns[k].r.w < 1 ∨ ns[k].r.w > 16) → fits (ms.map (·.r)) ns[k].r.f ns[k].r.w = false) := Lib.hid (fun hn => fits_bad (Or.inl hn))
        unfold flO at hW1
        unfold Nd.src at hW1 HBX
        rw [ht] at hW1 HBX
        unfold flV Nd.src at KAP KFY
        rw [ht] at KAP
        have HW1 := Lib.hid hW1
        have hkg : Hid (((k : Nat) : Int) = ((k : Nat) : Int)) := Lib.hid rfl
        generalize ns[k] = nk at *
        generalize nk.r.f = f at *
        generalize nk.r.w = wt at *
        generalize nk.r.d = df at *
        generalize nk.r.its = its at *
        generalize nk.F = Fk at *
        generalize nk.q = Q at *
        clear hst hq hb1 hbox hrows hmem ht hkg hW1
        obtain ⟨X, hX⟩ : ∃ X, X = wr.heap.size := ⟨_, rfl⟩
        rw [← hX] at HBX
        have HX := Lib.hid hX
        clear hX
        go_upto_region 8 with fail
        rw [← HX.out]
        rw [← HW1.out]
        obtain ⟨x0, x1, x2, x3⟩ := HBX.out _ (Below.refl _ _)
        go_cut [37] from 33 to 37 (fun s wx => s = .bool (g && decide (k = 0)) ∧ wx = W1)
        case first =>
          cases g with
          | false =>
            go_wp2
            go_meet
            exact ⟨rfl, rfl⟩
          | true =>
            have t1 : (((k : Nat) : Int) == 0) = decide (k = 0) := by by_cases h : k = 0 <;> simp [h]
            go_wp2
            go_meet
            exact ⟨by simp, rfl⟩
        case rest =>
          obtain ⟨rfl, e⟩ := hcut
          rw [e]
          clear e
          generalize (g && decide (k = 0)) = bb at *
          go_upto_if 37 with fail
          go_cut [11] from 38 to 43 (fun s wx => s = .int .i64 (if bb then wrap64 (64 + wrap64 (q * wt)) else 64) ∧ wx = W1)
          case first =>
            cases bb with
            | false =>
              go_wp2
              go_meet
              exact ⟨rfl, rfl⟩
            | true =>
              go_wp2
              go_meet
              exact ⟨by first | rfl | (simp; done), rfl⟩
          case rest =>
            obtain ⟨rfl, e⟩ := hcut
            rw [e]
            clear e
            generalize (if bb then wrap64 (64 + wrap64 (q * wt)) else 64) = M at *
            cases hrow : Fl.row (ms.map (·.r)) f with
            | some r2 =>
              obtain ⟨n, hn, e1, e2⟩ := node_of rfl hrow
              have KF := Lib.hid (KFY.out n hn)
              rw [e2] at KF
              have HNR : Hid (¬ Fl.Right q g (ns.map (·.r))) := Lib.hid (fun hr => by rw [hrow] at HNK; have := (HNK.out hr).1; cases this)
              generalize n.t = T2 at *
              generalize n.q = Q2 at *
              generalize n.r.w = w2 at *
              generalize n.r.d = d2 at *
              clear hrow hn e1 e2 KFY KFN KFT KLN KAP HNK HMO HFT HFF
              go_wp2_with (first | (go_at_call 34; (with_reducible refine KF.out.mono ?_); rintro e wB ⟨rfl, hB⟩; have hW2 := Lib.hid (hB.alloc hB.size (.cells #[.iface T2 (.pointer (some ⟨Q2, 0, none⟩)), .int .i64 f, .int .i64 w2, .int .i64 d2] 75)); obtain ⟨y0, y1, y2, y3⟩ := HBX.out _ hW2.out))
              go_ret2
              exact ⟨Or.inr ⟨HNR.out, rfl⟩, HCH.out _ hW2.out⟩
            | none =>
              replace KFN := Lib.hid (KFN.out (node_no rfl hrow))
              replace HFT := HFT.out hrow
              replace KAP := Lib.hid (KAP.out hrow)
              by_cases hbad : f < 0 ∨ wt < 1 ∨ wt > 16
              · rw [HFF.out hbad] at KFT
                have HNR : Hid (¬ Fl.Right q g (ns.map (·.r))) := Lib.hid (fun hr => by have := HNK.out hr; omega)
                clear hrow hbad KFY KLN KAP HNK HMO HFT HFF
                go_wp2_with (first | (go_at_call 34; (with_reducible refine KFN.out.mono ?_); rintro e wB ⟨rfl, hB⟩; have hW2 := Lib.hid (hB.alloc hB.size (.cells #[.nilIface, .int .i64 0, .int .i64 0, .int .i64 0] 75)); obtain ⟨y0, y1, y2, y3⟩ := HBX.out _ hW2.out) | (go_at_call 35; (with_reducible refine (KFT.out _ hW2.out).mono ?_); rintro e wC ⟨rfl, hC⟩; have hW3 := Lib.hid (hW2.out.trans (hC.mono hW2.out.size)); obtain ⟨z0, z1, z2, z3⟩ := HBX.out _ hW3.out))
                go_ret2
                exact ⟨Or.inr ⟨HNR.out, rfl⟩, HCH.out _ hW3.out⟩
              · rw [HFT hbad] at KFT
                have hM := HMO.out (by omega)
                replace KAP := Lib.hid (KAP.out (by omega) (by omega))
                rw [← hM] at KAP
                by_cases hd : df < 0
                · have t1 : decide (df < 0) = true := decide_eq_true hd
                  have HNR : Hid (¬ Fl.Right q g (ns.map (·.r))) := Lib.hid (fun hr => by have := HNK.out hr; omega)
                  clear hrow hbad KFY KLN KAP HNK HMO HFT HFF hd hM
                  go_wp2_with (first | (go_at_call 34; (with_reducible refine KFN.out.mono ?_); rintro e wB ⟨rfl, hB⟩; have hW2 := Lib.hid (hB.alloc hB.size (.cells #[.nilIface, .int .i64 0, .int .i64 0, .int .i64 0] 75)); obtain ⟨y0, y1, y2, y3⟩ := HBX.out _ hW2.out) | (go_at_call 35; (with_reducible refine (KFT.out _ hW2.out).mono ?_); rintro e wC ⟨rfl, hC⟩; have hW3 := Lib.hid (hW2.out.trans (hC.mono hW2.out.size)); obtain ⟨z0, z1, z2, z3⟩ := HBX.out _ hW3.out))
                  go_ret2
                  exact ⟨Or.inr ⟨HNR.out, rfl⟩, HCH.out _ hW3.out⟩
                · have t1 : decide (df < 0) = false := decide_eq_false hd
                  by_cases hm : df > M
                  · have t2 : decide (df > M) = true := decide_eq_true hm
                    have HNR : Hid (¬ Fl.Right q g (ns.map (·.r))) := Lib.hid (fun hr => by have := HNK.out hr; omega)
                    clear hrow hbad KFY KLN KAP HNK HMO HFT HFF hd hm hM
                    go_wp2_with (first | (go_at_call 34; (with_reducible refine KFN.out.mono ?_); rintro e wB ⟨rfl, hB⟩; have hW2 := Lib.hid (hB.alloc hB.size (.cells #[.nilIface, .int .i64 0, .int .i64 0, .int .i64 0] 75)); obtain ⟨y0, y1, y2, y3⟩ := HBX.out _ hW2.out) | (go_at_call 35; (with_reducible refine (KFT.out _ hW2.out).mono ?_); rintro e wC ⟨rfl, hC⟩; have hW3 := Lib.hid (hW2.out.trans (hC.mono hW2.out.size)); obtain ⟨z0, z1, z2, z3⟩ := HBX.out _ hW3.out))
                    go_ret2
                    exact ⟨Or.inr ⟨HNR.out, rfl⟩, HCH.out _ hW3.out⟩
                  · have t2 : decide (df > M) = false := decide_eq_false hm
                    replace KAP := Lib.hid (KAP.out (by omega))
                    cases its with
                    | nil =>
                      have HNR : Hid (¬ Fl.Right q g (ns.map (·.r))) := Lib.hid (fun hr => (HNK.out hr).2.2.2.2 rfl)
                      clear hrow hbad KFY KAP HNK HMO HFT HFF hd hm hM
                      go_wp2_with (first | (go_at_call 34; (with_reducible refine KFN.out.mono ?_); rintro e wB ⟨rfl, hB⟩; have hW2 := Lib.hid (hB.alloc hB.size (.cells #[.nilIface, .int .i64 0, .int .i64 0, .int .i64 0] 75)); obtain ⟨y0, y1, y2, y3⟩ := HBX.out _ hW2.out) | (go_at_call 35; (with_reducible refine (KFT.out _ hW2.out).mono ?_); rintro e wC ⟨rfl, hC⟩; have hW3 := Lib.hid (hW2.out.trans (hC.mono hW2.out.size)); obtain ⟨z0, z1, z2, z3⟩ := HBX.out _ hW3.out) | (go_at_call 33; (with_reducible refine (KLN.out _ hW3.out).mono ?_); rintro e wD ⟨rfl, rfl⟩))
                      go_ret2
                      exact ⟨Or.inr ⟨HNR.out, rfl⟩, HCH.out _ hW3.out⟩
                    | cons it0 its =>
                      have t3 : ((((it0 :: its).length : Nat) : Int) == 0) = false := by simp; omega
                      replace KAP := Lib.hid (KAP.out (by simp))
                      generalize (it0 :: its).length = N at *
                      clear hrow hbad KFY HNK HMO HFT HFF hd hm hM
                      go_wp2_with (first | (go_at_call 34; (with_reducible refine KFN.out.mono ?_); rintro e wB ⟨rfl, hB⟩; have hW2 := Lib.hid (hB.alloc hB.size (.cells #[.nilIface, .int .i64 0, .int .i64 0, .int .i64 0] 75)); obtain ⟨y0, y1, y2, y3⟩ := HBX.out _ hW2.out) | (go_at_call 35; (with_reducible refine (KFT.out _ hW2.out).mono ?_); rintro e wC ⟨rfl, hC⟩; have hW3 := Lib.hid (hW2.out.trans (hC.mono hW2.out.size)); obtain ⟨z0, z1, z2, z3⟩ := HBX.out _ hW3.out) | (go_at_call 33; (with_reducible refine (KLN.out _ hW3.out).mono ?_); rintro e wD ⟨rfl, rfl⟩) | (go_at_call 38; (with_reducible refine (KAP.out _ hW3.out).mono ?_); rintro e wE ⟨rfl, hE⟩))
                      go_roundw
                      case rel => exact ⟨k + 1, by omega, by go_num, Lib.hid ⟨m, hE.out⟩⟩
                      case measure => simp [intOf]; omega
      · obtain rfl : k = ns.length := by omega
        have hR := hq.lo R (Or.inl rfl)
        obtain ⟨g1, g2⟩ := giveQ hq.r hR (hq.ch.mono (fun j ⟨n, hn, hf⟩ => Or.inl ⟨n, List.mem_of_mem_take hn, hf⟩)) (F := fun j => ∃ n ∈ ns, n.F j) g
        have HF : Hid (RetLd q g B ns w (.returned (.tuple #[.pointer (some ⟨R, 0, none⟩), .bool true])) (wr.setCell ⟨R, 3, none⟩ (.bool g))) := Lib.hid (by
          have hpre := hq.pre
          refine ⟨Or.inl ⟨⟨HQ.out, fun e => HG.out (by simpa using e), fun r hr => ?_, by simpa using hpre⟩, R, _, rfl, ⟨m, ms, x, y, g1, ?_, fun _ => Iff.rfl⟩, fun j hj => ?_⟩, g2⟩
          · obtain ⟨n, hn, rfl⟩ := List.mem_map.1 hr
            exact (HA.out.q n hn).good
          · have := core_rows hq.c
            rw [this]; exact List.take_of_length_le (by simp)
          · rcases hj with e | ⟨n, hn, e⟩
            · exact Or.inr (hq.lo j e)
            · obtain ⟨n', hn', e'⟩ := core_mem hq.c hn
              rw [← e'] at e
              exact Or.inl ⟨n', List.mem_of_mem_take hn', e⟩)
        obtain ⟨_, _, _, c3⟩ := hq.r.r.cs
        have c4 := hq.r.r.fr 3
        clear hst hq g1 g2 hR
        go_wp2
        go_ret2
        exact HF.out
end Go.Proofs.Ytgeoebodlcbebaa
