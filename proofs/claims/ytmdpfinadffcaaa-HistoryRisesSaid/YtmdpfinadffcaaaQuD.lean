/-
  Place and Of: where there is an answer. The buckets are traversed by ranging over a function.
-/
import Derived.Test.YtmdpfinadffcaaaQuC
namespace Go.Proofs.Ytmdpfinadffcaaa
open Go.RowKit Go.Shelf
set_option linter.unusedVariables false
attribute [local go_sem] Oper.semAt_some

/-- what is so of what has come, where a round has said 'no more' -/
structure Left (l : List Int) (X : Int) (pre : List Bk) (x : Bk) : Prop where
  last : ∃ q, pre = q ++ [x] ∧ ∀ y ∈ q, 100 * Hi.tot (l.take (y.1 + 1)) < X
  enough : X ≤ 100 * Hi.tot (l.take (x.1 + 1))
theorem Left.place {l : List Int} {p : Int} {pre : List Bk} {x : Bk} (h : Left l (Hi.tot l * p) pre x) (hp : PartB pre) : Qu.IsPlace l p x.1 := by
  obtain ⟨q, rfl, hq⟩ := h.last
  obtain ⟨k, hk, e⟩ := hp
  rw [List.map_append, List.range_succ] at e
  obtain ⟨e1, e2⟩ := List.append_inj' e rfl
  have e3 : x.1 = k := by simpa using e2
  refine ⟨x.2, h.enough, fun j hj => ?_⟩
  have hm : j ∈ q.map (·.1) := by rw [e1]; exact List.mem_range.2 (by omega)
  obtain ⟨y, hy, rfl⟩ := List.mem_map.1 hm
  exact hq y hy
theorem all_not {l : List Int} {p : Int} (hl : l.length = 16) (hg : Qu.Good l p) {xs : List Bk} (hx : AllB xs) (h : ∀ y ∈ xs, 100 * Hi.tot (l.take (y.1 + 1)) < Hi.tot l * p) : False := by
  have hm : 15 ∈ xs.map (·.1) := by rw [hx]; decide
  obtain ⟨y, hy, e⟩ := List.mem_map.1 hm
  have h1 := h y hy
  rw [e, List.take_of_length_le (by omega)] at h1
  have := hg.prod
  omega

set_option maxRecDepth 100000 in
set_option maxHeartbeats 2000000 in
theorem placeYes (l : List Int) (hl : l.length = 16) (p : Int) (b : Nat) (hg : Qu.Good l p) (hb : Qu.IsPlace l p b) (w : World) :
    Calls Try.prog 48 #[.agg (Hi.cells l), .int .i64 p] w (Ret (.tuple #[.int .i64 (b : Int), .bool true]) w) := by
  have Q0 := Lib.hid (PlQ.new hl p w)
  have CR := Lib.hid (fun W => rightC l hl W)
  rw [hg.ok] at CR
  have CT := Lib.hid (fun W => totalC l hl (Hi.small.wide (Hi.ok_iff.1 hg.ok).1) W)
  have HP := Lib.hid hg.prod
  have HG := Lib.hid hg
  have HB := Lib.hid hb
  have HS := Lib.hid (fun k => Qu.ok_take hg.ok k)
  obtain ⟨t1, t2, t3, t4⟩ := hg.prod
  have p1 := hg.lo
  have p2 := hg.hi
  clear hg hb
  obtain ⟨T, hT⟩ : ∃ T, T = Hi.tot l := ⟨_, rfl⟩
  rw [← hT] at CT t1 t2 t3 t4
  have HT := Lib.hid hT; clear hT
  have f1 : (T == 0) = false := by simp; omega
  refine (callsIn_wide (n := 3)).1 ?_
  refine callsIn_of_wp_marks Try.func48 rfl trivial ?_
  simp only [Try.ntmps48, List.size_toArray, List.length_cons, List.length_nil, Nat.reduceAdd, Nat.reduceSub, Array.replicate_succ, Array.replicate_zero, List.push_toArray, List.append_toArray, List.nil_append, List.cons_append]
  gi_wp2_with (first
    | (refine loadIn Q0.out.h _ rfl rfl rfl ?_)
    | (refine ⟨trivial, ?_⟩; gi_at_call 38; refine (callsIn_wide.2 (CR.out _)).mono ?_; rintro e w1 ⟨rfl, hb1⟩; replace Q0 := Lib.hid (Q0.out.next hb1); clear hb1; have c0 := Q0.out.p)
    | (refine ⟨trivial, ?_⟩; gi_at_call 39; refine (callsIn_wide.2 (CT.out _)).mono ?_; rintro e w2 ⟨rfl, hb1⟩; clear c0; replace Q0 := Lib.hid (Q0.out.next hb1); clear hb1; have Q1 := Lib.hid (Q0.out.alloc (.cells #[.int .i64 T] 3)))
    | (refine loadIn Q1.out.h _ rfl rfl rfl ?_)
    | (refine ⟨trivial, ?_⟩; gi_at_call 57; refine (callsIn_wide.2 (sumsC l _)).mono ?_; rintro e w3 ⟨rfl, rfl⟩))
  have Q2 := Q1.out.alloc (boxH l)
  have B2 : Bx ((w2.alloc (.cells #[.int .i64 T] 3)).alloc (boxH l)) (w2.heap.size + 1) l := by
    have := Bx.new (w2.alloc (.cells #[.int .i64 T] 3)) hl
    rwa [alloc_size] at this
  have T2 : ((w2.alloc (.cells #[.int .i64 T] 3)).alloc (boxH l)).cell? ⟨w2.heap.size, 0, none⟩ = some (.int .i64 T) := by go_simp
  have N2 : w2.heap.size + 2 = ((w2.alloc (.cells #[.int .i64 T] 3)).alloc (boxH l)).heap.size := by simp
  have M2 := Q0.out.n
  generalize (w2.alloc (.cells #[.int .i64 T] 3)).alloc (boxH l) = W0 at *
  generalize w2.heap.size = g at *
  clear Q0 Q1 CR CT
  refine wpIn_rangeFunc_ownF rfl (by omega) (gf := 58) (lb := #[.pointer (some ⟨g + 1, 0, none⟩)]) rfl trivial (enters_of Try.func58 (by kernel_rfl) rfl)
    (sums1_stops Fence.wide (3 - 1) trivial rfl (by omega) (g + 1) l HG.out.ok W0 B2) walksK_t walksK_b (Below.refl _ _) (fun _ => rfl)
    (fun pre W => (∀ y ∈ pre, 100 * Hi.tot (l.take (y.1 + 1)) < T * p) ∧ Below W0.heap.size W0 W)
    (fun c pre W => c = .ret ∧ ∃ x, Left l (T * p) pre x ∧ PlQ w l p x.1 true W)
    (fun s A B row hs hg hr => ⟨hs.1, ownFrom_below (β := Unit) (Nat.le_refl _) (Nat.le_refl _) () A B row hs.2 hg hr⟩)
    ?hIx ⟨by simp, Below.refl _ _⟩ ?a1 ?assign ?body ?done ?stop
  case hIx =>
    rintro c s A B row ⟨hc, x, hx, hq⟩ hg hr
    exact ⟨hc, x, hx, hq.near ((Below.refl _ A).grown hg hq.n (fun k e => by have := (hr k e).1; omega))⟩
  case assign =>
    intro l' x W K hK
    gi_wp2
    exact hK
  case body =>
    rintro l' pre x W ⟨hpre, hbW⟩ _
    have Q3 := Q2.near (hbW.mono (by omega))
    have c0 := Q3.p
    have c1 := Q3.r
    have c2 := Q3.fr
    have c3 := Q3.o
    have c4 := Q3.fo
    have c5 : W.cell? ⟨g, 0, none⟩ = some (.int .i64 T) := ((below_cells hbW g (by omega)).1 0).trans T2
    obtain ⟨s1, s2⟩ := HS.out (x.1 + 1)
    obtain ⟨s, hs⟩ : ∃ s, s = Hi.tot (l.take (x.1 + 1)) := ⟨_, rfl⟩
    rw [← hs] at s1 s2 ⊢
    have HSX := Lib.hid hs; clear hs
    have hpre := Lib.hid hpre
    by_cases hx : T * p ≤ 100 * s
    · gi_wp2
      exact ⟨(KeepsOthers.setCell _ _ _).trans (KeepsOthers.setCell _ _ _), rfl, x, ⟨⟨pre, rfl, hpre.out⟩, by rw [← HSX.out]; exact hx⟩, (Q3.setR _).setO _⟩
    · have hall : ∀ y ∈ pre ++ [x], 100 * Hi.tot (l.take (y.1 + 1)) < T * p := fun y hy => (List.mem_append.1 hy).elim (hpre.out y) (fun e => by rw [List.mem_singleton.1 e, ← HSX.out]; omega)
      replace hall := Lib.hid hall
      gi_wp2
      refine ⟨KeepsOthers.refl _, (KeepsOthers.refl _).walks, ?_, hbW⟩
      exact fun a b h => hall.out ⟨a, b⟩ h
  case done =>
    rintro D xs W hD hxs ⟨h, _⟩ hK
    rw [HT.out] at h
    exact (all_not hl HG.out hxs h).elim
  case stop =>
    rintro D c pre W hD hpre ⟨rfl, x, hx, hq⟩ hK
    rw [HT.out] at hx
    have hpl := hx.place hpre
    have he : x.1 = b := Nat.le_antisymm (hpl.mono HG.out.ok HB.out (Int.le_refl _)) (HB.out.mono HG.out.ok hpl (Int.le_refl _))
    rw [he] at hq
    have hq2 := hq.near (belowK_b (w := W0) (n₀ := w.heap.size + 4) (by omega) W D _ (.deferred none) (by omega) hK rfl rfl)
    have r1 := hq2.r
    have r2 := hq2.o
    gi_wp2
    refine ⟨by simp, .inl ⟨_, _, rfl, run_takeDeferred hK, ?_⟩⟩
    refine ⟨.tuple #[.int .i64 (b : Int), .bool true], ?_, rfl, hq2.b⟩
    simp [results, Try.f48, go_sem, r1, r2]

set_option maxRecDepth 100000 in
theorem ofYes (l : List Int) (hl : l.length = 16) (p : Int) (b : Nat) (hg : Qu.Good l p) (hb : Qu.IsPlace l p b) (w : World) :
    Calls Try.prog 28 #[.agg (Hi.cells l), .int .i64 p] w (Ret (.tuple #[.int .u64 (Hi.high (b : Nat)), .bool true]) w) := by
  have B0 := Lib.hid (Bx.new w hl)
  have W0 := Lib.hid ((Below.refl w.heap.size w).alloc (Nat.le_refl _) (boxH l))
  have CP := Lib.hid (fun W => placeYes l hl p b hg hb W)
  have CH := Lib.hid (fun W => highC (b : Nat) W)
  clear hg hb
  go_enter Try.func28, Try.ntmps28
  go_wp2_with (first
    | (refine loadB B0.out _ rfl rfl rfl ?_)
    | (go_at_call 48; (with_reducible refine (CP.out _).mono ?_); rintro e w1 ⟨rfl, hb1⟩; replace W0 := Lib.hid (W0.out.trans (hb1.mono W0.out.size)); clear hb1)
    | (go_at_call 49; (with_reducible refine (CH.out _).mono ?_); rintro e w2 ⟨rfl, rfl⟩))
  go_ret2
  exact ⟨rfl, W0.out⟩
end Go.Proofs.Ytmdpfinadffcaaa
