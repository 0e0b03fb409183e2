/-
  A ring of flows: New, Flows.
-/
import Derived.Test.YtgeoebodlcbebaaRobK
namespace Go.Proofs.Ytgeoebodlcbebaa
open Go.RowKit
open Rb (Nd)
set_option linter.unusedVariables false

/-- an empty ring of new blocks -/
structure RetNewR (q : Int) (w : World) (e : Ending) (w' : World) : Prop where
  s : ∃ R m x y, e = .returned (.pointer (some ⟨R, 0, none⟩)) ∧ RIn w' w.heap.size R m q false [] x y
  b : Below w.heap.size w w'
set_option maxRecDepth 100000 in
set_option maxHeartbeats 1000000 in
theorem robNewC (q : Int) (w : World) (h1 : 1 ≤ q) (h2 : q ≤ 64) : Calls Try.prog 25 #[.int .i64 q] w (RetNewR q w) := by
  have hfin : RetNewR q w (.returned (.pointer (some ⟨w.heap.size + 1, 0, none⟩))) ((w.alloc (.map #[] 0)).alloc (robO q w.heap.size (.pointer none) false)) := by
    have hz : (w.alloc (.map #[] 0)).heap.size = w.heap.size + 1 := by simp
    refine ⟨⟨w.heap.size + 1, w.heap.size, fun _ => 0, fun _ => 0, rfl, ⟨⟨?_, ?_, fun n hn => by simp at hn, by simp, by simp, fun n hn => by simp at hn⟩, ⟨fun n hn => by simp at hn, fun n hn => by simp at hn, fun n hn => by simp at hn, fun n hn => by simp at hn⟩, trivial, fun k hk => ?_⟩⟩, ((Below.refl _ _).alloc (Nat.le_refl _) _).alloc (by simp) _⟩
    · exact heap_alloc2_new w _ _
    · exact (MapL.made w).keep (Lib.alloc_old _ _ _ (by simp))
    · rcases hk with (e | e | e) | ⟨n, hn, _⟩
      · omega
      · omega
      · simp at e
      · simp at hn
  have H := Lib.hid hfin
  have hmm : (Instr.makeMap 95 none).run Try.prog w = .ok (.map (some w.heap.size)) (w.alloc (.map #[] 0)) := rfl
  have t1 : decide (q < 1) = false := decide_eq_false (by omega)
  have t2 : decide (q > 64) = false := decide_eq_false (by omega)
  clear hfin h1 h2
  go_enter Try.func25, Try.ntmps25
  go_wp2
  go_ret
  exact H.out
theorem robNewNil (q : Int) (w : World) (h : ¬ (1 ≤ q ∧ q ≤ 64)) : Calls Try.prog 25 #[.int .i64 q] w (Same (.pointer none) w) := by
  by_cases h1 : q < 1
  · have t1 : decide (q < 1) = true := decide_eq_true h1
    clear h h1
    go_enter Try.func25, Try.ntmps25
    go_wp2
    go_ret
    exact ⟨rfl, rfl⟩
  · have t1 : decide (q < 1) = false := decide_eq_false h1
    have t2 : decide (q > 64) = true := decide_eq_true (by omega)
    clear h h1
    go_enter Try.func25, Try.ntmps25
    go_wp2
    go_ret
    exact ⟨rfl, rfl⟩
/-- how a flow lies in a row -/
def eltW : Elt Try.prog Nd where
  st := 87
  e := 75
  z := .agg #[.nilIface, .int .i64 0, .int .i64 0, .int .i64 0]
  size := 4
  bytes := 40
  pv := fun n => [n.src, .int .i64 n.r.f, .int .i64 n.r.w, .int .i64 n.r.d]
  ht := Try.underlying87
  info := by kernel_rfl
  hz := rfl
  pos := by decide
  le := by decide
  len := fun _ => rfl
  one := fun s u hu => by simp at hu; rcases hu with rfl | rfl | rfl | rfl <;> rfl
/-- it returns a row of one's own of these links -/
structure RetFl (ns : List Nd) (w : World) (e : Ending) (w' : World) : Prop where
  r : ∃ v, e = .returned v ∧ eltW.Row w' w.heap.size v ns
  b : Below w.heap.size w w'
set_option maxRecDepth 100000 in
set_option maxHeartbeats 4000000 in
theorem flowsC (B R m : Nat) (q : Int) (g : Bool) (ns : List Nd) (x y : Nat → Nat) (w : World) (h : RIn w B R m q g ns x y) (hl : ns.length ≤ 1000000) :
    Calls Try.prog 44 #[.pointer (some ⟨R, 0, none⟩)] w (RetFl ns w) := by
  obtain ⟨_, c1, c2, _⟩ := h.r.cs
  have HM := Lib.hid h.r.map
  have HN : Hid ((((ns.map Nd.key).length : Nat) : Int) = ((ns.length : Nat) : Int)) := Lib.hid (by simp)
  have hrow0 : eltW.Row w w.heap.size (.slice none 0 0) [] := Elt.Row.nil w _
  have HROW := Lib.hid hrow0
  have HR := Lib.hid h
  obtain ⟨V, hV⟩ : ∃ V, V = visOf ns := ⟨_, rfl⟩
  rw [← hV] at c2
  have HV := Lib.hid hV
  clear h hrow0 hV
  go_enter Try.func44, Try.ntmps44
  go_wp2_with (at_len; refine wpLenR _ rfl _ rfl m _ rfl HM.out ?_; rw [HN.out])
  go_loopw [3, 4, 14] (fun u z i wr => ∃ a b : List Nd, ns = a ++ b ∧ i = .int .i64 ((a.length : Nat) : Int) ∧ (∀ n t, b = n :: t → z = .pointer (some ⟨n.b, 0, none⟩)) ∧ Hid (Below w.heap.size w wr ∧ eltW.Row wr w.heap.size u a)) (fun _ _ i _ => ns.length - (intOf i).toNat)
  case atStart => exact ⟨[], ns, rfl, rfl, fun n t e => by rw [HV.out, e]; rfl, Lib.hid ⟨Below.refl _ _, HROW.out⟩⟩
  case round =>
    obtain ⟨a, b, hab, rfl, hz, hst⟩ := hrel
    clear HROW c1 c2 HM HN
    obtain ⟨hb, hrow⟩ := hst.out
    obtain ⟨ad, cp, rfl⟩ := hrow.slice
    cases b with
    | nil =>
      have hla : ns.length = a.length := by rw [hab, List.append_nil]
      have HF : Hid (RetFl ns w (.returned (.slice ad a.length cp)) wr) := Lib.hid ⟨⟨_, rfl, by rw [hab, List.append_nil]; exact hrow⟩, hb⟩
      rw [hla]
      clear hst hb hrow hz
      go_wp2
      go_ret
      exact HF.out
    | cons n b =>
      obtain rfl := hz n b rfl
      have hmem : n ∈ ns := by rw [hab]; simp
      have hlt : a.length < ns.length := by rw [hab]; simp
      have hRr := HR.out.below (hb.mono (Nat.le_refl _))
      obtain ⟨d0, d1, d2, d3, _, _⟩ := hRr.r.nd6 hmem
      have hnx : ∀ n2 t, b = n2 :: t → x n.b = n2.b := fun n2 t e => by
        have := HR.out.ring
        rw [hab, e] at this
        rw [List.map_append, List.map_cons, List.map_cons] at this
        exact this.next
      have HNX := Lib.hid hnx
      have HB := Lib.hid hb
      have HBR := Lib.hid hrow
      have hB := hb.size
      have HAB := Lib.hid hab
      have hla : a.length ≤ 1000000 := by omega
      have HAFT := Lib.hid (fun W (hW : Below w.heap.size w W) => (show W.cell? ⟨n.b, 5, none⟩ = some (.pointer (some ⟨x n.b, 0, none⟩)) from ((HR.out.below hW).r.nd6 hmem).2.2.2.2.2))
      generalize x n.b = xn at *
      unfold Nd.src at d0
      have e1 : eltW.pv n = [.iface n.t (.pointer (some ⟨n.q, 0, none⟩)), .int .i64 n.r.f, .int .i64 n.r.w, .int .i64 n.r.d] := rfl
      have HE1 := Lib.hid e1
      generalize n.t = T at *
      generalize n.q = Q at *
      generalize n.r.f = f at *
      generalize n.r.w = wt at *
      generalize n.r.d = df at *
      clear hst hb hrow hmem hnx hRr hab e1 HV
      go_wp2_with (at_builtin; (refine eltW.wpApp wr rfl _ _ rfl w.heap.size (.slice ad a.length cp) a rfl HBR.out #[.iface T (.pointer (some ⟨Q, 0, none⟩)), .int .i64 f, .int .i64 wt, .int .i64 df] _ rfl n HE1.out.symm (by omega) hB ?_); intro v' w2 hown hb2 hkeep hlies; have e5 := HAFT.out w2 (HB.out.trans hb2))
      have hrow2 := Lib.hid (show Below w.heap.size w w2 ∧ eltW.Row w2 w.heap.size v' (a ++ [n]) from ⟨HB.out.trans hb2, hown⟩)
      go_roundw
      case rel => exact ⟨a ++ [n], b, by rw [HAB.out]; simp, by rw [List.length_append]; go_num, fun n2 t e => by rw [HNX.out n2 t e], hrow2⟩
      case measure => simp [intOf]; omega
end Go.Proofs.Ytgeoebodlcbebaa
