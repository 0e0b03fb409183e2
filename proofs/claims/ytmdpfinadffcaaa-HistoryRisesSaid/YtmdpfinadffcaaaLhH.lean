/-
  A table: New; Keys.
-/
import Derived.Test.YtmdpfinadffcaaaLhG
import Derived.Test.YtmdpfinadffcaaaRowsG
import Derived.Deep.RegionLaw
import Derived.Carry
import Derived.LaidEqlPtr
namespace Go.Proofs.Ytmdpfinadffcaaa
open Go.RowKit
open Lr (Nd)
set_option linter.unusedVariables false

/-- how a string lies in a row -/
def eltS : Elt Try.prog ByteArray where
  st := 91
  e := 9
  z := .string .empty
  size := 1
  bytes := 16
  pv := fun s => [.string s]
  ht := Try.underlying91
  info := by kernel_rfl
  hz := rfl
  pos := by decide
  le := by decide
  len := fun _ => rfl
  one := fun s u hu => by simp at hu; subst hu; rfl

theorem newBad (room : Int) (w : World) (h : room < 1) : Calls Try.prog 15 #[.int .i64 room] w (Same (.pointer none) w) := by
  go_enter Try.func15, Try.ntmps15
  go_wp2
  go_ret
  exact ⟨rfl, rfl⟩
set_option maxRecDepth 100000 in
theorem newC (room : Int) (w : World) (h : ¬ room < 1) : Calls Try.prog 15 #[.int .i64 room] w fun e w' => ∃ P F, e = .returned (.pointer (some ⟨P, 0, none⟩)) ∧ TIs w' w.heap.size P room [] F ∧ Below w.heap.size w w' := by
  have hb0 : Below w.heap.size w (w.alloc (.map #[] 0)) := (Below.refl _ _).alloc (Nat.le_refl _) _
  have hm0 : MapL (w.alloc (.map #[] 0)) w.heap.size [] := MapL.made w
  have K := Lib.hid ((newListC (w.alloc (.map #[] 0))).mono (R' := fun e wA => ∃ r, e = .returned (.pointer (some ⟨r, 0, none⟩)) ∧ Hid (TIs (wA.alloc (.cells #[.int .i64 room, .map (some w.heap.size), .pointer (some ⟨r, 0, none⟩)] 69)) w.heap.size wA.heap.size room [] (foot wA.heap.size w.heap.size r []) ∧ Below w.heap.size w (wA.alloc (.cells #[.int .i64 room, .map (some w.heap.size), .pointer (some ⟨r, 0, none⟩)] 69)))) fun e wA hr => by
    obtain ⟨rfl, h1, h2⟩ := hr
    have hz : w.heap.size < (w.alloc (.map #[] 0)).heap.size := by simp
    have hz2 := h2.size
    refine ⟨_, rfl, Lib.hid ⟨⟨_, _, [], ⟨heap_alloc_new wA _, ?_, ?_, fun n hn => (by cases hn), (by simp), Lr.good_nil, fun n hn => (by cases hn)⟩, rfl, fun k => Iff.rfl, ?_⟩, ?_⟩⟩
    · exact (hm0.keep (h2.block _ hz)).keep (Lib.alloc_old _ _ _ (by omega))
    · exact h1.keep (fun k hk => Lib.alloc_old _ _ _ (h1.lt k hk))
    · rintro k (rfl | rfl | hk | hk)
      · omega
      · exact Nat.le_refl _
      · simp at hk; subst hk; omega
      · cases hk
    · exact (hb0.trans (h2.mono hb0.size)).alloc (by omega) _)
  have hR : decide (room < 1) = false := decide_eq_false h
  have hmm := @run_makeMap Try.prog
  clear hb0 hm0 h
  go_enter Try.func15, Try.ntmps15
  go_wp2_with (go_at_call 29; (with_reducible refine K.out.mono ?_); rintro e wA ⟨r, rfl, hA⟩)
  go_ret
  exact ⟨_, _, rfl, hA.out⟩

theorem keyDone {w : World} {g B : Nat} {u v : Value} {l : List ByteArray} (hg : w.heap[g]? = some (.cells #[u] 91)) (hr : eltS.Row w B v l) : (w.setCell ⟨g, 0, none⟩ v).heap[g]? = some (.cells #[v] 91) ∧ eltS.Row (w.setCell ⟨g, 0, none⟩ v) B v l := by
  refine ⟨setCell_block w g 0 _ _ v hg, hr.keep (fun k hk => Below.heap_setCell _ _ _ _ (fun e => ?_))⟩
  exact own_ne hr hg (by decide) (by rw [hk]; exact congrArg some e.symm)
/-- the closure of Keys: a key appended to the captured slice -/
structure RetKey (g B : Nat) (l : List ByteArray) (w : World) (e : Ending) (w' : World) : Prop where
  e : e = .returned (.tuple #[])
  s : ∃ v, w'.heap[g]? = some (.cells #[v] 91) ∧ eltS.Row w' B v l
  b : Below B w w'
set_option maxRecDepth 100000 in
set_option maxHeartbeats 4000000 in
theorem keyC (x ent p q g B : Nat) (k : ByteArray) (v : Lr.V) (u : Value) (l : List ByteArray) (w : World) (hx : w.heap[x]? = some (lk (ifc ent) 96 p q)) (he : w.heap[ent]? = some (entO k v)) (hg : w.heap[g]? = some (.cells #[u] 91)) (hr : eltS.Row w B u l) (hB : B ≤ g) (hl : l.length ≤ 1000000) :
    Calls Try.prog 56 #[.pointer (some ⟨x, 0, none⟩), .pointer (some ⟨g, 0, none⟩)] w (RetKey g B (l ++ [k]) w) := by
  have c0 : w.cell? ⟨g, 0, none⟩ = some u := by rw [cell_of_row w _ _ _ _ _ hg]; rfl
  have e0 := ent_c0 he
  have KE := Lib.hid (entryOfC x ent p q w.drew hx)
  have HR := Lib.hid (show eltS.Row w.drew B u l from hr)
  have HNE := Lib.hid (own_ne hr hg (by decide))
  have hgl := lt_block hg
  have HG := Lib.hid hg
  clear hx he hr hg
  go_enter Try.func56, Try.ntmps56
  go_wp2
  go_region_law (first | (refine eltS.stepApp w.drew rfl (.tmp 3) (.tmp 9) rfl B u l (by simp [Act.eval]) HR.out #[.string k] 1 (by simp [Act.eval]) k rfl (by omega) (Nat.le_trans hB (Nat.le_of_lt hgl)) ?_; intro v' w2 hrow hb hkeep; obtain ⟨a', c', rfl⟩ := hrow.slice; have hg2 := (hkeep g hgl HNE.out).trans HG.out; have d0 : w2.cell? ⟨g, 0, none⟩ = some u := (by rw [cell_of_row w2 _ _ _ _ _ hg2]; rfl); have f0 := frozen_of w2 g 0 _ _ hg2; have H2 := Lib.hid hg2; have HB2 := Lib.hid hb; have HROW := Lib.hid (show eltS.Row w2 B (.slice a' (l.length + 1) c') (l ++ [k]) from (by simpa using hrow)); clear hg2 hb hrow hkeep) | (go_simp; go_at_call 31; (with_reducible refine KE.out.mono ?_); rintro e wA ⟨rfl, rfl⟩))
  all_goals
    go_end0
    exact ⟨rfl, ⟨_, keyDone H2.out HROW.out⟩, (show Below B w w2 from ⟨HB2.out.os, HB2.out.tape, HB2.out.output, HB2.out.size, HB2.out.block⟩).setCell hB _⟩

/-- the block that a pointer points to -/
def posOf : Value → Nat
  | .pointer (some a) => a.block
  | _ => 0
theorem idx_mid {a b : List Nat} {x : Nat} (h : x ∉ a) : (a ++ x :: b).idxOf x = a.length := by
  induction a with
  | nil => simp
  | cons y t ih =>
    simp only [List.mem_cons, not_or] at h
    rw [List.cons_append, List.idxOf_cons, ih h.2]
    have : (y == x) = false := by simpa using fun e => h.1 e.symm
    simp [this]
theorem idx_out {l : List Nat} {x : Nat} (h : x ∉ l) : l.idxOf x = l.length := by
  induction l with
  | nil => simp
  | cons y t ih =>
    simp only [List.mem_cons, not_or] at h
    rw [List.idxOf_cons, ih h.2]
    have : (y == x) = false := by simpa using fun e => h.1 e.symm
    simp [this]
theorem infoLink : (Try.prog.info? 96).map (·.size) = some 3 := by kernel_rfl
theorem neqSame (a : Addr) (w : World) : (binOp .neq 70 (.pointer (some a)) (.pointer (some a))).run Try.prog w = .ok (.bool false) w := by
  obtain ⟨j, hj, _⟩ : ∃ j, Try.prog.info? 96 = some j ∧ j.size = 3 := by
    have := infoLink
    cases hq : Try.prog.info? 96 with
    | none => simp [hq] at this
    | some j => exact ⟨j, rfl, by simpa [hq] using this⟩
  have h : ∀ d : Nat, (Op.equalIn (d + 1) 70 (.pointer (some a)) (.pointer (some a))).run Try.prog w = .ok true w := fun d => by
    simp [Op.equalIn, run_underlying Try.underlying70, sizeOf, typeInfo, hj, run_sameAddr_same]
  simp only [binOp]
  simp [Op.equal, Op.maxDepth, h 9999]
theorem neqOther {x y : Nat} {w : World} {v1 v2 : Value} {t1 t2 : TypeId} {p1 q1 p2 q2 : Nat} (hne : x ≠ y) (h1 : w.heap[x]? = some (lk v1 t1 p1 q1)) (h2 : w.heap[y]? = some (lk v2 t2 p2 q2)) : (binOp .neq 70 (.pointer (some ⟨x, 0, none⟩)) (.pointer (some ⟨y, 0, none⟩))).run Try.prog w = .ok (.bool true) w := by
  obtain ⟨j, hj, hz⟩ : ∃ j, Try.prog.info? 96 = some j ∧ j.size = 3 := by
    have := infoLink
    cases hq : Try.prog.info? 96 with
    | none => simp [hq] at this
    | some j => exact ⟨j, rfl, by simpa [hq] using this⟩
  have hne2 : (⟨x, 0, none⟩ : Addr) ≠ ⟨y, 0, none⟩ := fun e => hne (congrArg Addr.block e)
  have h : ∀ d : Nat, (Op.equalIn (d + 1) 70 (.pointer (some ⟨x, 0, none⟩)) (.pointer (some ⟨y, 0, none⟩))).run Try.prog w = .ok false w := fun d => by
    simp [Op.equalIn, run_underlying Try.underlying70, sizeOf, typeInfo, hj, hz, run_sameAddr_other w hne2 h1 h2]
  simp only [binOp]
  simp [Op.equal, Op.maxDepth, h 9999]
/-- the first link's block, or the root's -/
def hdN (r : Nat) : List Nd → Nat
  | [] => r
  | n :: _ => n.b
theorem hdN_eq (r : Nat) (ns : List Nd) : (ns.map (·.b)).headD r = hdN r ns := by cases ns <;> rfl
set_option maxRecDepth 100000 in
set_option maxHeartbeats 4000000 in
theorem eachC (r g : Nat) (ns : List Nd) (w : World) (hR : RA w r ns) (hE : ∀ n ∈ ns, w.heap[n.e]? = some (entO n.k n.v)) (hg : w.heap[g]? = some (.cells #[.slice none 0 0] 91)) (hlt : ∀ k, k ∈ r :: ns.map (·.b) ∨ k ∈ ns.map (·.e) → k < g) (hl : ns.length ≤ 1000000) :
    Calls Try.prog 55 #[.pointer (some ⟨r, 0, none⟩), .func (.func 56) #[] #[.pointer (some ⟨g, 0, none⟩)]] w (RetKey g g (Lr.keys (Lr.kvs ns)) w) := by
  obtain ⟨aft, bef, hA⟩ := hR
  have hrow0 : eltS.Row w g (.slice none 0 0) [] := Elt.Row.nil w g
  have hfirst := hA.ring.first
  have c2 := lk_c2 hA.root
  rw [hfirst, hdN_eq] at c2
  have HA := Lib.hid hA
  have HE := Lib.hid hE
  have HLT := Lib.hid hlt
  have HG := Lib.hid hg
  have HROW := Lib.hid hrow0
  clear hA hE hlt hg hrow0 hfirst
  go_enter Try.func55, Try.ntmps55
  go_wp2
  go_loopw [4] (fun x wr => ∃ a b : List Nd, ns = a ++ b ∧ x = .pointer (some ⟨hdN r b, 0, none⟩) ∧ Hid (Below g w wr ∧ ∃ v, wr.heap[g]? = some (.cells #[v] 91) ∧ eltS.Row wr g v (Lr.keys (Lr.kvs a)))) (fun x _ => ns.length - (ns.map (·.b)).idxOf (posOf x))
  case atStart => exact ⟨[], ns, rfl, rfl, Lib.hid ⟨Below.refl _ _, _, HG.out, HROW.out⟩⟩
  case round =>
    obtain ⟨a, b, rfl, rfl, hst⟩ := hrel
    have hring := HA.out.ring
    cases b with
    | nil =>
      clear c2 HG HROW hring
      obtain ⟨hb, v, hv1, hv2⟩ := hst.out
      rw [List.append_nil] at *
      have HF := Lib.hid hv1
      have HV := Lib.hid hv2
      have HB := Lib.hid hb
      clear hv1 hv2 hb hst
      have hnq := neqSame
      rw [show hdN r ([] : List Nd) = r from rfl]
      go_wp2
      go_end0
      exact ⟨rfl, ⟨v, HF.out, HV.out⟩, HB.out⟩
    | cons n b =>
      have hmem : n ∈ a ++ n :: b := by simp
      have hbm : n.b ∈ (a ++ n :: b).map (·.b) := List.mem_map.2 ⟨n, hmem, rfl⟩
      have hne : n.b ≠ r := fun e => (List.nodup_cons.1 hring.nd).1 (by rw [← e]; exact hbm)
      have hmap : (a ++ n :: b).map (·.b) = a.map (·.b) ++ n.b :: b.map (·.b) := by simp
      have hnext : aft n.b = hdN r b := by rw [← hdN_eq]; rw [hmap] at hring; exact hring.next
      obtain ⟨hb, u, hu1, hu2⟩ := hst.out
      have hnode := HA.out.node n hmem
      have hent := HE.out n hmem
      have l1 := HLT.out n.b (Or.inl (List.mem_cons_of_mem _ hbm))
      have l2 := HLT.out n.e (Or.inr (List.mem_map.2 ⟨n, hmem, rfl⟩))
      have l3 := HLT.out r (Or.inl (by simp))
      have hnW := (hb.block n.b l1).trans hnode
      have hrW := (hb.block r l3).trans HA.out.root
      have hnq := neqOther hne hnW hrW
      have hlen : (Lr.keys (Lr.kvs a)).length ≤ 1000000 := by simp [Lr.keys, Lr.kvs] at hl ⊢; omega
      have KC := Lib.hid ((keyC n.b n.e _ _ g g n.k n.v u _ wr hnW ((hb.block n.e l2).trans hent) hu1 hu2 (Nat.le_refl _) hlen).mono (R' := fun e w' => e = .returned (.tuple #[]) ∧ w'.cell? ⟨n.b, 2, none⟩ = some (.pointer (some ⟨hdN r b, 0, none⟩)) ∧ Hid (Below g w w' ∧ ∃ v, w'.heap[g]? = some (.cells #[v] 91) ∧ eltS.Row w' g v (Lr.keys (Lr.kvs (a ++ [n]))))) fun e w' hr => by
        refine ⟨hr.e, ?_, Lib.hid ⟨hb.trans hr.b, ?_⟩⟩
        · rw [← hnext]
          exact lk_c2 (((hb.trans hr.b).block n.b l1).trans hnode)
        · obtain ⟨v, h1, h2⟩ := hr.s
          exact ⟨v, h1, by rw [show Lr.keys (Lr.kvs (a ++ [n])) = Lr.keys (Lr.kvs a) ++ [n.k] by simp [Lr.keys, Lr.kvs, Lr.Nd.kv]]; exact h2⟩)
      have hi1 : ((a ++ n :: b).map (·.b)).idxOf n.b = a.length := by
        have hnd := (List.nodup_cons.1 hring.nd).2
        rw [hmap] at hnd ⊢
        rw [idx_mid (fun h => (List.nodup_append.1 hnd).2.2 n.b h n.b (by simp) rfl)]
        simp
      have hi2 : a.length + 1 ≤ ((a ++ n :: b).map (·.b)).idxOf (hdN r b) := by
        cases b with
        | nil =>
          have : r ∉ (a ++ [n]).map (·.b) := (List.nodup_cons.1 hring.nd).1
          show a.length + 1 ≤ ((a ++ [n]).map (·.b)).idxOf r
          rw [idx_out this]; simp
        | cons m b =>
          have hm2 : (a ++ n :: m :: b).map (·.b) = (a ++ [n]).map (·.b) ++ m.b :: b.map (·.b) := by simp
          have hnd := (List.nodup_cons.1 hring.nd).2
          show a.length + 1 ≤ ((a ++ n :: m :: b).map (·.b)).idxOf m.b
          rw [hm2] at hnd ⊢
          rw [idx_mid (fun h => (List.nodup_append.1 hnd).2.2 m.b h m.b (by simp) rfl)]
          simp
      have HI1 := Lib.hid hi1
      have HI2 := Lib.hid hi2
      clear c2 HG HROW hring hst hb hu1 hu2 hnode hent l1 l2 l3 hnW hrW hnext hmap hlen hmem hbm hi1 hi2
      have hh : hdN r (n :: b) = n.b := rfl
      rw [hh]
      clear hh
      go_wp2_with (go_at_call 56; (with_reducible refine KC.out.mono ?_); rintro e wA ⟨rfl, c2, hA⟩)
      go_roundw
      case rel => exact ⟨a ++ [n], b, by simp, rfl, hA⟩
      case measure =>
        have h1 := HI1.out
        have h2 := HI2.out
        simp only [posOf, List.length_append, List.length_cons] at h1 h2 ⊢
        omega
end Go.Proofs.Ytmdpfinadffcaaa
