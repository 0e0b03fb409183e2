/-
  A table: Peek, Get, Drop.
-/
import Derived.Test.YtmdpfinadffcaaaLhD
import Derived.Test.YtmdpfinadffcaaaHyRow
namespace Go.Proofs.Ytmdpfinadffcaaa
open Go.RowKit
open Lr (Nd)
set_option linter.unusedVariables false

theorem entOf {w : World} {P m r : Nat} {room : Int} {a b : List Nd} {n : Nd} (h : TAt w P m r room (a ++ n :: b)) : Calls Try.prog 31 #[.pointer (some ⟨n.b, 0, none⟩)] w (Same (.pointer (some ⟨n.e, 0, none⟩)) w) := by
  obtain ⟨p, q, hl⟩ := h.ring.link (n := n) (by simp)
  exact entryOfC n.b n.e p q w hl
/-- the load of a histogram out of the middle of a block -/
theorem loadM {ops : Array Oper} {rest : List Oper} {o : Oper} {a : Act} {w : World} {Q : Exit → Act → World → Prop} {g off : Nat} {v : Lr.V} (h : w.rangeAt g off (Hi.cells v.1).toList) (x : Operand) (ho : o.op = .load 49 x) (hw : Region.wanted o (yielded ops a.tmps) = true)
    (hx : a.eval x = .pointer (some ⟨g, off, none⟩)) (hK : wpList Try.prog ops Q rest (a.put o.dst (.agg (Hi.cells v.1))) w) : wpList Try.prog ops Q (o :: rest) a w :=
  BigFrame.wpList_want hw fun _ hK' => wp_load_mid (P := Try.prog) 49 x ho g off hx (Hi.cells v.1).toList _ h Try.underlying49 rfl (by rw [infoH, Array.length_toList, Hi.cells_size, v.2]) (hK' _ _ (by simpa using hK))
theorem load_bx {w : World} {g : Nat} {l : List Int} (h : Bx w g l) : (loadVar 49 ⟨g, 0, none⟩).run Try.prog w = .ok (.agg (Hi.cells l)) w := run_loadVar_row w g 49 49 (Hi.cells l) _ _ h.h Try.underlying49 rfl (by rw [infoH, Hi.cells_size, h.n])
theorem results_hist {fn : Func} {p u : Tmp} (h : fn.results = #[.cell p 49, .tmp u]) (tmps : Array Value) (w : World) (g : Nat) (l : List Int) (hp : tmps.getD p undef = .pointer (some ⟨g, 0, none⟩)) (hb : Bx w g l) :
    (results fn tmps).run Try.prog w = .ok (.tuple #[.agg (Hi.cells l), tmps.getD u undef]) w := by
  rw [results_cell_tmp h, hp]
  simp only [asAddr, Sem.run_pure, Result.andThen_ok, load_bx hb]
theorem ent_k {w : World} {P m r : Nat} {room : Int} {a b : List Nd} {n : Nd} (h : TAt w P m r room (a ++ n :: b)) : w.cell? ⟨n.e, 0, none⟩ = some (.string n.k) := ent_c0 (h.ent n (by simp))
/-- a histogram's box as it is made -/
abbrev zb : Obj := .cells #[.int .i64 0, .int .i64 0, .int .i64 0, .int .i64 0, .int .i64 0, .int .i64 0, .int .i64 0, .int .i64 0, .int .i64 0, .int .i64 0, .int .i64 0, .int .i64 0, .int .i64 0, .int .i64 0, .int .i64 0, .int .i64 0] 49
/-- what a table tells of a key -/
def gotV (x : Option Lr.V) : Value := .tuple #[.agg (Hi.cells (x.getD Lr.zero).1), .bool x.isSome]
set_option maxRecDepth 100000 in
set_option maxHeartbeats 1000000 in
theorem peekNone (P m r : Nat) (room : Int) (ns : List Nd) (key : ByteArray) (w : World) (h : TAt w P m r room ns) (hk : key.size ≤ 9223372036854775807) (hn : Lr.find (Lr.kvs ns) key = none) :
    Calls Try.prog 42 #[.pointer (some ⟨P, 0, none⟩), .string key] w (Ret (gotV none) w) := by
  have h1 : TAt (w.alloc zb) P m r room ns := h.keep (fun k hk => Lib.alloc_old _ _ _ (h.lt k hk))
  have K := Lib.hid (findNone P m r room ns key _ h1 hk hn)
  have B0 := Lib.hid ((zeros_new w).old zb)
  have B1 := Lib.hid (zeros_new (w.alloc zb))
  rw [alloc_size] at B1
  have HB := Lib.hid (((Below.refl w.heap.size w).alloc (Nat.le_refl _) zb).alloc (by simp) zb)
  clear h hn h1
  go_enter Try.func42, Try.ntmps42
  go_wp2_with (first | (go_at_call 30; (with_reducible refine K.out.mono ?_); rintro e wA ⟨rfl, rfl⟩) | (refine loadB B1.out _ rfl rfl rfl ?_) | (refine storeB B0.out (l := Hi.zeros) rfl rfl _ _ rfl rfl rfl ?_))
  (try simp only [Exit.inBlock, Exit.then])
  refine bodyPost_ret (v := gotV none) ?_ rfl ⟨rfl, below_row HB.out (Nat.le_refl _) _⟩
  refine Eq.trans (results_hist (p := 4) (u := 5) ?_ _ _ w.heap.size Hi.zeros ?_ (B0.out.row (m := Hi.zeros) rfl)) ?_
  all_goals rfl
set_option maxRecDepth 100000 in
set_option maxHeartbeats 1000000 in
theorem peekSome (P m r : Nat) (room : Int) (a b : List Nd) (n : Nd) (w : World) (h : TAt w P m r room (a ++ n :: b)) :
    Calls Try.prog 42 #[.pointer (some ⟨P, 0, none⟩), .string n.k] w (Ret (gotV (some n.v)) w) := by
  have h1 : TAt (w.alloc zb) P m r room (a ++ n :: b) := h.keep (fun k hk => Lib.alloc_old _ _ _ (h.lt k hk))
  have K := Lib.hid (findSome P m r room a b n _ h1)
  have K2 := Lib.hid (entOf h1)
  have HR := Lib.hid (ent_range (h1.ent n (by simp)))
  have B0 := Lib.hid (zeros_new w)
  have HB := Lib.hid ((Below.refl w.heap.size w).alloc (Nat.le_refl _) zb)
  clear h h1
  generalize n.k = key at *
  generalize n.b = x at *
  generalize n.e = y at *
  generalize n.v = v at *
  go_enter Try.func42, Try.ntmps42
  go_wp2_with (first | (go_at_call 30; (with_reducible refine K.out.mono ?_); rintro e wA ⟨rfl, rfl⟩) | (go_at_call 31; (with_reducible refine K2.out.mono ?_); rintro e wA ⟨rfl, rfl⟩) | (refine loadM HR.out _ rfl rfl rfl ?_) | (refine storeB B0.out (l := v.1) v.2 rfl _ _ rfl rfl rfl ?_))
  (try simp only [Exit.inBlock, Exit.then])
  refine bodyPost_ret (v := gotV (some v)) ?_ rfl ⟨rfl, below_row HB.out (Nat.le_refl _) _⟩
  refine Eq.trans (results_hist (p := 4) (u := 5) ?_ _ _ w.heap.size v.1 ?_ (B0.out.row (m := v.1) v.2)) ?_
  all_goals rfl
theorem peekC (B P : Nat) (room : Int) (l : List Lr.E) (F : Nat → Prop) (key : ByteArray) (w : World) (h : TIs w B P room l F) (hk : key.size ≤ 140737488351232) :
    Calls Try.prog 42 #[.pointer (some ⟨P, 0, none⟩), .string key] w (Ret (gotV (Lr.find l key)) w) := by
  obtain ⟨m, r, ns, h1, rfl, h3, h4⟩ := h
  cases hf : Lr.find (Lr.kvs ns) key with
  | none => exact peekNone P m r room ns key w h1 (by omega) hf
  | some v =>
    obtain ⟨a, n, b, rfl, rfl, rfl, _⟩ := Lr.find_node hf
    exact peekSome P m r room a b n w h1
theorem lenC (B P : Nat) (room : Int) (l : List Lr.E) (F : Nat → Prop) (w : World) (h : TIs w B P room l F) : Calls Try.prog 35 #[.pointer (some ⟨P, 0, none⟩)] w (Same (.int .i64 (l.length : Int)) w) := by
  obtain ⟨m, r, ns, h1, rfl, h3, h4⟩ := h
  have := lenAt P m r room ns w h1
  unfold Lr.kvs
  rwa [List.length_map]

/-- a link raised -/
theorem TAt.raised {w w' : World} {P m r : Nat} {room : Int} {a b : List Nd} {n : Nd} (h : TAt w P m r room (a ++ n :: b)) (hs : RA w' r (n :: (a ++ b))) (hc : Chg (fun k => k ∈ r :: (a ++ n :: b).map (·.b)) w w') : TAt w' P m r room (n :: (a ++ b)) := by
  obtain ⟨k1, k2, k3⟩ := h.kinds
  have hp : (a ++ n :: b).Perm (n :: (a ++ b)) := List.perm_middle
  refine ⟨hc.keep h.tab (fun hm => (k2 _ hm).1 rfl), (h.map.keep (hc.block m h.map.lt (fun hm => (k2 _ hm).2.1 rfl))).perm hp, hs, fun x hx => ?_, (hp.map _).nodup_iff.1 h.nde, ?_, fun x hx => h.small x (hp.mem_iff.2 hx)⟩
  · have hx2 := hp.mem_iff.2 hx
    exact hc.keep (h.ent x hx2) (fun hm => (k2 _ hm).2.2 (List.mem_map.2 ⟨x, hx2, rfl⟩))
  · exact ((hp.map _).map _).nodup_iff.1 h.good
theorem foot_raised {P m r : Nat} {a b : List Nd} {n : Nd} (k : Nat) : foot P m r (n :: (a ++ b)) k ↔ foot P m r (a ++ n :: b) k := by
  have hp : (a ++ n :: b).Perm (n :: (a ++ b)) := List.perm_middle
  unfold foot
  rw [List.mem_cons, List.mem_cons, (hp.map (·.b)).mem_iff, (hp.map (·.e)).mem_iff]
end Go.Proofs.Ytmdpfinadffcaaa
