/-
  A ring of flows: Pick's round.
-/
import Derived.Test.YtgeoebodlcbebaaRobD
import Derived.Deep.LoopGhost
import Derived.Deep.QuietTactic
namespace Go.Proofs.Ytgeoebodlcbebaa
open Go.RowKit
open Rb (Nd)
set_option linter.unusedVariables false

theorem vis_dfc (a b : List Nd) (n : Nd) (d : Int) : visOf (a ++ n.dfc d :: b) = visOf (a ++ n :: b) := by cases a <;> rfl
theorem map_dfc (a b : List Nd) (n : Nd) (d : Int) : (a ++ n.dfc d :: b).map (·.b) = (a ++ n :: b).map (·.b) := by simp [Rb.Nd.dfc]
theorem mem_dfc {a b : List Nd} {n : Nd} {d : Int} {z : Nd} (h : z ∈ a ++ n.dfc d :: b) : ∃ z' ∈ a ++ n :: b, z.b = z'.b ∧ z.q = z'.q ∧ z.t = z'.t ∧ z.F = z'.F ∧ z.r.its = z'.r.its := by
  rcases List.mem_append.1 h with h | h
  · exact ⟨z, by simp [h], rfl, rfl, rfl, rfl, rfl⟩
  · rcases List.mem_cons.1 h with h | h
    · subst h; exact ⟨n, by simp, rfl, rfl, rfl, rfl, rfl⟩
    · exact ⟨z, by simp [h], rfl, rfl, rfl, rfl, rfl⟩
theorem mem_dfc' {a b : List Nd} {n : Nd} {d : Int} {z : Nd} (h : z ∈ a ++ n :: b) : ∃ z' ∈ a ++ n.dfc d :: b, z.b = z'.b ∧ z.F = z'.F := by
  rcases List.mem_append.1 h with h | h
  · exact ⟨z, by simp [h], rfl, rfl⟩
  · rcases List.mem_cons.1 h with h | h
    · subst h; exact ⟨z.dfc d, by simp, rfl, rfl⟩
    · exact ⟨z, by simp [h], rfl, rfl⟩
theorem footR_dfc {R m : Nat} (a b : List Nd) (n : Nd) (d : Int) (k : Nat) : footR R m (a ++ n.dfc d :: b) k ↔ footR R m (a ++ n :: b) k := by unfold footR; rw [map_dfc]
theorem footG_dfc {R m : Nat} (a b : List Nd) (n : Nd) (d : Int) (k : Nat) : footG R m (a ++ n.dfc d :: b) k ↔ footG R m (a ++ n :: b) k := by
  unfold footG
  rw [footR_dfc]
  constructor
  · rintro (h | ⟨z, hz, h⟩)
    · exact Or.inl h
    · obtain ⟨z', hz', _, _, _, e, _⟩ := mem_dfc hz
      exact Or.inr ⟨z', hz', by rw [← e]; exact h⟩
  · rintro (h | ⟨z, hz, h⟩)
    · exact Or.inl h
    · obtain ⟨z', hz', _, e⟩ := mem_dfc' (d := d) hz
      exact Or.inr ⟨z', hz', by rw [← e]; exact h⟩
theorem QsAt.dfc {w : World} {B : Nat} {X X' : Nat → Prop} {a b : List Nd} {n : Nd} (h : QsAt w B X (a ++ n :: b)) (d : Int) (hX : ∀ k, X' k → X k) : QsAt w B X' (a ++ n.dfc d :: b) := by
  refine ⟨fun z hz => ?_, fun z hz => ?_, fun z hz k hk hx => ?_, fun z hz z2 hz2 hne k hk hk2 => ?_⟩
  · obtain ⟨z', hz', e1, e2, e3, e4, e5⟩ := mem_dfc hz
    rw [e3]; exact h.src z' hz'
  · obtain ⟨z', hz', e1, e2, e3, e4, e5⟩ := mem_dfc hz
    rw [e2, e4, e5]; exact h.q z' hz'
  · obtain ⟨z', hz', e1, e2, e3, e4, e5⟩ := mem_dfc hz
    rw [e4] at hk; exact h.own z' hz' k hk (hX k hx)
  · obtain ⟨z', hz', e1, e2, e3, e4, e5⟩ := mem_dfc hz
    obtain ⟨z2', hz2', f1, f2, f3, f4, f5⟩ := mem_dfc hz2
    rw [e4] at hk
    rw [f4] at hk2
    exact h.apart z' hz' z2' hz2' (fun e => hne (by rw [e1, f1, e])) k hk hk2
theorem RIn.dfc {w : World} {B R m : Nat} {q : Int} {g : Bool} {a b : List Nd} {n : Nd} {x y : Nat → Nat} (h : RIn w B R m q g (a ++ n :: b) x y) (d : Int) : RIn (w.setCell ⟨n.b, 3, none⟩ (.int .i64 d)) B R m q g (a ++ n.dfc d :: b) x y := by
  have hn : n ∈ a ++ n :: b := by simp
  refine ⟨by rw [vis_dfc]; exact h.r.dfc d, (h.qs.keep (fun z hz k hk => Below.heap_setCell _ _ _ _ (fun e => h.qs.own z hz k hk (Or.inr (Or.inr (by rw [e]; exact List.mem_map.2 ⟨n, hn, rfl⟩)))))).dfc d (fun k hk => (footR_dfc a b n d k).1 hk), by rw [map_dfc]; exact h.ring, fun k hk => h.lo k ((footG_dfc a b n d k).1 hk)⟩
theorem RIn.giv {w : World} {B R m : Nat} {q : Int} {g : Bool} {ns : List Nd} {x y : Nat → Nat} (h : RIn w B R m q g ns x y) (g' : Bool) : RIn (w.setCell ⟨R, 3, none⟩ (.bool g')) B R m q g' ns x y :=
  ⟨h.r.giv g', h.qs.keep (fun z hz k hk => Below.heap_setCell _ _ _ _ (fun e => h.qs.own z hz k hk (Or.inl e))), h.ring, h.lo⟩
/-- a ring in the course of Pick -/
structure PkQ (w0 : World) (F : Nat → Prop) (B R m : Nat) (s s' : Fl.St) (ns : List Nd) (x y : Nat → Nat) (W : World) : Prop where
  r : RIn W B R m s'.q s'.g ns x y
  l : ns.map (·.r) = s'.l
  f : ∀ k, footG R m ns k ↔ F k
  c : Chg F w0 W
  good : Fl.Good s'
  lim : Fl.Lim 64 s'
  p : s'.pick = s.pick
section
variable {w0 W W' : World} {F : Nat → Prop} {B R m : Nat} {s s' : Fl.St} {ns : List Nd} {x y : Nat → Nat}
theorem PkQ.below (h : PkQ w0 F B R m s s' ns x y W) (hb : Below W.heap.size W W') : PkQ w0 F B R m s s' ns x y W' := ⟨h.r.below hb, h.l, h.f, h.c.then hb, h.good, h.lim, h.p⟩
theorem PkQ.turn {n : Nd} {t : List Nd} {e : Ending} (h : PkQ w0 F B R m s s' (n :: t) x y W) (hg : s'.g = true) (hr : s'.ready = false) (hv : RetV B R m s'.q false (t ++ [n]) x y W e W') : PkQ w0 F B R m s s'.turn (t ++ [n]) x y W' := by
  have hl : s'.l = n.r :: t.map (·.r) := by rw [← h.l]; rfl
  have hgv : s'.give = s' := Fl.give_yes hg
  have hp := Fl.pick_step h.good h.lim (by rw [hgv]; exact hr)
  rw [hgv] at hp
  have hperm : (n :: t).Perm (t ++ [n]) := (List.perm_append_singleton n t).symm
  have hR : F R := (h.f R).1 (Or.inl (Or.inl rfl))
  refine ⟨?_, ?_, fun k => (footG_perm hperm k).symm.trans (h.f k), h.c.trans hv.c (fun k hk => Or.inl (by rw [show k = R from hk]; exact hR)), h.good.turn, h.lim.turn (fun r hr' => (h.good.ok r hr').ne) hr hg, hp.symm.trans h.p⟩
  · rw [Fl.turn_eq hl]; exact hv.s
  · rw [Fl.turn_eq hl]; simp
theorem PkQ.give {n : Nd} {t : List Nd} (h : PkQ w0 F B R m s s' (n :: t) x y W) (hg : s'.g = false) : PkQ w0 F B R m s s'.give (n.dfc (n.r.d + s'.q * n.r.w) :: t) x y ((W.setCell ⟨n.b, 3, none⟩ (.int .i64 (n.r.d + s'.q * n.r.w))).drew.setCell ⟨R, 3, none⟩ (.bool true)) := by
  have hl : s'.l = n.r :: t.map (·.r) := by rw [← h.l]; rfl
  have hgv := Fl.give_no hl hg
  have h1 := RIn.dfc (a := []) (b := t) h.r (n.r.d + s'.q * n.r.w)
  have h2 := (h1.below (Below.refl _ _).drew).giv true
  have hb : F n.b := (h.f n.b).1 (Or.inl (Or.inr (Or.inr (by simp))))
  have hR : F R := (h.f R).1 (Or.inl (Or.inl rfl))
  refine ⟨by rw [hgv]; exact h2, by rw [hgv]; simp [Rb.Nd.dfc], fun k => (footG_dfc [] t n _ k).trans (h.f k), ?_, h.good.give, h.lim.give, ?_⟩
  · exact ((h.c.setCell (p := ⟨n.b, 3, none⟩) (Or.inl hb) _).drew).setCell (p := ⟨R, 3, none⟩) (Or.inl hR) _
  · rw [← h.p]
    have hgg : s'.give.give = s'.give := Fl.give_yes (Fl.give_g (by rw [hl]; simp))
    cases hr : s'.give.ready with
    | true => rw [Fl.pick_done hr, Fl.pick_done (by rw [hgg]; exact hr), hgg]
    | false => rw [Fl.pick_step h.good h.lim hr, Fl.pick_step h.good.give h.lim.give (by rw [hgg]; exact hr), hgg]
end
end Go.Proofs.Ytgeoebodlcbebaa
