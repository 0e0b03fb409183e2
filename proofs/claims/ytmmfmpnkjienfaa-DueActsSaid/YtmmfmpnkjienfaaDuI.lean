/-
  The set's Clear.
-/
import Derived.Test.YtmmfmpnkjienfaaDuH
namespace Go.Proofs.Ytmmfmpnkjienfaa
open Go.RowKit
set_option linter.unusedVariables false

/-- what Clear leaves -/
def clearL (l : List Wh.E) (k i : Int) : List Wh.E := if Wh.May k i then Wh.without l (Wh.key k i) else l
theorem clear_nodup {l : List Wh.E} (h : (l.map (·.1)).Nodup) (k i : Int) : ((clearL l k i).map (·.1)).Nodup := by
  unfold clearL
  split
  · exact Wh.nodup_without h
  · exact h
set_option maxRecDepth 100000 in
set_option maxHeartbeats 1000000 in
theorem clearNone (k i : Int) (w : World) (B D : Nat) (now : Int) (l : List Wh.E) (G : Nat → Prop) (h : DIs w B D now l G) (hn : atR2 l k i = none) :
    Calls Try.prog 20 #[.pointer (some ⟨D, 0, none⟩), .int .i64 k, .int .i64 i] w (RetW DIs (.bool false) B D now l G w) := by
  have h' := Lib.hid h
  obtain ⟨P, F, a, cap, h, rfl⟩ := h
  have ka := dAtC k i w B D now l _ P F a cap h
  rw [hn, show atV none = .tuple #[.int .u64 0, .bool false] from rfl] at ka
  have KA := Lib.hid ka
  clear ka h hn
  go_enter Try.func20, Try.ntmps20
  go_wp2_with (go_at_call 9; (with_reducible refine KA.out.mono ?_); rintro e w1 ⟨rfl, rfl⟩)
  go_ret
  exact DIs.asks rfl h'.out (Below.refl _ _)
/-- behind Drop -/
theorem DQ.dropped {w0 w w' : World} {G : Nat → Prop} {B D : Nat} {now : Int} {l r : List Wh.E} {P : Nat} {F : Nat → Prop} {a : Option Addr} {cap : Nat} {e : Ending} {v : Value} {id : Int} (h : DQ w0 G B D now l r P F a cap w) (hw : RetW WIs v B P now (Wh.without l id) F w e w') :
    ∃ F', DQ w0 G B D now (Wh.without l id) r P F' a cap w' := by
  obtain ⟨F', g1, g2⟩ := hw.s
  exact ⟨F', h.wheel g1 g2 hw.c (Wh.nodup_without h.at_.nd) (h.at_.good.without id)⟩
set_option maxRecDepth 100000 in
set_option maxHeartbeats 1000000 in
theorem clearFar (k i t : Int) (w : World) (B D : Nat) (now : Int) (l : List Wh.E) (G : Nat → Prop) (hl : l.length ≤ 1000) (hm : Wh.May k i) (hf : Wh.find l (Wh.key k i) = some t) (ht : now < t) (h : DIs w B D now l G) :
    Calls Try.prog 20 #[.pointer (some ⟨D, 0, none⟩), .int .i64 k, .int .i64 i] w (RetW DIs (.bool true) B D now (Wh.without l (Wh.key k i)) G w) := by
  obtain ⟨P, F, a, cap, h, rfl⟩ := h
  have hnl := Wh.nodup_of h.nd
  have hlen := Nat.le_trans (Wh.turned_length l now) hl
  have ka := dAtC k i w B D now l _ P F a cap h
  have e1 : atR2 l k i = some t := by unfold atR2; rw [if_pos hm]; exact hf
  rw [e1, show atV (some t) = .tuple #[.int .u64 t, .bool true] from rfl] at ka
  have KA := Lib.hid ka
  have KK := Lib.hid (fun W => keyYes k i W hm)
  have hnot : ∀ (p : Nat) (b : Bool), (b = true ↔ ∃ h : p < (Wh.turned l now).length, (Wh.turned l now)[p] = (Wh.key k i, t)) → b = false := fun p b hb => by
    cases b with
    | false => rfl
    | true =>
      obtain ⟨h1, h2⟩ := hb.1 rfl
      have := (Wh.turned_mem.1 (h2 ▸ List.getElem_mem h1)).2
      simp at this
      omega
  have hhas : Wh.has l (Wh.key k i) = true := by unfold Wh.has; rw [hf]; rfl
  have hturn : Wh.turned (Wh.without l (Wh.key k i)) now = Wh.turned l now := Wh.turned_drop_later h.nd hf ht
  have KF := Lib.hid (dFindC (Wh.key k i) t w B D now l _ P F a cap h (by omega) (Wh.turned_sorted hnl now))
  have hq : ∀ w1, Below w.heap.size w w1 → DQ w (DF D F a) B D now l (Wh.turned l now) P F a cap w1 := fun w1 hb => h.start.below hb
  have hd : ∀ w1, DQ w (DF D F a) B D now l (Wh.turned l now) P F a cap w1 → Calls Try.prog 36 #[.pointer (some ⟨P, 0, none⟩), .int .i64 (Wh.key k i)] w1 (RetW WIs (.bool true) B P now (Wh.without l (Wh.key k i)) F w1) := fun w1 hq => by
    rw [← hhas]
    exact dropC (Wh.key k i) w1 B P now l F (key_wf hm) hq.at_.nd hq.at_.wh
  have hfin : ∀ w1 e w2, DQ w (DF D F a) B D now l (Wh.turned l now) P F a cap w1 → RetW WIs (.bool true) B P now (Wh.without l (Wh.key k i)) F w1 e w2 → RetW DIs (.bool true) B D now (Wh.without l (Wh.key k i)) (DF D F a) w e w2 := fun w1 e w2 hq hw => by
    obtain ⟨F', h2⟩ := hq.dropped hw
    rw [← hturn] at h2
    exact h2.ret hw.r
  have HQ := Lib.hid hq
  have HD := Lib.hid hd
  have HF := Lib.hid hfin
  have HN := Lib.hid hnot
  clear ka h hnl hlen e1 hnot hhas hturn hq hd hfin hf
  generalize Wh.key k i = kk at *
  go_enter Try.func20, Try.ntmps20
  go_wp2_with (first | (go_at_call 9; (with_reducible refine KA.out.mono ?_); rintro e w1 ⟨rfl, rfl⟩) | (go_at_call 26; (with_reducible refine (KK.out _).mono ?_); rintro e w1 ⟨rfl, rfl⟩) | (go_at_call 32; (with_reducible refine KF.out.mono ?_); rintro e w1 ⟨⟨p, b, rfl, hp, hb⟩, hbw⟩; obtain rfl := HN.out _ _ hb; have hQ := HQ.out _ hbw; have c0 := hQ.at_.ptr; have HQ1 := Lib.hid hQ; clear hp hb hbw hQ) | (go_at_call 36; (with_reducible refine (HD.out _ HQ1.out).mono ?_); intro e w2 hw; obtain rfl := hw.r; have HW := Lib.hid (HF.out _ _ _ HQ1.out hw); clear hw))
  go_ret
  exact HW.out

set_option maxRecDepth 100000 in
set_option maxHeartbeats 2000000 in
theorem clearNear (k i t : Int) (w : World) (B D : Nat) (now : Int) (l : List Wh.E) (G : Nat → Prop) (hl : l.length ≤ 1000) (hm : Wh.May k i) (hf : Wh.find l (Wh.key k i) = some t) (ht : t ≤ now) (h : DIs w B D now l G) :
    Calls Try.prog 20 #[.pointer (some ⟨D, 0, none⟩), .int .i64 k, .int .i64 i] w (RetW DIs (.bool true) B D now (Wh.without l (Wh.key k i)) G w) := by
  obtain ⟨P, F, a, cap, h, rfl⟩ := h
  have hnl := Wh.nodup_of h.nd
  have hlen := Nat.le_trans (Wh.turned_length l now) hl
  have ka := dAtC k i w B D now l _ P F a cap h
  have e1 : atR2 l k i = some t := by unfold atR2; rw [if_pos hm]; exact hf
  rw [e1, show atV (some t) = .tuple #[.int .u64 t, .bool true] from rfl] at ka
  have KA := Lib.hid ka
  have KK := Lib.hid (fun W => keyYes k i W hm)
  have hmem : (Wh.key k i, t) ∈ Wh.turned l now := Wh.turned_mem.2 ⟨Wh.find_mem hf, ht⟩
  have hsort := Wh.turned_sorted hnl now
  have hnot : ∀ (p : Nat) (b : Bool), Wh.Place (Wh.turned l now) (Wh.key k i, t) p → (b = true ↔ ∃ h : p < (Wh.turned l now).length, (Wh.turned l now)[p] = (Wh.key k i, t)) → b = true ∧ ∃ h : p < (Wh.turned l now).length, (Wh.turned l now)[p] = (Wh.key k i, t) := fun p b hp hb => by
    have := Wh.place_there hsort hp hmem
    exact ⟨hb.2 this, this⟩
  have hhas : Wh.has l (Wh.key k i) = true := by unfold Wh.has; rw [hf]; rfl
  have hturn : ∀ (p : Nat) (h : p < (Wh.turned l now).length), (Wh.turned l now)[p] = (Wh.key k i, t) → (Wh.turned l now).eraseIdx p = Wh.turned (Wh.without l (Wh.key k i)) now := fun p h1 h2 => Wh.turned_drop h.nd hf h1 h2
  have KF := Lib.hid (dFindC (Wh.key k i) t w B D now l _ P F a cap h (by omega) hsort)
  obtain ⟨g, off, cur, rfl, _⟩ := h.rd.got (List.length_pos_of_mem hmem)
  have hq : ∀ w1, Below w.heap.size w w1 → DQ w (DF D F (some ⟨g, off, none⟩)) B D now l (Wh.turned l now) P F (some ⟨g, off, none⟩) cap w1 := fun w1 hb => h.start.below hb
  have hdel : ∀ w1 (p : Nat), DQ w (DF D F (some ⟨g, off, none⟩)) B D now l (Wh.turned l now) P F (some ⟨g, off, none⟩) cap w1 → (h : p < (Wh.turned l now).length) → (Wh.turned l now)[p] = (Wh.key k i, t) →
      Calls Try.prog 38 #[.slice (some ⟨g, off, none⟩) (Wh.turned l now).length cap, .int .i64 (p : Int), .int .i64 ((p : Int) + 1)] w1 fun e w2 => e = .returned (.slice (some ⟨g, off, none⟩) ((Wh.turned l now).length - 1) cap) ∧ w2.cell? ⟨D, 1, none⟩ = some (.slice (some ⟨g, off, none⟩) (Wh.turned l now).length cap) ∧ w2.frozen? ⟨D, 1, none⟩ = false ∧
        Hid (DQ w (DF D F (some ⟨g, off, none⟩)) B D now l (Wh.turned (Wh.without l (Wh.key k i)) now) P F (some ⟨g, off, none⟩) cap (w2.setCell ⟨D, 1, none⟩ (.slice (some ⟨g, off, none⟩) ((Wh.turned l now).length - 1) cap))) := fun w1 p hq h1 h2 => by
    refine (deleteC w1 B g off cap p _ h1 hq.at_.rd).mono ?_
    rintro e w2 ⟨rfl, hr, hc⟩
    have hc' : Chg (fun k => ∃ y, (some ⟨g, off, none⟩ : Option Addr) = some y ∧ k = y.block) w1 w2 := hc.mono (fun k hk => Or.inl ⟨_, rfl, hk⟩)
    have hh := hq.header hc'
    refine ⟨rfl, hh.1, hh.2, ?_⟩
    have := hq.ready hr (fun x hx => Or.inl ⟨x, hx, rfl⟩) hc' rfl
    rw [List.length_eraseIdx_of_lt h1, hturn p h1 h2] at this
    exact Lib.hid this
  have hd : ∀ w1 r', DQ w (DF D F (some ⟨g, off, none⟩)) B D now l r' P F (some ⟨g, off, none⟩) cap w1 → Calls Try.prog 36 #[.pointer (some ⟨P, 0, none⟩), .int .i64 (Wh.key k i)] w1 (RetW WIs (.bool true) B P now (Wh.without l (Wh.key k i)) F w1) := fun w1 r' hq => by
    rw [← hhas]
    exact dropC (Wh.key k i) w1 B P now l F (key_wf hm) hq.at_.nd hq.at_.wh
  have hfin : ∀ w1 e w2, DQ w (DF D F (some ⟨g, off, none⟩)) B D now l (Wh.turned (Wh.without l (Wh.key k i)) now) P F (some ⟨g, off, none⟩) cap w1 → RetW WIs (.bool true) B P now (Wh.without l (Wh.key k i)) F w1 e w2 → RetW DIs (.bool true) B D now (Wh.without l (Wh.key k i)) (DF D F (some ⟨g, off, none⟩)) w e w2 := fun w1 e w2 hq hw => by
    obtain ⟨F', h2⟩ := hq.dropped hw
    exact h2.ret hw.r
  have HQ := Lib.hid hq
  have HD := Lib.hid hd
  have HDEL := Lib.hid hdel
  have HF := Lib.hid hfin
  have HN := Lib.hid hnot
  have hlt : ∀ p, p < (Wh.turned l now).length → p < 1001 := fun p hp => by omega
  have HLT := Lib.hid hlt
  clear ka h hnl hlen e1 hnot hhas hturn hq hd hfin hf hdel hmem hsort hlt
  generalize Wh.key k i = kk at *
  generalize hrr : Wh.turned l now = R at *
  clear hrr
  go_enter Try.func20, Try.ntmps20
  go_wp2_with (first | (go_at_call 9; (with_reducible refine KA.out.mono ?_); rintro e w1 ⟨rfl, rfl⟩) | (go_at_call 26; (with_reducible refine (KK.out _).mono ?_); rintro e w1 ⟨rfl, rfl⟩) | (go_at_call 32; (with_reducible refine KF.out.mono ?_); rintro e w1 ⟨⟨p, b, rfl, hp, hb⟩, hbw⟩; obtain ⟨rfl, hpl, hpe⟩ := HN.out _ _ hp hb; have hQ := HQ.out _ hbw; have c1 := hQ.at_.sl; have HPL := Lib.hid hpl; have hpn := HLT.out _ hpl; have HDE := Lib.hid (HDEL.out _ _ hQ hpl hpe); clear hp hb hbw hQ hpe hpl) | (go_at_call 38; (with_reducible refine HDE.out.mono ?_); rintro e w2 ⟨rfl, c2, f2, hQ2⟩; have c0 := hQ2.out.at_.ptr; have HDR := Lib.hid (HD.out _ _ hQ2.out)) | (go_at_call 36; (with_reducible refine HDR.out.mono ?_); intro e w3 hw; obtain rfl := hw.r; have HW := Lib.hid (HF.out _ _ _ hQ2.out hw); clear hw))
  go_ret
  exact HW.out

theorem clearC (k i : Int) (w : World) (B D : Nat) (now : Int) (l : List Wh.E) (G : Nat → Prop) (hl : l.length ≤ 1000) (h : DIs w B D now l G) :
    Calls Try.prog 20 #[.pointer (some ⟨D, 0, none⟩), .int .i64 k, .int .i64 i] w (RetW DIs (.bool (atR2 l k i).isSome) B D now (clearL l k i) G w) := by
  cases hf : atR2 l k i with
  | none =>
    have e : clearL l k i = l := by
      unfold clearL
      unfold atR2 at hf
      by_cases hm : Wh.May k i
      · rw [if_pos hm] at hf ⊢
        exact Wh.without_none hf
      · rw [if_neg hm]
    rw [e]
    exact clearNone k i w B D now l G h hf
  | some t =>
    unfold atR2 at hf
    by_cases hm : Wh.May k i
    · rw [if_pos hm] at hf
      have e : clearL l k i = Wh.without l (Wh.key k i) := by unfold clearL; rw [if_pos hm]
      rw [e]
      by_cases ht : t ≤ now
      · exact clearNear k i t w B D now l G hl hm hf ht h
      · exact clearFar k i t w B D now l G hl hm hf (by omega) h
    · rw [if_neg hm] at hf
      cases hf
end Go.Proofs.Ytmmfmpnkjienfaa
