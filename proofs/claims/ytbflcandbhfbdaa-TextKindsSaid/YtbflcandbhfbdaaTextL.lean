/-
  The laws of layer 3.
-/
import Derived.Test.YtbflcandbhfbdaaTextD
import Derived.Deep.RegionHeld3
namespace Go.Proofs.Ytbflcandbhfbdaa
open Go.RowKit
set_option linter.unusedVariables false

theorem wfi32 {v : Int} (h : (Lit.int .i32 v).wf = true) : -2147483648 ≤ v ∧ v ≤ 2147483647 := by
  have e1 : IntKind.i32.min = -2147483648 := by decide
  have e2 : IntKind.i32.max = 2147483647 := by decide
  simp [Lit.wf] at h
  omega

theorem textKinds_walk (r : Int) (w : World) (w0 : (Lit.int .i32 r).wf = true) :
    Calls Try.prog 3 #[.int .i32 r] w (Ret (.bool true) w) := by
  obtain ⟨h0, h1⟩ := wfi32 w0
  clear w0
  have c1 := fun W => kindC r W h0 h1
  have c2 := fun W => refKindC r W
  generalize Tx.kd r = k at c1 c2
  have C1 := Lib.hid c1; clear c1
  have C2 := Lib.hid c2; clear c2
  have hb := Below.refl w.heap.size w
  go_enter Try.func3, Try.ntmps3
  go_wp2_with (first | (go_at_call 7; (with_reducible refine (C1.out _).mono ?_); rintro e w1 ⟨rfl, rfl⟩) | (go_at_call 8; (with_reducible refine (C2.out _).mono ?_); rintro e w1 ⟨rfl, rfl⟩) | (go_at_call 9; (with_reducible refine (liveOk _).mono ?_); rintro e w1 ⟨rfl, hbx⟩; (first | replace hb := hb.trans (hbx.mono hb.size) | replace hb := hb.drew.trans (hbx.mono hb.size)); clear hbx))
  go_ret
  exact ⟨rfl, hb⟩

set_option maxHeartbeats 1000000 in
set_option maxRecDepth 100000 in
theorem textNames_walk (s : ByteArray) (w : World) (w0 : s.size ≤ maxLen) :
    Calls Try.prog 4 #[.string s] w (Ret (.bool true) w) := by
  have hs := len_max w0
  clear w0
  have hb := Below.refl w.heap.size w
  by_cases hz : s.size ≤ 1000
  · have c1 := fun W => nameC s W hs
    have c2 := fun W => refNameC s W hs
    have c3 := fun W => foldC s W (by omega)
    have c4 := fun W => refFoldC s W (by omega)
    have c5 := fun W => countC s W hs
    have c6 := fun W => runesC s W (by omega)
    have hl : (Tx.runesL (bl s)).length ≤ 1000 := by have := (Tx.runesL_length (bl s)).1; rw [bl_length] at this; omega
    generalize Tx.nameL (bl s) = nm at *
    generalize Fo s = fo at *
    generalize Tx.runesL (bl s) = rs at *
    have C1 := Lib.hid c1; clear c1
    have C2 := Lib.hid c2; clear c2
    have C3 := Lib.hid c3; clear c3
    have C4 := Lib.hid c4; clear c4
    have C5 := Lib.hid c5; clear c5
    have C6 := Lib.hid c6; clear c6
    cases nm
    all_goals
      go_enter Try.func4, Try.ntmps4
      go_wp2_with (first | (go_at_call 10; (with_reducible refine (C1.out _).mono ?_); rintro e w1 ⟨rfl, hbx⟩; (first | replace hb := hb.trans (hbx.mono hb.size) | replace hb := hb.drew.trans (hbx.mono hb.size)); clear hbx) | (go_at_call 11; (with_reducible refine (C2.out _).mono ?_); rintro e w1 ⟨rfl, hbx⟩; (first | replace hb := hb.trans (hbx.mono hb.size) | replace hb := hb.drew.trans (hbx.mono hb.size)); clear hbx) | (go_at_call 12; (with_reducible refine (C3.out _).mono ?_); rintro e w1 ⟨rfl, hbx⟩; (first | replace hb := hb.trans (hbx.mono hb.size) | replace hb := hb.drew.trans (hbx.mono hb.size)); clear hbx) | (go_at_call 13; (with_reducible refine (C4.out _).mono ?_); rintro e w1 ⟨rfl, hbx⟩; (first | replace hb := hb.trans (hbx.mono hb.size) | replace hb := hb.drew.trans (hbx.mono hb.size)); clear hbx) | (go_at_call 14; (with_reducible refine (C5.out _).mono ?_); rintro e w1 ⟨rfl, hbx⟩; (first | replace hb := hb.trans (hbx.mono hb.size) | replace hb := hb.drew.trans (hbx.mono hb.size)); clear hbx) | (go_at_call 15; (with_reducible refine (C6.out _).mono ?_); rintro e w1 ⟨⟨v, rfl, ⟨g, cap, cur, rfl, hg, hgc, hcur⟩⟩, hbx⟩; replace hb := hb.trans (hbx.mono hb.size); clear hbx hg hgc hcur) | (go_at_call 9; (with_reducible refine (liveOk _).mono ?_); rintro e w1 ⟨rfl, hbx⟩; (first | replace hb := hb.trans (hbx.mono hb.size) | replace hb := hb.drew.trans (hbx.mono hb.size)); clear hbx))
      go_ret
      exact ⟨rfl, hb⟩
  · have hz2 : 1000 < s.size := by omega
    clear hz
    go_enter Try.func4, Try.ntmps4
    go_wp2_with (go_at_call 9; (with_reducible refine (liveOk _).mono ?_); rintro e w1 ⟨rfl, hbx⟩; (first | replace hb := hb.trans (hbx.mono hb.size) | replace hb := hb.drew.trans (hbx.mono hb.size)); clear hbx)
    go_ret
    exact ⟨rfl, hb⟩

theorem fo_two (s : ByteArray) : Fo (Fo s) = Fo s := bl_inj (by rw [fo_bl, fo_bl, Tx.foldL_two])
theorem fo_count (s : ByteArray) : (Tx.runesL (bl (Fo s))).length = (Tx.runesL (bl s)).length := by rw [fo_bl, Tx.foldL_count]
theorem fo_name (s : ByteArray) (h : Tx.nameL (bl s) = true) : Fo s = s := bl_inj (by rw [fo_bl, Tx.foldL_name _ h])
theorem fo_kind (s : ByteArray) (r : Int) (h : r ∈ Tx.runesL (bl (Fo s))) : Tx.kd r ≠ 4 := by
  rw [fo_bl, Tx.runesL_fold] at h
  obtain ⟨x, _, rfl⟩ := List.mem_map.1 h
  exact Tx.foldR_no x

set_option maxHeartbeats 1000000 in
set_option maxRecDepth 100000 in
theorem textFolds_walk (s : ByteArray) (w : World) (w0 : s.size ≤ maxLen) :
    Calls Try.prog 6 #[.string s] w (Ret (.bool true) w) := by
  have hs := len_max w0
  clear w0
  by_cases hz : s.size ≤ 1000
  · have hfs := fo_size s
    have c3 := fun W => foldC s W (by omega)
    have c4 := fun W => foldC (Fo s) W (by omega)
    rw [fo_two] at c4
    have c1 := fun W => nameC s W hs
    have c5 := fun W => countC (Fo s) W (by omega)
    rw [fo_count] at c5
    have c6 := fun W => countC s W hs
    have hn := fo_name s
    have hk := fo_kind s
    generalize (Tx.runesL (bl s)).length = m at *
    generalize Fo s = f at *
    generalize Tx.nameL (bl s) = nm at *
    have hf : f.size ≤ 4000 := by omega
    clear hfs
    have C1 := Lib.hid c1; clear c1
    have C3 := Lib.hid c3; clear c3
    have C4 := Lib.hid c4; clear c4
    have C5 := Lib.hid c5; clear c5
    have C6 := Lib.hid c6; clear c6
    have HK := Lib.hid hk; clear hk
    have HN := Lib.hid hn; clear hn
    go_enter Try.func6, Try.ntmps6
    go_wp2_with ((go_at_call 12; (with_reducible refine (C3.out _).mono ?_); rintro e w1 ⟨rfl, hb⟩))
    go_loopw [] (fun wr => ∃ pos : Nat, pos ≤ f.size ∧ wr = w1.iter f pos ∧ Hid (∀ x ∈ Tx.runesL ((bl f).drop pos), Tx.kd x ≠ 4)) (fun wr => f.size - wr.iterPos w1.heap.size)
    case atStart => exact ⟨0, by omega, rfl, fun x hx => HK.out x (by simpa using hx)⟩
    case round =>
      obtain ⟨pos, hpos, rfl, hall⟩ := hrel
      by_cases hp : pos < f.size
      · obtain ⟨r, p, hd, hp1, hp2, hr, hv, hrun, hq⟩ := next_step f pos hp
        have hnx : ∀ ty, (Instr.next (.pointer (some ⟨w1.heap.size, 0, none⟩)) true ty).run Try.prog (w1.iter f pos) = .ok (.tuple #[.bool true, .int .i64 pos, .int .i32 r]) (w1.iter f p) := fun ty => by
          rw [run_next_any w1 f pos ty hp, hd, show pos + (p - pos) = p by omega]
        have hall2 := hall.out
        rw [hrun] at hall2
        have hall3 : Hid (∀ x ∈ Tx.runesL ((bl f).drop p), Tx.kd x ≠ 4) := fun x hx => hall2 x (List.mem_cons_of_mem _ hx)
        have h4 : (Tx.kd (r : Int) == 4) = false := by have := hall2 (r : Int) (List.mem_cons_self ..); simpa using this
        have c := fun W => kindC (r : Int) W (by omega) (by omega)
        have C := Lib.hid c
        clear hd hrun hq hv hall2 hall c
        go_wp2_with (go_at_call 7; (with_reducible refine (C.out _).mono ?_); rintro e w1 ⟨rfl, rfl⟩)
        go_roundw
        case rel => exact ⟨p, hp2, rfl, hall3⟩
        case measure => simp; omega
      · have hnx : ∀ ty, (Instr.next (.pointer (some ⟨w1.heap.size, 0, none⟩)) true ty).run Try.prog (w1.iter f pos) = .ok (.tuple #[.bool false]) (w1.iter f pos) := fun ty => run_next_end w1 f pos ty hp
        replace hb := hb.trans ((iter_below w1 f pos).mono hb.size)
        clear hall
        cases nm with
        | true =>
          have hfs := HN.out rfl
          subst hfs
          clear HN HK
          go_wp2_with (first | (go_at_call 10; (with_reducible refine (C1.out _).mono ?_); rintro e w1 ⟨rfl, hbx⟩; (first | replace hb := hb.trans (hbx.mono hb.size) | replace hb := hb.drew.trans (hbx.mono hb.size)); clear hbx) | (go_at_call 12; (with_reducible refine (C4.out _).mono ?_); rintro e w1 ⟨rfl, hbx⟩; (first | replace hb := hb.trans (hbx.mono hb.size) | replace hb := hb.drew.trans (hbx.mono hb.size)); clear hbx) | (go_at_call 14; (with_reducible refine (C5.out _).mono ?_); rintro e w1 ⟨rfl, hbx⟩; (first | replace hb := hb.trans (hbx.mono hb.size) | replace hb := hb.drew.trans (hbx.mono hb.size)); clear hbx) | (go_at_call 9; (with_reducible refine (liveOk _).mono ?_); rintro e w1 ⟨rfl, hbx⟩; (first | replace hb := hb.trans (hbx.mono hb.size) | replace hb := hb.drew.trans (hbx.mono hb.size)); clear hbx))
          go_ret
          exact ⟨rfl, hb⟩
        | false =>
          clear HN HK
          go_wp2_with (first | (go_at_call 10; (with_reducible refine (C1.out _).mono ?_); rintro e w1 ⟨rfl, hbx⟩; (first | replace hb := hb.trans (hbx.mono hb.size) | replace hb := hb.drew.trans (hbx.mono hb.size)); clear hbx) | (go_at_call 12; (with_reducible refine (C4.out _).mono ?_); rintro e w1 ⟨rfl, hbx⟩; (first | replace hb := hb.trans (hbx.mono hb.size) | replace hb := hb.drew.trans (hbx.mono hb.size)); clear hbx) | (go_at_call 14; (with_reducible refine (C5.out _).mono ?_); rintro e w1 ⟨rfl, hbx⟩; (first | replace hb := hb.trans (hbx.mono hb.size) | replace hb := hb.drew.trans (hbx.mono hb.size)); clear hbx) | (go_at_call 14; (with_reducible refine (C6.out _).mono ?_); rintro e w1 ⟨rfl, hbx⟩; (first | replace hb := hb.trans (hbx.mono hb.size) | replace hb := hb.drew.trans (hbx.mono hb.size)); clear hbx) | (go_at_call 9; (with_reducible refine (liveOk _).mono ?_); rintro e w1 ⟨rfl, hbx⟩; (first | replace hb := hb.trans (hbx.mono hb.size) | replace hb := hb.drew.trans (hbx.mono hb.size)); clear hbx))
          go_ret
          exact ⟨rfl, hb⟩
  · have hb := Below.refl w.heap.size w
    have hz2 : 1000 < s.size := by omega
    clear hz
    go_enter Try.func6, Try.ntmps6
    go_wp2_with (go_at_call 9; (with_reducible refine (liveOk _).mono ?_); rintro e w1 ⟨rfl, hbx⟩; (first | replace hb := hb.trans (hbx.mono hb.size) | replace hb := hb.drew.trans (hbx.mono hb.size)); clear hbx)
    go_ret
    exact ⟨rfl, hb⟩
end Go.Proofs.Ytbflcandbhfbdaa
