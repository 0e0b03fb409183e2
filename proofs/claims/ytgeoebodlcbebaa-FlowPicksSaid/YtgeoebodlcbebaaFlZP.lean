/-
  The walk of FlowPicks.
-/
import Derived.Test.YtgeoebodlcbebaaFlP
import Derived.Test.YtgeoebodlcbebaaFlZ
namespace Go.Proofs.Ytgeoebodlcbebaa
theorem flowPicks_walk (q : Int) (a : Option Addr) (len cap : Nat) (w : World) (_ : (Lit.int .i64 q).wf = true) (h : ∃ t, ActAt w a len t) : Calls Try.prog 5 #[.int .i64 q, .slice a len cap] w (Ret (.bool true) w) := by
  by_cases hq : 1 ≤ q ∧ q ≤ 64
  · by_cases h1 : 200 < len
    · exact picks_many q a len cap w hq.1 hq.2 h1
    · obtain ⟨t, ht⟩ := h
      exact picks_at q a len cap t w hq.1 hq.2 (by omega) ht
  · exact picks_nil q a len cap w hq
end Go.Proofs.Ytgeoebodlcbebaa
