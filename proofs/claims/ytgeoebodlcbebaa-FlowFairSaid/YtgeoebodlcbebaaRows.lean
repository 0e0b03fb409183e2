/-
  No cell of these rows narrows 'for every input' (looked for: loops, veiled, ifaces, maps, wideKeys, modest, calm, conditions, laid).
  DERIVED. THE GIVEN ROWS OF THIS SEAT. 4 by the template 'for every input the law returns true; each argument reads behind the call as it read before'; 0 by the template 'total and deterministic' (their statements: YtgeoebodlcbebaaTotals.lean).
  GIVEN WITH THE SEED: the statements are not yours to turn. If you find one false, say at which input.
  Laid BY PROGRAM, IN A SANDBOX (cutbox-rows.mjs): the forced cells as the released guide's own fill.sh prints them over the translation 23265f10760e16a9… (all of the seat's roots in one cut). By AI agents, Wed Nov 11 2026. No macro, syntax, notation, axiom, sorry.
-/
import Derived.Test.YtgeoebodlcbebaaChecked
import GoSem.Claim
import GoSem.ClaimJoined
import GoSem.ClaimMapViews
import Derived.JoinedTies
import Derived.KernelRfl
namespace Go.Proofs.Ytgeoebodlcbebaa
/- THE CELL 'sum', in the pinned program and in every row, IS THE sha256 OF THE DUMP (.gsa) THAT YtgeoebodlcbebaaProg.lean LOADS. Nothing in Lean hashes anything: it is a label: what it is worth is what the hold of that sum in a sandbox is worth. -/
noncomputable def Try.pinned : Pinned := { name := "ytgeoebodlcbebaa", sum := "23265f10760e16a9c307200f933f9726598bfb9882ba99a2aa3f35148adb1fbf", checked := Try.checked }
namespace Rows
def none {H : Type} : Left H := { results := [], args := [] }

/-- 'billetlaw15.FlowActs': WHATEVER THE INPUT: true; the input reads as it did. -/
def flowActsSpec : ChangeSpec := { name := "flowActs", fn := fun _ => fun
  | [d1, d2] => { results := [.lit (.bool true)], args := [d1, d2] }
  | _ => none }
def flowActsRow : OpenClaim := { program := "ytgeoebodlcbebaa", sum := "23265f10760e16a9c307200f933f9726598bfb9882ba99a2aa3f35148adb1fbf", func := "billet/billetlaw15.FlowActs", spec := "flowActs", unfollowed := true, recurses := true, apart := false }
def FlowActsSaid : Prop := flowActsRow.holds Try.pinned (OpenSpec.ofChange flowActsSpec)

/-- ITS FALSE NEIGHBOUR: 'it returns false'. Refute it at one input. -/
def flowActsWrong : ChangeSpec := { name := "flowActs", fn := fun _ => fun
  | [d1, d2] => { results := [.lit (.bool false)], args := [d1, d2] }
  | _ => none }
def FlowActsWrongFalsely : Prop := flowActsRow.holds Try.pinned (OpenSpec.ofChange flowActsWrong)

/-- 'billetlaw15.FlowFair': WHATEVER THE INPUT: true; the input reads as it did. -/
def flowFairSpec : ChangeSpec := { name := "flowFair", fn := fun _ => fun
  | [d1, d2, d3] => { results := [.lit (.bool true)], args := [d1, d2, d3] }
  | _ => none }
def flowFairRow : OpenClaim := { program := "ytgeoebodlcbebaa", sum := "23265f10760e16a9c307200f933f9726598bfb9882ba99a2aa3f35148adb1fbf", func := "billet/billetlaw15.FlowFair", spec := "flowFair", unfollowed := true, recurses := true, apart := false }
def FlowFairSaid : Prop := flowFairRow.holds Try.pinned (OpenSpec.ofChange flowFairSpec)

/-- ITS FALSE NEIGHBOUR: 'it returns false'. Refute it at one input. -/
def flowFairWrong : ChangeSpec := { name := "flowFair", fn := fun _ => fun
  | [d1, d2, d3] => { results := [.lit (.bool false)], args := [d1, d2, d3] }
  | _ => none }
def FlowFairWrongFalsely : Prop := flowFairRow.holds Try.pinned (OpenSpec.ofChange flowFairWrong)

/-- 'billetlaw15.FlowPicks': WHATEVER THE INPUT: true; the input reads as it did. -/
def flowPicksSpec : ChangeSpec := { name := "flowPicks", fn := fun _ => fun
  | [d1, d2] => { results := [.lit (.bool true)], args := [d1, d2] }
  | _ => none }
def flowPicksRow : OpenClaim := { program := "ytgeoebodlcbebaa", sum := "23265f10760e16a9c307200f933f9726598bfb9882ba99a2aa3f35148adb1fbf", func := "billet/billetlaw15.FlowPicks", spec := "flowPicks", unfollowed := true, recurses := true, apart := false }
def FlowPicksSaid : Prop := flowPicksRow.holds Try.pinned (OpenSpec.ofChange flowPicksSpec)

/-- ITS FALSE NEIGHBOUR: 'it returns false'. Refute it at one input. -/
def flowPicksWrong : ChangeSpec := { name := "flowPicks", fn := fun _ => fun
  | [d1, d2] => { results := [.lit (.bool false)], args := [d1, d2] }
  | _ => none }
def FlowPicksWrongFalsely : Prop := flowPicksRow.holds Try.pinned (OpenSpec.ofChange flowPicksWrong)

/-- 'billetlaw15.FlowLoads': WHATEVER THE INPUT: true; the input reads as it did. -/
def flowLoadsSpec : ChangeSpec := { name := "flowLoads", fn := fun _ => fun
  | [d1, d2, d3] => { results := [.lit (.bool true)], args := [d1, d2, d3] }
  | _ => none }
def flowLoadsRow : OpenClaim := { program := "ytgeoebodlcbebaa", sum := "23265f10760e16a9c307200f933f9726598bfb9882ba99a2aa3f35148adb1fbf", func := "billet/billetlaw15.FlowLoads", spec := "flowLoads", unfollowed := true, recurses := true, apart := false }
def FlowLoadsSaid : Prop := flowLoadsRow.holds Try.pinned (OpenSpec.ofChange flowLoadsSpec)

/-- ITS FALSE NEIGHBOUR: 'it returns false'. Refute it at one input. -/
def flowLoadsWrong : ChangeSpec := { name := "flowLoads", fn := fun _ => fun
  | [d1, d2, d3] => { results := [.lit (.bool false)], args := [d1, d2, d3] }
  | _ => none }
def FlowLoadsWrongFalsely : Prop := flowLoadsRow.holds Try.pinned (OpenSpec.ofChange flowLoadsWrong)

/- THE SECOND FORM. 'bulk': how many values and letters a reading holds, each counted each time it is reached (what is shared counts as often as it is met; a slice's spare places count too). A statement '..UptoSaid' is the law's where the arguments, and the package variables that the reading takes, are together of bulk at most 1048576: NARROWER than '..Said'. Prove '..Said' where nothing that the law and all that it calls make is longer than what came in: it says more and counts as full. Else prove '..UptoSaid'. A law counts once. -/
mutual
def uptoBulk {H : Type} : DataW H → Nat
  | .lit (.string bytes) => bytes.length + 1
  | .lit _ => 1
  | .nil => 1
  | .ptr d => uptoBulk d + 1
  | .slice elems spare => uptoBulkAll elems + uptoBulkAll spare + 1
  | .agg parts => uptoBulkAll parts + 1
  | .iface _ d => uptoBulk d + 1
  | .map entries => uptoBulkEntries entries + 1
  | .held _ => 1
def uptoBulkAll {H : Type} : List (DataW H) → Nat
  | [] => 0
  | d :: r => uptoBulk d + uptoBulkAll r
def uptoBulkEntries {H : Type} : List (Lit × DataW H) → Nat
  | [] => 0
  | x :: r => uptoBulkEntry x + uptoBulkEntries r
def uptoBulkEntry {H : Type} : Lit × DataW H → Nat
  | (.string bytes, d) => bytes.length + uptoBulk d + 1
  | (_, d) => uptoBulk d + 1
 end
def uptoSmall : (H : Type) → List (DataW H) → Bool := fun _ ds => decide (uptoBulkAll ds ≤ 1048576)
def OpenSpec.upto (s : _root_.Go.ChangeSpec) : _root_.Go.OpenSpec := { _root_.Go.OpenSpec.ofChange s with cond := some uptoSmall }

/-- 'billetlaw15.FlowActs', WHERE WHAT IT READS IS OF BULK AT MOST 1048576: true; the input reads as it did. -/
def flowActsUptoRow : OpenClaim := { program := "ytgeoebodlcbebaa", sum := "23265f10760e16a9c307200f933f9726598bfb9882ba99a2aa3f35148adb1fbf", func := "billet/billetlaw15.FlowActs", spec := "flowActs", unfollowed := true, recurses := true, apart := false, narrowed := true }
def FlowActsUptoSaid : Prop := flowActsUptoRow.holds Try.pinned (OpenSpec.upto flowActsSpec)

/-- 'billetlaw15.FlowFair', WHERE WHAT IT READS IS OF BULK AT MOST 1048576: true; the input reads as it did. -/
def flowFairUptoRow : OpenClaim := { program := "ytgeoebodlcbebaa", sum := "23265f10760e16a9c307200f933f9726598bfb9882ba99a2aa3f35148adb1fbf", func := "billet/billetlaw15.FlowFair", spec := "flowFair", unfollowed := true, recurses := true, apart := false, narrowed := true }
def FlowFairUptoSaid : Prop := flowFairUptoRow.holds Try.pinned (OpenSpec.upto flowFairSpec)

/-- 'billetlaw15.FlowPicks', WHERE WHAT IT READS IS OF BULK AT MOST 1048576: true; the input reads as it did. -/
def flowPicksUptoRow : OpenClaim := { program := "ytgeoebodlcbebaa", sum := "23265f10760e16a9c307200f933f9726598bfb9882ba99a2aa3f35148adb1fbf", func := "billet/billetlaw15.FlowPicks", spec := "flowPicks", unfollowed := true, recurses := true, apart := false, narrowed := true }
def FlowPicksUptoSaid : Prop := flowPicksUptoRow.holds Try.pinned (OpenSpec.upto flowPicksSpec)

/-- 'billetlaw15.FlowLoads', WHERE WHAT IT READS IS OF BULK AT MOST 1048576: true; the input reads as it did. -/
def flowLoadsUptoRow : OpenClaim := { program := "ytgeoebodlcbebaa", sum := "23265f10760e16a9c307200f933f9726598bfb9882ba99a2aa3f35148adb1fbf", func := "billet/billetlaw15.FlowLoads", spec := "flowLoads", unfollowed := true, recurses := true, apart := false, narrowed := true }
def FlowLoadsUptoSaid : Prop := flowLoadsUptoRow.holds Try.pinned (OpenSpec.upto flowLoadsSpec)

end Rows
end Go.Proofs.Ytgeoebodlcbebaa
