/-
  DERIVED. GIVEN WITH THE SEED: THE CARDS: each row of YtmfnfjcoaijjdaaDoorRows.lean that lists a variable, with what it lists TIED to the program's text (the seventh form; the later family's looks); each row that meets fmt, with fmt's text TOLD by the authors' own Lean function (tested against real Go, not proved from fmt's source: count such statements apart). THE CARD IS WHAT COUNTS. Prove the row's statement (the work); the ties are given (YtmfnfjcoaijjdaaDoorTie.lean); close each card by the builder's one call (the guide's Derived/Test/ToyasCard.lean, 'card_holds'). Laid BY PROGRAM, IN A SANDBOX (cutbox-door.mjs). By AI agents, Wed Nov 11 2026. No macro, syntax, notation, axiom, sorry.
-/
import Derived.Test.YtmfnfjcoaijjdaaDoorRows
import GoSem.ClaimSeven
namespace Go.Proofs.YtmfnfjcoaijjdaaDoor
namespace Rows

/-- THE TIED CARD OF 'billetlaw04.PropParses'. -/
def propParsesCard : Claim7 := { stood := { row := propParsesRow, standIns := [], harness := (true, "9e51cbdbf9258c4963a66e9bbac37c95f525c81a0450ca6e66db85442ddacb89"), looks := false }, kinds := [], alts := [], laidByText := true, laidKinds := [.data, .pinned], laidTests := true, laidLooks := .later }
def PropParsesCardSaid : Prop := Claim7.holds Tryd.pinned (.plain (OpenSpec.ofChange propParsesSpec)) propParsesCard

/-- THE TIED CARD OF 'billetlaw04.PropMatches'. -/
def propMatchesCard : Claim7 := { stood := { row := propMatchesRow, standIns := [], harness := (true, "9e51cbdbf9258c4963a66e9bbac37c95f525c81a0450ca6e66db85442ddacb89"), looks := false }, kinds := [], alts := [], laidByText := true, laidKinds := [.data, .pinned], laidTests := true, laidLooks := .later }
def PropMatchesCardSaid : Prop := Claim7.holds Tryd.pinned (.plain (OpenSpec.ofChange propMatchesSpec)) propMatchesCard

/-- THE TIED CARD OF 'billetlaw04.PropOrder'. -/
def propOrderCard : Claim7 := { stood := { row := propOrderRow, standIns := [], harness := (true, "9e51cbdbf9258c4963a66e9bbac37c95f525c81a0450ca6e66db85442ddacb89"), looks := false }, kinds := [], alts := [], laidByText := true, laidKinds := [.data, .pinned], laidTests := true, laidLooks := .later }
def PropOrderCardSaid : Prop := Claim7.holds Tryd.pinned (.plain (OpenSpec.ofChange propOrderSpec)) propOrderCard

/-- THE SECOND FORM's CARD OF 'billetlaw04.PropParses'. -/
def propParsesUptoCard : Claim7 := { stood := { row := propParsesUptoRow, standIns := [], harness := (true, "9e51cbdbf9258c4963a66e9bbac37c95f525c81a0450ca6e66db85442ddacb89"), looks := false }, kinds := [], alts := [], laidByText := true, laidKinds := [.data, .pinned], laidTests := true, laidLooks := .later }
def PropParsesUptoCardSaid : Prop := Claim7.holds Tryd.pinned (.plain (OpenSpec.upto propParsesSpec)) propParsesUptoCard

/-- THE SECOND FORM's CARD OF 'billetlaw04.PropMatches'. -/
def propMatchesUptoCard : Claim7 := { stood := { row := propMatchesUptoRow, standIns := [], harness := (true, "9e51cbdbf9258c4963a66e9bbac37c95f525c81a0450ca6e66db85442ddacb89"), looks := false }, kinds := [], alts := [], laidByText := true, laidKinds := [.data, .pinned], laidTests := true, laidLooks := .later }
def PropMatchesUptoCardSaid : Prop := Claim7.holds Tryd.pinned (.plain (OpenSpec.upto propMatchesSpec)) propMatchesUptoCard

/-- THE SECOND FORM's CARD OF 'billetlaw04.PropOrder'. -/
def propOrderUptoCard : Claim7 := { stood := { row := propOrderUptoRow, standIns := [], harness := (true, "9e51cbdbf9258c4963a66e9bbac37c95f525c81a0450ca6e66db85442ddacb89"), looks := false }, kinds := [], alts := [], laidByText := true, laidKinds := [.data, .pinned], laidTests := true, laidLooks := .later }
def PropOrderUptoCardSaid : Prop := Claim7.holds Tryd.pinned (.plain (OpenSpec.upto propOrderSpec)) propOrderUptoCard
end Rows
end Go.Proofs.YtmfnfjcoaijjdaaDoor
