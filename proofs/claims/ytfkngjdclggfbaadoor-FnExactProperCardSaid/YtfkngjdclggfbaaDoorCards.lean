/-
  DERIVED. GIVEN WITH THE SEED: THE CARDS: each row of YtfkngjdclggfbaaDoorRows.lean that lists a variable, with what it lists TIED to the program's text (the seventh form; the later family's looks); each row that meets fmt, with fmt's text TOLD by the authors' own Lean function (tested against real Go, not proved from fmt's source: count such statements apart). THE CARD IS WHAT COUNTS. Prove the row's statement (the work); the ties are given (YtfkngjdclggfbaaDoorTie.lean); close each card by the builder's one call (the guide's Derived/Test/ToyasCard.lean, 'card_holds'). Laid BY PROGRAM, IN A SANDBOX (cutbox-door.mjs). By AI agents, Wed Nov 11 2026. No macro, syntax, notation, axiom, sorry.
-/
import Derived.Test.YtfkngjdclggfbaaDoorRows
import GoSem.ClaimSeven
namespace Go.Proofs.YtfkngjdclggfbaaDoor
namespace Rows

/-- THE TIED CARD OF 'laws.FnExactOpen'. -/
def fnExactOpenCard : Claim7 := { stood := { row := fnExactOpenRow, standIns := [], harness := (true, "9ab436adece36c216ce7cda0b1b4e77ac4382508d7ee8765eb584d2b35cf4628"), looks := false }, kinds := [], alts := [], laidByText := true, laidKinds := [.data, .pinned], laidTests := true, laidLooks := .later }
def FnExactOpenCardSaid : Prop := Claim7.holds Tryd.pinned (.plain (OpenSpec.ofChange fnExactOpenSpec)) fnExactOpenCard

/-- THE TIED CARD OF 'laws.FnExactProper'. -/
def fnExactProperCard : Claim7 := { stood := { row := fnExactProperRow, standIns := [], harness := (true, "9ab436adece36c216ce7cda0b1b4e77ac4382508d7ee8765eb584d2b35cf4628"), looks := false }, kinds := [], alts := [], laidByText := true, laidKinds := [.data, .pinned], laidTests := true, laidLooks := .later }
def FnExactProperCardSaid : Prop := Claim7.holds Tryd.pinned (.plain (OpenSpec.ofChange fnExactProperSpec)) fnExactProperCard

/-- THE SECOND FORM's CARD OF 'laws.FnExactOpen'. -/
def fnExactOpenUptoCard : Claim7 := { stood := { row := fnExactOpenUptoRow, standIns := [], harness := (true, "9ab436adece36c216ce7cda0b1b4e77ac4382508d7ee8765eb584d2b35cf4628"), looks := false }, kinds := [], alts := [], laidByText := true, laidKinds := [.data, .pinned], laidTests := true, laidLooks := .later }
def FnExactOpenUptoCardSaid : Prop := Claim7.holds Tryd.pinned (.plain (OpenSpec.upto fnExactOpenSpec)) fnExactOpenUptoCard

/-- THE SECOND FORM's CARD OF 'laws.FnExactProper'. -/
def fnExactProperUptoCard : Claim7 := { stood := { row := fnExactProperUptoRow, standIns := [], harness := (true, "9ab436adece36c216ce7cda0b1b4e77ac4382508d7ee8765eb584d2b35cf4628"), looks := false }, kinds := [], alts := [], laidByText := true, laidKinds := [.data, .pinned], laidTests := true, laidLooks := .later }
def FnExactProperUptoCardSaid : Prop := Claim7.holds Tryd.pinned (.plain (OpenSpec.upto fnExactProperSpec)) fnExactProperUptoCard
end Rows
end Go.Proofs.YtfkngjdclggfbaaDoor
