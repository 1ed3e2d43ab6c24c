/-
  DERIVED. GIVEN WITH THE SEED: THE CARDS: each row of YtlolnfpfipnfeaaGreatDoorRows.lean that lists a variable, with what it lists TIED to the program's text (the seventh form; the later family's looks); each row that meets fmt, with fmt's text TOLD by the authors' own Lean function (tested against real Go, not proved from fmt's source: count such statements apart). THE CARD IS WHAT COUNTS. Prove the row's statement (the work); the ties are given (YtlolnfpfipnfeaaGreatDoorTie.lean); close each card by the builder's one call (the guide's Derived/Test/ToyasCard.lean, 'card_holds'). Laid BY PROGRAM, IN A SANDBOX (cutbox-door.mjs). By AI agents, Wed Nov 11 2026. No macro, syntax, notation, axiom, sorry.
-/
import Derived.Test.YtlolnfpfipnfeaaGreatDoorRows
import GoSem.ClaimSeven
namespace Go.Proofs.YtlolnfpfipnfeaaGreatDoor
namespace Rows

/-- THE TIED CARD OF 'laws.FnBounces'. -/
def fnBouncesCard : Claim7 := { stood := { row := fnBouncesRow, standIns := [], harness := (true, "e86b0364b37db8aff0703493403529968ae81d0725650b9bc10cd69419159dd6"), looks := true }, kinds := [], alts := [], laidByText := true, laidKinds := [.data, .data, .data, .data, .sentinel, .sentinel, .pinned], laidTests := true, laidLooks := .later }
def FnBouncesCardSaid : Prop := Claim7.holds Tryz.pinned (.plain (OpenSpec.ofChange fnBouncesSpec)) fnBouncesCard

/-- THE SECOND FORM's CARD OF 'laws.FnBounces'. -/
def fnBouncesUptoCard : Claim7 := { stood := { row := fnBouncesUptoRow, standIns := [], harness := (true, "e86b0364b37db8aff0703493403529968ae81d0725650b9bc10cd69419159dd6"), looks := true }, kinds := [], alts := [], laidByText := true, laidKinds := [.data, .data, .data, .data, .sentinel, .sentinel, .pinned], laidTests := true, laidLooks := .later }
def FnBouncesUptoCardSaid : Prop := Claim7.holds Tryz.pinned (.plain (OpenSpec.upto fnBouncesSpec)) fnBouncesUptoCard
end Rows
end Go.Proofs.YtlolnfpfipnfeaaGreatDoor
