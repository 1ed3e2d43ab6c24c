/-
  DERIVED. GIVEN WITH THE SEED: THE CARDS: each row of YticfnfplpccmgaaDoorRows.lean that lists a variable, with what it lists TIED to the program's text (the seventh form; the later family's looks); each row that meets fmt, with fmt's text TOLD by the authors' own Lean function (tested against real Go, not proved from fmt's source: count such statements apart). THE CARD IS WHAT COUNTS. Prove the row's statement (the work); the ties are given (YticfnfplpccmgaaDoorTie.lean); close each card by the builder's one call (the guide's Derived/Test/ToyasCard.lean, 'card_holds'). Laid BY PROGRAM, IN A SANDBOX (cutbox-door.mjs). By AI agents, Wed Nov 11 2026. No macro, syntax, notation, axiom, sorry.
-/
import Derived.Test.YticfnfplpccmgaaDoorRows
import GoSem.ClaimSeven
namespace Go.Proofs.YticfnfplpccmgaaDoor
namespace Rows

/-- THE TIED CARD OF 'laws.FnExactChecksum'. -/
def fnExactChecksumCard : Claim7 := { stood := { row := fnExactChecksumRow, standIns := [], harness := (true, "db73498e154864ee092234595ead24b39d60a9afc8fb6d97d764cdc986868df3"), looks := false }, kinds := [], alts := [], laidByText := true, laidKinds := [.data], laidTests := true, laidLooks := .later }
def FnExactChecksumCardSaid : Prop := Claim7.holds Tryd.pinned (.plain (OpenSpec.ofChange fnExactChecksumSpec)) fnExactChecksumCard

/-- THE TIED CARD OF 'laws.FnExactFrame'. -/
def fnExactFrameCard : Claim7 := { stood := { row := fnExactFrameRow, standIns := [], harness := (true, "db73498e154864ee092234595ead24b39d60a9afc8fb6d97d764cdc986868df3"), looks := false }, kinds := [], alts := [], laidByText := true, laidKinds := [.data], laidTests := true, laidLooks := .later }
def FnExactFrameCardSaid : Prop := Claim7.holds Tryd.pinned (.plain (OpenSpec.ofChange fnExactFrameSpec)) fnExactFrameCard

/-- THE SECOND FORM's CARD OF 'laws.FnExactChecksum'. -/
def fnExactChecksumUptoCard : Claim7 := { stood := { row := fnExactChecksumUptoRow, standIns := [], harness := (true, "db73498e154864ee092234595ead24b39d60a9afc8fb6d97d764cdc986868df3"), looks := false }, kinds := [], alts := [], laidByText := true, laidKinds := [.data], laidTests := true, laidLooks := .later }
def FnExactChecksumUptoCardSaid : Prop := Claim7.holds Tryd.pinned (.plain (OpenSpec.upto fnExactChecksumSpec)) fnExactChecksumUptoCard

/-- THE SECOND FORM's CARD OF 'laws.FnExactFrame'. -/
def fnExactFrameUptoCard : Claim7 := { stood := { row := fnExactFrameUptoRow, standIns := [], harness := (true, "db73498e154864ee092234595ead24b39d60a9afc8fb6d97d764cdc986868df3"), looks := false }, kinds := [], alts := [], laidByText := true, laidKinds := [.data], laidTests := true, laidLooks := .later }
def FnExactFrameUptoCardSaid : Prop := Claim7.holds Tryd.pinned (.plain (OpenSpec.upto fnExactFrameSpec)) fnExactFrameUptoCard
end Rows
end Go.Proofs.YticfnfplpccmgaaDoor
