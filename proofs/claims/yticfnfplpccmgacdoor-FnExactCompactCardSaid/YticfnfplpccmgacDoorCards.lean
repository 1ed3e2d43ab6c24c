/-
  DERIVED. GIVEN WITH THE SEED: THE CARDS: each row of YticfnfplpccmgacDoorRows.lean that lists a variable, with what it lists TIED to the program's text (the seventh form; the later family's looks); each row that meets fmt, with fmt's text TOLD by the authors' own Lean function (tested against real Go, not proved from fmt's source: count such statements apart). THE CARD IS WHAT COUNTS. Prove the row's statement (the work); the ties are given (YticfnfplpccmgacDoorTie.lean); close each card by the builder's one call (the guide's Derived/Test/ToyasCard.lean, 'card_holds'). Laid BY PROGRAM, IN A SANDBOX (cutbox-door.mjs). By AI agents, Wed Nov 11 2026. No macro, syntax, notation, axiom, sorry.
-/
import Derived.Test.YticfnfplpccmgacDoorRows
import GoSem.ClaimSeven
namespace Go.Proofs.YticfnfplpccmgacDoor
namespace Rows

/-- THE TIED CARD OF 'laws.FnExactAppend'. -/
def fnExactAppendCard : Claim7 := { stood := { row := fnExactAppendRow, standIns := [], harness := (true, "3fe6530ffa44d6a31118ff91453a18c78e7d1c8212f2810edeb44fa5aa33c2e2"), looks := false }, kinds := [], alts := [], laidByText := true, laidKinds := [.data], laidTests := true, laidLooks := .later }
def FnExactAppendCardSaid : Prop := Claim7.holds Tryd.pinned (.plain (OpenSpec.ofChange fnExactAppendSpec)) fnExactAppendCard

/-- THE TIED CARD OF 'laws.FnExactValidAddress'. -/
def fnExactValidAddressCard : Claim7 := { stood := { row := fnExactValidAddressRow, standIns := [], harness := (true, "3fe6530ffa44d6a31118ff91453a18c78e7d1c8212f2810edeb44fa5aa33c2e2"), looks := false }, kinds := [], alts := [], laidByText := true, laidKinds := [.data, .pinned], laidTests := true, laidLooks := .later }
def FnExactValidAddressCardSaid : Prop := Claim7.holds Tryd.pinned (.plain (OpenSpec.ofChange fnExactValidAddressSpec)) fnExactValidAddressCard

/-- THE TIED CARD OF 'laws.FnExactUnframe'. -/
def fnExactUnframeCard : Claim7 := { stood := { row := fnExactUnframeRow, standIns := [], harness := (true, "3fe6530ffa44d6a31118ff91453a18c78e7d1c8212f2810edeb44fa5aa33c2e2"), looks := false }, kinds := [], alts := [], laidByText := true, laidKinds := [.data], laidTests := true, laidLooks := .later }
def FnExactUnframeCardSaid : Prop := Claim7.holds Tryd.pinned (.plain (OpenSpec.ofChange fnExactUnframeSpec)) fnExactUnframeCard

/-- THE TIED CARD OF 'laws.FnExactCompact'. -/
def fnExactCompactCard : Claim7 := { stood := { row := fnExactCompactRow, standIns := [], harness := (true, "3fe6530ffa44d6a31118ff91453a18c78e7d1c8212f2810edeb44fa5aa33c2e2"), looks := false }, kinds := [], alts := [], laidByText := true, laidKinds := [.data], laidTests := true, laidLooks := .later }
def FnExactCompactCardSaid : Prop := Claim7.holds Tryd.pinned (.plain (OpenSpec.ofChange fnExactCompactSpec)) fnExactCompactCard

/-- THE TIED CARD OF 'laws.FnExactCommand'. -/
def fnExactCommandCard : Claim7 := { stood := { row := fnExactCommandRow, standIns := [], harness := (true, "3fe6530ffa44d6a31118ff91453a18c78e7d1c8212f2810edeb44fa5aa33c2e2"), looks := false }, kinds := [], alts := [], laidByText := true, laidKinds := [.data, .pinned], laidTests := true, laidLooks := .later }
def FnExactCommandCardSaid : Prop := Claim7.holds Tryd.pinned (.plain (OpenSpec.ofChange fnExactCommandSpec)) fnExactCommandCard

/-- THE SECOND FORM's CARD OF 'laws.FnExactAppend'. -/
def fnExactAppendUptoCard : Claim7 := { stood := { row := fnExactAppendUptoRow, standIns := [], harness := (true, "3fe6530ffa44d6a31118ff91453a18c78e7d1c8212f2810edeb44fa5aa33c2e2"), looks := false }, kinds := [], alts := [], laidByText := true, laidKinds := [.data], laidTests := true, laidLooks := .later }
def FnExactAppendUptoCardSaid : Prop := Claim7.holds Tryd.pinned (.plain (OpenSpec.upto fnExactAppendSpec)) fnExactAppendUptoCard

/-- THE SECOND FORM's CARD OF 'laws.FnExactValidAddress'. -/
def fnExactValidAddressUptoCard : Claim7 := { stood := { row := fnExactValidAddressUptoRow, standIns := [], harness := (true, "3fe6530ffa44d6a31118ff91453a18c78e7d1c8212f2810edeb44fa5aa33c2e2"), looks := false }, kinds := [], alts := [], laidByText := true, laidKinds := [.data, .pinned], laidTests := true, laidLooks := .later }
def FnExactValidAddressUptoCardSaid : Prop := Claim7.holds Tryd.pinned (.plain (OpenSpec.upto fnExactValidAddressSpec)) fnExactValidAddressUptoCard

/-- THE SECOND FORM's CARD OF 'laws.FnExactUnframe'. -/
def fnExactUnframeUptoCard : Claim7 := { stood := { row := fnExactUnframeUptoRow, standIns := [], harness := (true, "3fe6530ffa44d6a31118ff91453a18c78e7d1c8212f2810edeb44fa5aa33c2e2"), looks := false }, kinds := [], alts := [], laidByText := true, laidKinds := [.data], laidTests := true, laidLooks := .later }
def FnExactUnframeUptoCardSaid : Prop := Claim7.holds Tryd.pinned (.plain (OpenSpec.upto fnExactUnframeSpec)) fnExactUnframeUptoCard

/-- THE SECOND FORM's CARD OF 'laws.FnExactCompact'. -/
def fnExactCompactUptoCard : Claim7 := { stood := { row := fnExactCompactUptoRow, standIns := [], harness := (true, "3fe6530ffa44d6a31118ff91453a18c78e7d1c8212f2810edeb44fa5aa33c2e2"), looks := false }, kinds := [], alts := [], laidByText := true, laidKinds := [.data], laidTests := true, laidLooks := .later }
def FnExactCompactUptoCardSaid : Prop := Claim7.holds Tryd.pinned (.plain (OpenSpec.upto fnExactCompactSpec)) fnExactCompactUptoCard

/-- THE SECOND FORM's CARD OF 'laws.FnExactCommand'. -/
def fnExactCommandUptoCard : Claim7 := { stood := { row := fnExactCommandUptoRow, standIns := [], harness := (true, "3fe6530ffa44d6a31118ff91453a18c78e7d1c8212f2810edeb44fa5aa33c2e2"), looks := false }, kinds := [], alts := [], laidByText := true, laidKinds := [.data, .pinned], laidTests := true, laidLooks := .later }
def FnExactCommandUptoCardSaid : Prop := Claim7.holds Tryd.pinned (.plain (OpenSpec.upto fnExactCommandSpec)) fnExactCommandUptoCard
end Rows
end Go.Proofs.YticfnfplpccmgacDoor
