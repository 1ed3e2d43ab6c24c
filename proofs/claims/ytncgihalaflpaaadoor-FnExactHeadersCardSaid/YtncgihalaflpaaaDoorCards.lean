/-
  DERIVED. GIVEN WITH THE SEED: THE CARDS: each row of YtncgihalaflpaaaDoorRows.lean that lists a variable, with what it lists TIED to the program's text (the seventh form; the later family's looks); each row that meets fmt, with fmt's text TOLD by the authors' own Lean function (tested against real Go, not proved from fmt's source: count such statements apart). THE CARD IS WHAT COUNTS. Prove the row's statement (the work); the ties are given (YtncgihalaflpaaaDoorTie.lean); close each card by the builder's one call (the guide's Derived/Test/ToyasCard.lean, 'card_holds'). Laid BY PROGRAM, IN A SANDBOX (cutbox-door.mjs). By AI agents, Wed Nov 11 2026. No macro, syntax, notation, axiom, sorry.
-/
import Derived.Test.YtncgihalaflpaaaDoorRows
import GoSem.ClaimSeven
namespace Go.Proofs.YtncgihalaflpaaaDoor
namespace Rows

/-- THE TIED CARD OF 'laws.FnExactValidDomain'. -/
def fnExactValidDomainCard : Claim7 := { stood := { row := fnExactValidDomainRow, standIns := [], harness := (true, "5a35545774867475afdb22894052825585099d1d428a76a5c45c3b57c8eb22a1"), looks := false }, kinds := [], alts := [], laidByText := true, laidKinds := [.data, .pinned], laidTests := true, laidLooks := .later }
def FnExactValidDomainCardSaid : Prop := Claim7.holds Tryd.pinned (.plain (OpenSpec.ofChange fnExactValidDomainSpec)) fnExactValidDomainCard

/-- THE TIED CARD OF 'laws.FnExactValidBody'. -/
def fnExactValidBodyCard : Claim7 := { stood := { row := fnExactValidBodyRow, standIns := [], harness := (true, "5a35545774867475afdb22894052825585099d1d428a76a5c45c3b57c8eb22a1"), looks := false }, kinds := [], alts := [], laidByText := true, laidKinds := [.data, .pinned], laidTests := true, laidLooks := .later }
def FnExactValidBodyCardSaid : Prop := Claim7.holds Tryd.pinned (.plain (OpenSpec.ofChange fnExactValidBodySpec)) fnExactValidBodyCard

/-- THE TIED CARD OF 'laws.FnExactStuff'. -/
def fnExactStuffCard : Claim7 := { stood := { row := fnExactStuffRow, standIns := [], harness := (true, "5a35545774867475afdb22894052825585099d1d428a76a5c45c3b57c8eb22a1"), looks := false }, kinds := [], alts := [], laidByText := true, laidKinds := [.data, .pinned], laidTests := true, laidLooks := .later }
def FnExactStuffCardSaid : Prop := Claim7.holds Tryd.pinned (.plain (OpenSpec.ofChange fnExactStuffSpec)) fnExactStuffCard

/-- THE TIED CARD OF 'laws.FnExactHeaders'. -/
def fnExactHeadersCard : Claim7 := { stood := { row := fnExactHeadersRow, standIns := [], harness := (true, "5a35545774867475afdb22894052825585099d1d428a76a5c45c3b57c8eb22a1"), looks := false }, kinds := [], alts := [], laidByText := true, laidKinds := [.data, .pinned], laidTests := true, laidLooks := .later }
def FnExactHeadersCardSaid : Prop := Claim7.holds Tryd.pinned (.plain (OpenSpec.ofChange fnExactHeadersSpec)) fnExactHeadersCard

/-- THE TIED CARD OF 'laws.FnExactSizeLimit'. -/
def fnExactSizeLimitCard : Claim7 := { stood := { row := fnExactSizeLimitRow, standIns := [], harness := (true, "5a35545774867475afdb22894052825585099d1d428a76a5c45c3b57c8eb22a1"), looks := false }, kinds := [], alts := [], laidByText := true, laidKinds := [.data, .data, .data, .pinned, .pinned], laidTests := true, laidLooks := .later }
def FnExactSizeLimitCardSaid : Prop := Claim7.holds Tryd.pinned (.plain (OpenSpec.ofChange fnExactSizeLimitSpec)) fnExactSizeLimitCard

/-- THE TIED CARD OF 'laws.FnExactUnstuff'. -/
def fnExactUnstuffCard : Claim7 := { stood := { row := fnExactUnstuffRow, standIns := [], harness := (true, "5a35545774867475afdb22894052825585099d1d428a76a5c45c3b57c8eb22a1"), looks := false }, kinds := [], alts := [], laidByText := true, laidKinds := [.data, .pinned], laidTests := true, laidLooks := .later }
def FnExactUnstuffCardSaid : Prop := Claim7.holds Tryd.pinned (.plain (OpenSpec.ofChange fnExactUnstuffSpec)) fnExactUnstuffCard

/-- THE SECOND FORM's CARD OF 'laws.FnExactValidDomain'. -/
def fnExactValidDomainUptoCard : Claim7 := { stood := { row := fnExactValidDomainUptoRow, standIns := [], harness := (true, "5a35545774867475afdb22894052825585099d1d428a76a5c45c3b57c8eb22a1"), looks := false }, kinds := [], alts := [], laidByText := true, laidKinds := [.data, .pinned], laidTests := true, laidLooks := .later }
def FnExactValidDomainUptoCardSaid : Prop := Claim7.holds Tryd.pinned (.plain (OpenSpec.upto fnExactValidDomainSpec)) fnExactValidDomainUptoCard

/-- THE SECOND FORM's CARD OF 'laws.FnExactValidBody'. -/
def fnExactValidBodyUptoCard : Claim7 := { stood := { row := fnExactValidBodyUptoRow, standIns := [], harness := (true, "5a35545774867475afdb22894052825585099d1d428a76a5c45c3b57c8eb22a1"), looks := false }, kinds := [], alts := [], laidByText := true, laidKinds := [.data, .pinned], laidTests := true, laidLooks := .later }
def FnExactValidBodyUptoCardSaid : Prop := Claim7.holds Tryd.pinned (.plain (OpenSpec.upto fnExactValidBodySpec)) fnExactValidBodyUptoCard

/-- THE SECOND FORM's CARD OF 'laws.FnExactStuff'. -/
def fnExactStuffUptoCard : Claim7 := { stood := { row := fnExactStuffUptoRow, standIns := [], harness := (true, "5a35545774867475afdb22894052825585099d1d428a76a5c45c3b57c8eb22a1"), looks := false }, kinds := [], alts := [], laidByText := true, laidKinds := [.data, .pinned], laidTests := true, laidLooks := .later }
def FnExactStuffUptoCardSaid : Prop := Claim7.holds Tryd.pinned (.plain (OpenSpec.upto fnExactStuffSpec)) fnExactStuffUptoCard

/-- THE SECOND FORM's CARD OF 'laws.FnExactHeaders'. -/
def fnExactHeadersUptoCard : Claim7 := { stood := { row := fnExactHeadersUptoRow, standIns := [], harness := (true, "5a35545774867475afdb22894052825585099d1d428a76a5c45c3b57c8eb22a1"), looks := false }, kinds := [], alts := [], laidByText := true, laidKinds := [.data, .pinned], laidTests := true, laidLooks := .later }
def FnExactHeadersUptoCardSaid : Prop := Claim7.holds Tryd.pinned (.plain (OpenSpec.upto fnExactHeadersSpec)) fnExactHeadersUptoCard

/-- THE SECOND FORM's CARD OF 'laws.FnExactSizeLimit'. -/
def fnExactSizeLimitUptoCard : Claim7 := { stood := { row := fnExactSizeLimitUptoRow, standIns := [], harness := (true, "5a35545774867475afdb22894052825585099d1d428a76a5c45c3b57c8eb22a1"), looks := false }, kinds := [], alts := [], laidByText := true, laidKinds := [.data, .data, .data, .pinned, .pinned], laidTests := true, laidLooks := .later }
def FnExactSizeLimitUptoCardSaid : Prop := Claim7.holds Tryd.pinned (.plain (OpenSpec.upto fnExactSizeLimitSpec)) fnExactSizeLimitUptoCard

/-- THE SECOND FORM's CARD OF 'laws.FnExactUnstuff'. -/
def fnExactUnstuffUptoCard : Claim7 := { stood := { row := fnExactUnstuffUptoRow, standIns := [], harness := (true, "5a35545774867475afdb22894052825585099d1d428a76a5c45c3b57c8eb22a1"), looks := false }, kinds := [], alts := [], laidByText := true, laidKinds := [.data, .pinned], laidTests := true, laidLooks := .later }
def FnExactUnstuffUptoCardSaid : Prop := Claim7.holds Tryd.pinned (.plain (OpenSpec.upto fnExactUnstuffSpec)) fnExactUnstuffUptoCard
end Rows
end Go.Proofs.YtncgihalaflpaaaDoor
