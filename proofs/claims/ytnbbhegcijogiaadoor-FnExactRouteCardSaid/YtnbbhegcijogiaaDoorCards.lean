/-
  DERIVED. GIVEN WITH THE SEED: THE CARDS: each row of YtnbbhegcijogiaaDoorRows.lean that lists a variable, with what it lists TIED to the program's text (the seventh form; the later family's looks); each row that meets fmt, with fmt's text TOLD by the authors' own Lean function (tested against real Go, not proved from fmt's source: count such statements apart). THE CARD IS WHAT COUNTS. Prove the row's statement (the work); the ties are given (YtnbbhegcijogiaaDoorTie.lean); close each card by the builder's one call (the guide's Derived/Test/ToyasCard.lean, 'card_holds'). Laid BY PROGRAM, IN A SANDBOX (cutbox-door.mjs). By AI agents, Wed Nov 11 2026. No macro, syntax, notation, axiom, sorry.
-/
import Derived.Test.YtnbbhegcijogiaaDoorRows
import GoSem.ClaimSeven
namespace Go.Proofs.YtnbbhegcijogiaaDoor
namespace Rows

/-- THE TIED CARD OF 'laws.FnRoutes'. -/
def fnRoutesCard : Claim7 := { stood := { row := fnRoutesRow, standIns := [], harness := (true, "583af5bdfa520467f6e67eddd5b0db83e9425ac11b2ecfbbe3fa52d02a467072"), looks := false }, kinds := [], alts := [], laidByText := true, laidKinds := [.data, .data, .pinned], laidTests := true, laidLooks := .later }
def FnRoutesCardSaid : Prop := Claim7.holds Tryd.pinned (.plain (OpenSpec.ofChange fnRoutesSpec)) fnRoutesCard

/-- THE TIED CARD OF 'laws.FnExactRoute'. -/
def fnExactRouteCard : Claim7 := { stood := { row := fnExactRouteRow, standIns := [], harness := (true, "583af5bdfa520467f6e67eddd5b0db83e9425ac11b2ecfbbe3fa52d02a467072"), looks := false }, kinds := [], alts := [], laidByText := true, laidKinds := [.data, .data, .pinned], laidTests := true, laidLooks := .later }
def FnExactRouteCardSaid : Prop := Claim7.holds Tryd.pinned (.plain (OpenSpec.ofChange fnExactRouteSpec)) fnExactRouteCard

/-- THE SECOND FORM's CARD OF 'laws.FnRoutes'. -/
def fnRoutesUptoCard : Claim7 := { stood := { row := fnRoutesUptoRow, standIns := [], harness := (true, "583af5bdfa520467f6e67eddd5b0db83e9425ac11b2ecfbbe3fa52d02a467072"), looks := false }, kinds := [], alts := [], laidByText := true, laidKinds := [.data, .data, .pinned], laidTests := true, laidLooks := .later }
def FnRoutesUptoCardSaid : Prop := Claim7.holds Tryd.pinned (.plain (OpenSpec.upto fnRoutesSpec)) fnRoutesUptoCard

/-- THE SECOND FORM's CARD OF 'laws.FnExactRoute'. -/
def fnExactRouteUptoCard : Claim7 := { stood := { row := fnExactRouteUptoRow, standIns := [], harness := (true, "583af5bdfa520467f6e67eddd5b0db83e9425ac11b2ecfbbe3fa52d02a467072"), looks := false }, kinds := [], alts := [], laidByText := true, laidKinds := [.data, .data, .pinned], laidTests := true, laidLooks := .later }
def FnExactRouteUptoCardSaid : Prop := Claim7.holds Tryd.pinned (.plain (OpenSpec.upto fnExactRouteSpec)) fnExactRouteUptoCard
end Rows
end Go.Proofs.YtnbbhegcijogiaaDoor
