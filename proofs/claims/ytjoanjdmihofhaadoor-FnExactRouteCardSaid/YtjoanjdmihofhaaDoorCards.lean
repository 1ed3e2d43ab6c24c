/-
  DERIVED. GIVEN WITH THE SEED: THE CARDS: each row of YtjoanjdmihofhaaDoorRows.lean that lists a variable, with what it lists TIED to the program's text (the seventh form; the later family's looks); each row that meets fmt, with fmt's text TOLD by the authors' own Lean function (tested against real Go, not proved from fmt's source: count such statements apart). THE CARD IS WHAT COUNTS. Prove the row's statement (the work); the ties are given (YtjoanjdmihofhaaDoorTie.lean); close each card by the builder's one call (the guide's Derived/Test/ToyasCard.lean, 'card_holds'). Laid BY PROGRAM, IN A SANDBOX (cutbox-door.mjs). By AI agents, Wed Nov 11 2026. No macro, syntax, notation, axiom, sorry.
-/
import Derived.Test.YtjoanjdmihofhaaDoorRows
import GoSem.ClaimSeven
namespace Go.Proofs.YtjoanjdmihofhaaDoor
namespace Rows

/-- THE TIED CARD OF 'laws.FnExactRoute'. -/
def fnExactRouteCard : Claim7 := { stood := { row := fnExactRouteRow, standIns := [], harness := (true, "40d593bfe4710a72c6caee29fc103959e62aa4651d0b4f282ba5883bfbb79182"), looks := false }, kinds := [], alts := [], laidByText := true, laidKinds := [.data, .data, .pinned], laidTests := true, laidLooks := .later }
def FnExactRouteCardSaid : Prop := Claim7.holds Tryd.pinned (.plain (OpenSpec.ofChange fnExactRouteSpec)) fnExactRouteCard

/-- THE TIED CARD OF 'laws.FnExactOpen'. -/
def fnExactOpenCard : Claim7 := { stood := { row := fnExactOpenRow, standIns := [], harness := (true, "40d593bfe4710a72c6caee29fc103959e62aa4651d0b4f282ba5883bfbb79182"), looks := false }, kinds := [], alts := [], laidByText := true, laidKinds := [.data, .pinned], laidTests := true, laidLooks := .later }
def FnExactOpenCardSaid : Prop := Claim7.holds Tryd.pinned (.plain (OpenSpec.ofChange fnExactOpenSpec)) fnExactOpenCard

/-- THE TIED CARD OF 'laws.FnExactProper'. -/
def fnExactProperCard : Claim7 := { stood := { row := fnExactProperRow, standIns := [], harness := (true, "40d593bfe4710a72c6caee29fc103959e62aa4651d0b4f282ba5883bfbb79182"), looks := false }, kinds := [], alts := [], laidByText := true, laidKinds := [.data, .pinned], laidTests := true, laidLooks := .later }
def FnExactProperCardSaid : Prop := Claim7.holds Tryd.pinned (.plain (OpenSpec.ofChange fnExactProperSpec)) fnExactProperCard

/-- THE TIED CARD OF 'laws.FnExactMakeBounce'. -/
def fnExactMakeBounceCard : Claim7 := { stood := { row := fnExactMakeBounceRow, standIns := [], harness := (true, "40d593bfe4710a72c6caee29fc103959e62aa4651d0b4f282ba5883bfbb79182"), looks := false }, kinds := [], alts := [], laidByText := true, laidKinds := [.data, .data, .data, .data, .pinned], laidTests := true, laidLooks := .later }
def FnExactMakeBounceCardSaid : Prop := Claim7.holds Tryd.pinned (.plain (OpenSpec.ofChange fnExactMakeBounceSpec)) fnExactMakeBounceCard

/-- THE SECOND FORM's CARD OF 'laws.FnExactRoute'. -/
def fnExactRouteUptoCard : Claim7 := { stood := { row := fnExactRouteUptoRow, standIns := [], harness := (true, "40d593bfe4710a72c6caee29fc103959e62aa4651d0b4f282ba5883bfbb79182"), looks := false }, kinds := [], alts := [], laidByText := true, laidKinds := [.data, .data, .pinned], laidTests := true, laidLooks := .later }
def FnExactRouteUptoCardSaid : Prop := Claim7.holds Tryd.pinned (.plain (OpenSpec.upto fnExactRouteSpec)) fnExactRouteUptoCard

/-- THE SECOND FORM's CARD OF 'laws.FnExactOpen'. -/
def fnExactOpenUptoCard : Claim7 := { stood := { row := fnExactOpenUptoRow, standIns := [], harness := (true, "40d593bfe4710a72c6caee29fc103959e62aa4651d0b4f282ba5883bfbb79182"), looks := false }, kinds := [], alts := [], laidByText := true, laidKinds := [.data, .pinned], laidTests := true, laidLooks := .later }
def FnExactOpenUptoCardSaid : Prop := Claim7.holds Tryd.pinned (.plain (OpenSpec.upto fnExactOpenSpec)) fnExactOpenUptoCard

/-- THE SECOND FORM's CARD OF 'laws.FnExactProper'. -/
def fnExactProperUptoCard : Claim7 := { stood := { row := fnExactProperUptoRow, standIns := [], harness := (true, "40d593bfe4710a72c6caee29fc103959e62aa4651d0b4f282ba5883bfbb79182"), looks := false }, kinds := [], alts := [], laidByText := true, laidKinds := [.data, .pinned], laidTests := true, laidLooks := .later }
def FnExactProperUptoCardSaid : Prop := Claim7.holds Tryd.pinned (.plain (OpenSpec.upto fnExactProperSpec)) fnExactProperUptoCard

/-- THE SECOND FORM's CARD OF 'laws.FnExactMakeBounce'. -/
def fnExactMakeBounceUptoCard : Claim7 := { stood := { row := fnExactMakeBounceUptoRow, standIns := [], harness := (true, "40d593bfe4710a72c6caee29fc103959e62aa4651d0b4f282ba5883bfbb79182"), looks := false }, kinds := [], alts := [], laidByText := true, laidKinds := [.data, .data, .data, .data, .pinned], laidTests := true, laidLooks := .later }
def FnExactMakeBounceUptoCardSaid : Prop := Claim7.holds Tryd.pinned (.plain (OpenSpec.upto fnExactMakeBounceSpec)) fnExactMakeBounceUptoCard
end Rows
end Go.Proofs.YtjoanjdmihofhaaDoor
