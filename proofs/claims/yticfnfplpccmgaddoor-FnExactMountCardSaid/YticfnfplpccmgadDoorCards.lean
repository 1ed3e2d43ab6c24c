/-
  DERIVED. GIVEN WITH THE SEED: THE CARDS: each row of YticfnfplpccmgadDoorRows.lean that lists a variable, with what it lists TIED to the program's text (the seventh form; the later family's looks); each row that meets fmt, with fmt's text TOLD by the authors' own Lean function (tested against real Go, not proved from fmt's source: count such statements apart). THE CARD IS WHAT COUNTS. Prove the row's statement (the work); the ties are given (YticfnfplpccmgadDoorTie.lean); close each card by the builder's one call (the guide's Derived/Test/ToyasCard.lean, 'card_holds'). Laid BY PROGRAM, IN A SANDBOX (cutbox-door.mjs). By AI agents, Wed Nov 11 2026. No macro, syntax, notation, axiom, sorry.
-/
import Derived.Test.YticfnfplpccmgadDoorRows
import GoSem.ClaimSeven
namespace Go.Proofs.YticfnfplpccmgadDoor
namespace Rows

/-- THE TIED CARD OF 'laws.FnBodies'. -/
def fnBodiesCard : Claim7 := { stood := { row := fnBodiesRow, standIns := [], harness := (true, "409ca6af3761041a72f94c2042977ba541c812a5843d2d9ceb9c6f38f4fe7b35"), looks := false }, kinds := [], alts := [], laidByText := true, laidKinds := [.data, .pinned], laidTests := true, laidLooks := .later }
def FnBodiesCardSaid : Prop := Claim7.holds Tryd.pinned (.plain (OpenSpec.ofChange fnBodiesSpec)) fnBodiesCard

/-- THE TIED CARD OF 'laws.FnExactMount'. -/
def fnExactMountCard : Claim7 := { stood := { row := fnExactMountRow, standIns := [], harness := (true, "409ca6af3761041a72f94c2042977ba541c812a5843d2d9ceb9c6f38f4fe7b35"), looks := false }, kinds := [], alts := [], laidByText := true, laidKinds := [.data], laidTests := true, laidLooks := .later }
def FnExactMountCardSaid : Prop := Claim7.holds Tryd.pinned (.plain (OpenSpec.ofChange fnExactMountSpec)) fnExactMountCard

/-- THE TIED CARD OF 'laws.FnCompact'. -/
def fnCompactCard : Claim7 := { stood := { row := fnCompactRow, standIns := [], harness := (true, "409ca6af3761041a72f94c2042977ba541c812a5843d2d9ceb9c6f38f4fe7b35"), looks := false }, kinds := [], alts := [], laidByText := true, laidKinds := [.data], laidTests := true, laidLooks := .later }
def FnCompactCardSaid : Prop := Claim7.holds Tryd.pinned (.plain (OpenSpec.ofChange fnCompactSpec)) fnCompactCard

/-- THE TIED CARD OF 'laws.FnRoutes'. -/
def fnRoutesCard : Claim7 := { stood := { row := fnRoutesRow, standIns := [], harness := (true, "409ca6af3761041a72f94c2042977ba541c812a5843d2d9ceb9c6f38f4fe7b35"), looks := false }, kinds := [], alts := [], laidByText := true, laidKinds := [.data, .data, .pinned], laidTests := true, laidLooks := .later }
def FnRoutesCardSaid : Prop := Claim7.holds Tryd.pinned (.plain (OpenSpec.ofChange fnRoutesSpec)) fnRoutesCard

/-- THE TIED CARD OF 'laws.FnSynced'. -/
def fnSyncedCard : Claim7 := { stood := { row := fnSyncedRow, standIns := [], harness := (true, "409ca6af3761041a72f94c2042977ba541c812a5843d2d9ceb9c6f38f4fe7b35"), looks := false }, kinds := [], alts := [], laidByText := true, laidKinds := [.data], laidTests := true, laidLooks := .later }
def FnSyncedCardSaid : Prop := Claim7.holds Tryd.pinned (.plain (OpenSpec.ofChange fnSyncedSpec)) fnSyncedCard

/-- THE SECOND FORM's CARD OF 'laws.FnBodies'. -/
def fnBodiesUptoCard : Claim7 := { stood := { row := fnBodiesUptoRow, standIns := [], harness := (true, "409ca6af3761041a72f94c2042977ba541c812a5843d2d9ceb9c6f38f4fe7b35"), looks := false }, kinds := [], alts := [], laidByText := true, laidKinds := [.data, .pinned], laidTests := true, laidLooks := .later }
def FnBodiesUptoCardSaid : Prop := Claim7.holds Tryd.pinned (.plain (OpenSpec.upto fnBodiesSpec)) fnBodiesUptoCard

/-- THE SECOND FORM's CARD OF 'laws.FnExactMount'. -/
def fnExactMountUptoCard : Claim7 := { stood := { row := fnExactMountUptoRow, standIns := [], harness := (true, "409ca6af3761041a72f94c2042977ba541c812a5843d2d9ceb9c6f38f4fe7b35"), looks := false }, kinds := [], alts := [], laidByText := true, laidKinds := [.data], laidTests := true, laidLooks := .later }
def FnExactMountUptoCardSaid : Prop := Claim7.holds Tryd.pinned (.plain (OpenSpec.upto fnExactMountSpec)) fnExactMountUptoCard

/-- THE SECOND FORM's CARD OF 'laws.FnCompact'. -/
def fnCompactUptoCard : Claim7 := { stood := { row := fnCompactUptoRow, standIns := [], harness := (true, "409ca6af3761041a72f94c2042977ba541c812a5843d2d9ceb9c6f38f4fe7b35"), looks := false }, kinds := [], alts := [], laidByText := true, laidKinds := [.data], laidTests := true, laidLooks := .later }
def FnCompactUptoCardSaid : Prop := Claim7.holds Tryd.pinned (.plain (OpenSpec.upto fnCompactSpec)) fnCompactUptoCard

/-- THE SECOND FORM's CARD OF 'laws.FnRoutes'. -/
def fnRoutesUptoCard : Claim7 := { stood := { row := fnRoutesUptoRow, standIns := [], harness := (true, "409ca6af3761041a72f94c2042977ba541c812a5843d2d9ceb9c6f38f4fe7b35"), looks := false }, kinds := [], alts := [], laidByText := true, laidKinds := [.data, .data, .pinned], laidTests := true, laidLooks := .later }
def FnRoutesUptoCardSaid : Prop := Claim7.holds Tryd.pinned (.plain (OpenSpec.upto fnRoutesSpec)) fnRoutesUptoCard

/-- THE SECOND FORM's CARD OF 'laws.FnSynced'. -/
def fnSyncedUptoCard : Claim7 := { stood := { row := fnSyncedUptoRow, standIns := [], harness := (true, "409ca6af3761041a72f94c2042977ba541c812a5843d2d9ceb9c6f38f4fe7b35"), looks := false }, kinds := [], alts := [], laidByText := true, laidKinds := [.data], laidTests := true, laidLooks := .later }
def FnSyncedUptoCardSaid : Prop := Claim7.holds Tryd.pinned (.plain (OpenSpec.upto fnSyncedSpec)) fnSyncedUptoCard
end Rows
end Go.Proofs.YticfnfplpccmgadDoor
