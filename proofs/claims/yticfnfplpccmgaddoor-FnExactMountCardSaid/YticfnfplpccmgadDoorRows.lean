/-
  NARROWER THAN 'FOR EVERY INPUT', by the rows' own cells (each row's printed sentence says how): FnBodies: laid · FnExactMount: laid · FnCompact: laid · FnRoutes: laid · FnSynced: laid.
  DERIVED. THE GIVEN ROWS OF THIS SEAT. 5 by the template 'for every input the law returns true; each argument reads behind the call as it read before'; 0 by the template 'total and deterministic' (their statements: YticfnfplpccmgadDoorTotals.lean).
  GIVEN WITH THE SEED: the statements are not yours to turn. If you find one false, say at which input.
  Laid BY PROGRAM, IN A SANDBOX (cutbox-rows.mjs): the forced cells as the released guide's own fill.sh prints them over the translation 033b4331831197c3… (all of the seat's roots in one cut). By AI agents, Wed Nov 11 2026. No macro, syntax, notation, axiom, sorry.
-/
import Derived.Test.YticfnfplpccmgadDoorChecked
import GoSem.PinnedTables
import GoSem.Claim
import GoSem.ClaimJoined
import GoSem.ClaimMapViews
import Derived.JoinedTies
import Derived.KernelRfl
namespace Go.Proofs.YticfnfplpccmgadDoor
/- THE CELL 'sum', in the pinned program and in every row, IS THE sha256 OF THE DUMP (.gsa) THAT YticfnfplpccmgadDoorProg.lean LOADS. Nothing in Lean hashes anything: it is a label: what it is worth is what the hold of that sum in a sandbox is worth. -/
noncomputable def Tryd.pinned : Pinned := { name := "yticfnfplpccmgaddoor", sum := "033b4331831197c3b13af01c63a345a4415ba0601410ee392a97b0c0e2da7a1b", checked := Tryd.checked }
namespace Rows
def none {H : Type} : Left H := { results := [], args := [] }

/- WHAT THE LISTED PACKAGE-LEVEL VARIABLES READ AS WHEN THE CALL BEGINS. Each datum BY PROGRAM (the guide's laid-datum.mjs) off the statement by which the dump's own 'gosem.cut.vars' lays the variable. In a bare row this is a premise. The card (YticfnfplpccmgadDoorCards.lean) ties it to the program's text. -/
def laid_unicode_utf8_acceptRanges {H : Type} : DataW H := .agg [.agg [.lit (.int .u8 128), .lit (.int .u8 191)], .agg [.lit (.int .u8 160), .lit (.int .u8 191)], .agg [.lit (.int .u8 128), .lit (.int .u8 159)], .agg [.lit (.int .u8 144), .lit (.int .u8 191)], .agg [.lit (.int .u8 128), .lit (.int .u8 143)], .agg [.lit (.int .u8 0), .lit (.int .u8 0)], .agg [.lit (.int .u8 0), .lit (.int .u8 0)], .agg [.lit (.int .u8 0), .lit (.int .u8 0)], .agg [.lit (.int .u8 0), .lit (.int .u8 0)], .agg [.lit (.int .u8 0), .lit (.int .u8 0)], .agg [.lit (.int .u8 0), .lit (.int .u8 0)], .agg [.lit (.int .u8 0), .lit (.int .u8 0)], .agg [.lit (.int .u8 0), .lit (.int .u8 0)], .agg [.lit (.int .u8 0), .lit (.int .u8 0)], .agg [.lit (.int .u8 0), .lit (.int .u8 0)], .agg [.lit (.int .u8 0), .lit (.int .u8 0)]]
/-- One of Go's own tables, pinned by name: the form's constant. -/
def laid_unicode_utf8_first : DataW Unit := Go.Pinned.utf8First
def laid_loop_example_s01729_impl_checksumTable {H : Type} : DataW H := .agg [.lit (.int .u32 0), .lit (.int .u32 498536548), .lit (.int .u32 997073096), .lit (.int .u32 651767980), .lit (.int .u32 1994146192), .lit (.int .u32 1802195444), .lit (.int .u32 1303535960), .lit (.int .u32 1342533948), .lit (.int .u32 3988292384), .lit (.int .u32 4027552580), .lit (.int .u32 3604390888), .lit (.int .u32 3412177804), .lit (.int .u32 2607071920), .lit (.int .u32 2262029012), .lit (.int .u32 2685067896), .lit (.int .u32 3183342108)]

/-- 'laws.FnBodies': WHATEVER THE INPUT: true; the input reads as it did. -/
def fnBodiesSpec : ChangeSpec := { name := "fnBodies", fn := fun _ => fun
  | [d1, d2] => { results := [.lit (.bool true)], args := [d1, d2] }
  | _ => none }
def fnBodiesRow : OpenClaim := { program := "yticfnfplpccmgaddoor", sum := "033b4331831197c3b13af01c63a345a4415ba0601410ee392a97b0c0e2da7a1b", func := "loop.example/s01729/laws.FnBodies", spec := "fnBodies", inPlace := ["internal/bytealg.CountString", "internal/bytealg.IndexByteString", "internal/bytealg.IndexString", "internal/abi.NoEscape"], named := ["unicode/utf8.first", "unicode/utf8.acceptRanges", "internal/bytealg.MaxLen"], apart := false, laid := [("unicode/utf8.acceptRanges", laid_unicode_utf8_acceptRanges), ("unicode/utf8.first", laid_unicode_utf8_first)] }
def FnBodiesSaid : Prop := fnBodiesRow.holds Tryd.pinned (OpenSpec.ofChange fnBodiesSpec)

/-- ITS FALSE NEIGHBOUR: 'it returns false'. Refute it at one input. -/
def fnBodiesWrong : ChangeSpec := { name := "fnBodies", fn := fun _ => fun
  | [d1, d2] => { results := [.lit (.bool false)], args := [d1, d2] }
  | _ => none }
def FnBodiesWrongFalsely : Prop := fnBodiesRow.holds Tryd.pinned (OpenSpec.ofChange fnBodiesWrong)

/-- 'laws.FnExactMount': WHATEVER THE INPUT: true; the input reads as it did. -/
def fnExactMountSpec : ChangeSpec := { name := "fnExactMount", vars := ["loop.example/s01729/impl.checksumTable"], fn := fun _ => fun
  | [d, g1] => { results := [.lit (.bool true)], args := [d], vars := [g1] }
  | _ => none }
def fnExactMountRow : OpenClaim := { program := "yticfnfplpccmgaddoor", sum := "033b4331831197c3b13af01c63a345a4415ba0601410ee392a97b0c0e2da7a1b", func := "loop.example/s01729/laws.FnExactMount", spec := "fnExactMount", named := ["loop.example/s01729/impl.checksumTable"], apart := false, laid := [("loop.example/s01729/impl.checksumTable", laid_loop_example_s01729_impl_checksumTable)] }
def FnExactMountSaid : Prop := fnExactMountRow.holds Tryd.pinned (OpenSpec.ofChange fnExactMountSpec)

/-- ITS FALSE NEIGHBOUR: 'it returns false'. Refute it at one input. -/
def fnExactMountWrong : ChangeSpec := { name := "fnExactMount", vars := ["loop.example/s01729/impl.checksumTable"], fn := fun _ => fun
  | [d, g1] => { results := [.lit (.bool false)], args := [d], vars := [g1] }
  | _ => none }
def FnExactMountWrongFalsely : Prop := fnExactMountRow.holds Tryd.pinned (OpenSpec.ofChange fnExactMountWrong)

/-- 'laws.FnCompact': WHATEVER THE INPUT: true; the input reads as it did. -/
def fnCompactSpec : ChangeSpec := { name := "fnCompact", vars := ["loop.example/s01729/impl.checksumTable"], fn := fun _ => fun
  | [d, g1] => { results := [.lit (.bool true)], args := [d], vars := [g1] }
  | _ => none }
def fnCompactRow : OpenClaim := { program := "yticfnfplpccmgaddoor", sum := "033b4331831197c3b13af01c63a345a4415ba0601410ee392a97b0c0e2da7a1b", func := "loop.example/s01729/laws.FnCompact", spec := "fnCompact", inPlace := ["internal/abi.NoEscape"], named := ["loop.example/s01729/impl.checksumTable"], apart := false, laid := [("loop.example/s01729/impl.checksumTable", laid_loop_example_s01729_impl_checksumTable)] }
def FnCompactSaid : Prop := fnCompactRow.holds Tryd.pinned (OpenSpec.ofChange fnCompactSpec)

/-- ITS FALSE NEIGHBOUR: 'it returns false'. Refute it at one input. -/
def fnCompactWrong : ChangeSpec := { name := "fnCompact", vars := ["loop.example/s01729/impl.checksumTable"], fn := fun _ => fun
  | [d, g1] => { results := [.lit (.bool false)], args := [d], vars := [g1] }
  | _ => none }
def FnCompactWrongFalsely : Prop := fnCompactRow.holds Tryd.pinned (OpenSpec.ofChange fnCompactWrong)

/-- 'laws.FnRoutes': WHATEVER THE INPUT: true; the input reads as it did. -/
def fnRoutesSpec : ChangeSpec := { name := "fnRoutes", vars := ["loop.example/s01729/impl.checksumTable"], fn := fun _ => fun
  | [d, g1] => { results := [.lit (.bool true)], args := [d], vars := [g1] }
  | _ => none }
def fnRoutesRow : OpenClaim := { program := "yticfnfplpccmgaddoor", sum := "033b4331831197c3b13af01c63a345a4415ba0601410ee392a97b0c0e2da7a1b", func := "loop.example/s01729/laws.FnRoutes", spec := "fnRoutes", inPlace := ["internal/bytealg.CountString", "internal/bytealg.IndexByteString", "internal/bytealg.IndexString"], unfollowed := true, recurses := true, named := ["unicode/utf8.first", "unicode/utf8.acceptRanges", "internal/bytealg.MaxLen", "loop.example/s01729/impl.checksumTable"], apart := false, laid := [("unicode/utf8.acceptRanges", laid_unicode_utf8_acceptRanges), ("loop.example/s01729/impl.checksumTable", laid_loop_example_s01729_impl_checksumTable), ("unicode/utf8.first", laid_unicode_utf8_first)] }
def FnRoutesSaid : Prop := fnRoutesRow.holds Tryd.pinned (OpenSpec.ofChange fnRoutesSpec)

/-- ITS FALSE NEIGHBOUR: 'it returns false'. Refute it at one input. -/
def fnRoutesWrong : ChangeSpec := { name := "fnRoutes", vars := ["loop.example/s01729/impl.checksumTable"], fn := fun _ => fun
  | [d, g1] => { results := [.lit (.bool false)], args := [d], vars := [g1] }
  | _ => none }
def FnRoutesWrongFalsely : Prop := fnRoutesRow.holds Tryd.pinned (OpenSpec.ofChange fnRoutesWrong)

/-- 'laws.FnSynced': WHATEVER THE INPUT: true; the input reads as it did. -/
def fnSyncedSpec : ChangeSpec := { name := "fnSynced", vars := ["loop.example/s01729/impl.checksumTable"], fn := fun _ => fun
  | [d1, d2, g1] => { results := [.lit (.bool true)], args := [d1, d2], vars := [g1] }
  | _ => none }
def fnSyncedRow : OpenClaim := { program := "yticfnfplpccmgaddoor", sum := "033b4331831197c3b13af01c63a345a4415ba0601410ee392a97b0c0e2da7a1b", func := "loop.example/s01729/laws.FnSynced", spec := "fnSynced", named := ["loop.example/s01729/impl.checksumTable"], apart := false, laid := [("loop.example/s01729/impl.checksumTable", laid_loop_example_s01729_impl_checksumTable)] }
def FnSyncedSaid : Prop := fnSyncedRow.holds Tryd.pinned (OpenSpec.ofChange fnSyncedSpec)

/-- ITS FALSE NEIGHBOUR: 'it returns false'. Refute it at one input. -/
def fnSyncedWrong : ChangeSpec := { name := "fnSynced", vars := ["loop.example/s01729/impl.checksumTable"], fn := fun _ => fun
  | [d1, d2, g1] => { results := [.lit (.bool false)], args := [d1, d2], vars := [g1] }
  | _ => none }
def FnSyncedWrongFalsely : Prop := fnSyncedRow.holds Tryd.pinned (OpenSpec.ofChange fnSyncedWrong)

/- THE SECOND FORM. 'bulk': how many values and letters a reading holds, each counted each time it is reached (what is shared counts as often as it is met; a slice's spare places count too). A statement '..UptoSaid' is the law's where the arguments, and the package variables that the reading takes, are together of bulk at most 1048576: NARROWER than '..Said'. Prove '..Said' where nothing that the law and all that it calls make is longer than what came in: it says more and counts as full. Else prove '..UptoSaid'. A law counts once. -/
mutual
def uptoBulk {H : Type} : DataW H → Nat
  | .lit (.string bytes) => bytes.length + 1
  | .lit _ => 1
  | .nil => 1
  | .ptr d => uptoBulk d + 1
  | .slice elems spare => uptoBulkAll elems + uptoBulkAll spare + 1
  | .agg parts => uptoBulkAll parts + 1
  | .iface _ d => uptoBulk d + 1
  | .map entries => uptoBulkEntries entries + 1
  | .held _ => 1
def uptoBulkAll {H : Type} : List (DataW H) → Nat
  | [] => 0
  | d :: r => uptoBulk d + uptoBulkAll r
def uptoBulkEntries {H : Type} : List (Lit × DataW H) → Nat
  | [] => 0
  | x :: r => uptoBulkEntry x + uptoBulkEntries r
def uptoBulkEntry {H : Type} : Lit × DataW H → Nat
  | (.string bytes, d) => bytes.length + uptoBulk d + 1
  | (_, d) => uptoBulk d + 1
 end
def uptoSmall : (H : Type) → List (DataW H) → Bool := fun _ ds => decide (uptoBulkAll ds ≤ 1048576)
def OpenSpec.upto (s : _root_.Go.ChangeSpec) : _root_.Go.OpenSpec := { _root_.Go.OpenSpec.ofChange s with cond := some uptoSmall }

/-- 'laws.FnBodies', WHERE WHAT IT READS IS OF BULK AT MOST 1048576: true; the input reads as it did. -/
def fnBodiesUptoRow : OpenClaim := { program := "yticfnfplpccmgaddoor", sum := "033b4331831197c3b13af01c63a345a4415ba0601410ee392a97b0c0e2da7a1b", func := "loop.example/s01729/laws.FnBodies", spec := "fnBodies", inPlace := ["internal/bytealg.CountString", "internal/bytealg.IndexByteString", "internal/bytealg.IndexString", "internal/abi.NoEscape"], named := ["unicode/utf8.first", "unicode/utf8.acceptRanges", "internal/bytealg.MaxLen"], apart := false, laid := [("unicode/utf8.acceptRanges", laid_unicode_utf8_acceptRanges), ("unicode/utf8.first", laid_unicode_utf8_first)], narrowed := true }
def FnBodiesUptoSaid : Prop := fnBodiesUptoRow.holds Tryd.pinned (OpenSpec.upto fnBodiesSpec)

/-- 'laws.FnExactMount', WHERE WHAT IT READS IS OF BULK AT MOST 1048576: true; the input reads as it did. -/
def fnExactMountUptoRow : OpenClaim := { program := "yticfnfplpccmgaddoor", sum := "033b4331831197c3b13af01c63a345a4415ba0601410ee392a97b0c0e2da7a1b", func := "loop.example/s01729/laws.FnExactMount", spec := "fnExactMount", named := ["loop.example/s01729/impl.checksumTable"], apart := false, laid := [("loop.example/s01729/impl.checksumTable", laid_loop_example_s01729_impl_checksumTable)], narrowed := true }
def FnExactMountUptoSaid : Prop := fnExactMountUptoRow.holds Tryd.pinned (OpenSpec.upto fnExactMountSpec)

/-- 'laws.FnCompact', WHERE WHAT IT READS IS OF BULK AT MOST 1048576: true; the input reads as it did. -/
def fnCompactUptoRow : OpenClaim := { program := "yticfnfplpccmgaddoor", sum := "033b4331831197c3b13af01c63a345a4415ba0601410ee392a97b0c0e2da7a1b", func := "loop.example/s01729/laws.FnCompact", spec := "fnCompact", inPlace := ["internal/abi.NoEscape"], named := ["loop.example/s01729/impl.checksumTable"], apart := false, laid := [("loop.example/s01729/impl.checksumTable", laid_loop_example_s01729_impl_checksumTable)], narrowed := true }
def FnCompactUptoSaid : Prop := fnCompactUptoRow.holds Tryd.pinned (OpenSpec.upto fnCompactSpec)

/-- 'laws.FnRoutes', WHERE WHAT IT READS IS OF BULK AT MOST 1048576: true; the input reads as it did. -/
def fnRoutesUptoRow : OpenClaim := { program := "yticfnfplpccmgaddoor", sum := "033b4331831197c3b13af01c63a345a4415ba0601410ee392a97b0c0e2da7a1b", func := "loop.example/s01729/laws.FnRoutes", spec := "fnRoutes", inPlace := ["internal/bytealg.CountString", "internal/bytealg.IndexByteString", "internal/bytealg.IndexString"], unfollowed := true, recurses := true, named := ["unicode/utf8.first", "unicode/utf8.acceptRanges", "internal/bytealg.MaxLen", "loop.example/s01729/impl.checksumTable"], apart := false, laid := [("unicode/utf8.acceptRanges", laid_unicode_utf8_acceptRanges), ("loop.example/s01729/impl.checksumTable", laid_loop_example_s01729_impl_checksumTable), ("unicode/utf8.first", laid_unicode_utf8_first)], narrowed := true }
def FnRoutesUptoSaid : Prop := fnRoutesUptoRow.holds Tryd.pinned (OpenSpec.upto fnRoutesSpec)

/-- 'laws.FnSynced', WHERE WHAT IT READS IS OF BULK AT MOST 1048576: true; the input reads as it did. -/
def fnSyncedUptoRow : OpenClaim := { program := "yticfnfplpccmgaddoor", sum := "033b4331831197c3b13af01c63a345a4415ba0601410ee392a97b0c0e2da7a1b", func := "loop.example/s01729/laws.FnSynced", spec := "fnSynced", named := ["loop.example/s01729/impl.checksumTable"], apart := false, laid := [("loop.example/s01729/impl.checksumTable", laid_loop_example_s01729_impl_checksumTable)], narrowed := true }
def FnSyncedUptoSaid : Prop := fnSyncedUptoRow.holds Tryd.pinned (OpenSpec.upto fnSyncedSpec)

end Rows
end Go.Proofs.YticfnfplpccmgadDoor
