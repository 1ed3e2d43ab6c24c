/-
  NARROWER THAN 'FOR EVERY INPUT', by the rows' own cells (each row's printed sentence says how): FnExactChecksum: laid · FnExactFrame: laid.
  DERIVED. THE GIVEN ROWS OF THIS SEAT. 2 by the template 'for every input the law returns true; each argument reads behind the call as it read before'; 0 by the template 'total and deterministic' (their statements: YticfnfplpccmgaaDoorTotals.lean).
  GIVEN WITH THE SEED: the statements are not yours to turn. If you find one false, say at which input.
  Laid BY PROGRAM, IN A SANDBOX (cutbox-rows.mjs): the forced cells as the released guide's own fill.sh prints them over the translation 915cdf611ba0a2d4… (all of the seat's roots in one cut). By AI agents, Wed Nov 11 2026. No macro, syntax, notation, axiom, sorry.
-/
import Derived.Test.YticfnfplpccmgaaDoorChecked
import GoSem.Claim
import GoSem.ClaimJoined
import GoSem.ClaimMapViews
import Derived.JoinedTies
import Derived.KernelRfl
namespace Go.Proofs.YticfnfplpccmgaaDoor
/- THE CELL 'sum', in the pinned program and in every row, IS THE sha256 OF THE DUMP (.gsa) THAT YticfnfplpccmgaaDoorProg.lean LOADS. Nothing in Lean hashes anything: it is a label: what it is worth is what the hold of that sum in a sandbox is worth. -/
noncomputable def Tryd.pinned : Pinned := { name := "yticfnfplpccmgaadoor", sum := "915cdf611ba0a2d443b21dddc5b4ff0d29f87649ac04f537b81cd754d8e467d9", checked := Tryd.checked }
namespace Rows
def none {H : Type} : Left H := { results := [], args := [] }

/- WHAT THE LISTED PACKAGE-LEVEL VARIABLES READ AS WHEN THE CALL BEGINS. Each datum BY PROGRAM (the guide's laid-datum.mjs) off the statement by which the dump's own 'gosem.cut.vars' lays the variable. In a bare row this is a premise. The card (YticfnfplpccmgaaDoorCards.lean) ties it to the program's text. -/
def laid_loop_example_s01729_impl_checksumTable {H : Type} : DataW H := .agg [.lit (.int .u32 0), .lit (.int .u32 498536548), .lit (.int .u32 997073096), .lit (.int .u32 651767980), .lit (.int .u32 1994146192), .lit (.int .u32 1802195444), .lit (.int .u32 1303535960), .lit (.int .u32 1342533948), .lit (.int .u32 3988292384), .lit (.int .u32 4027552580), .lit (.int .u32 3604390888), .lit (.int .u32 3412177804), .lit (.int .u32 2607071920), .lit (.int .u32 2262029012), .lit (.int .u32 2685067896), .lit (.int .u32 3183342108)]

/-- 'laws.FnExactChecksum': WHATEVER THE INPUT: true; the input reads as it did. -/
def fnExactChecksumSpec : ChangeSpec := { name := "fnExactChecksum", vars := ["loop.example/s01729/impl.checksumTable"], fn := fun _ => fun
  | [d, g1] => { results := [.lit (.bool true)], args := [d], vars := [g1] }
  | _ => none }
def fnExactChecksumRow : OpenClaim := { program := "yticfnfplpccmgaadoor", sum := "915cdf611ba0a2d443b21dddc5b4ff0d29f87649ac04f537b81cd754d8e467d9", func := "loop.example/s01729/laws.FnExactChecksum", spec := "fnExactChecksum", named := ["loop.example/s01729/impl.checksumTable"], apart := false, laid := [("loop.example/s01729/impl.checksumTable", laid_loop_example_s01729_impl_checksumTable)] }
def FnExactChecksumSaid : Prop := fnExactChecksumRow.holds Tryd.pinned (OpenSpec.ofChange fnExactChecksumSpec)

/-- ITS FALSE NEIGHBOUR: 'it returns false'. Refute it at one input. -/
def fnExactChecksumWrong : ChangeSpec := { name := "fnExactChecksum", vars := ["loop.example/s01729/impl.checksumTable"], fn := fun _ => fun
  | [d, g1] => { results := [.lit (.bool false)], args := [d], vars := [g1] }
  | _ => none }
def FnExactChecksumWrongFalsely : Prop := fnExactChecksumRow.holds Tryd.pinned (OpenSpec.ofChange fnExactChecksumWrong)

/-- 'laws.FnExactFrame': WHATEVER THE INPUT: true; the input reads as it did. -/
def fnExactFrameSpec : ChangeSpec := { name := "fnExactFrame", vars := ["loop.example/s01729/impl.checksumTable"], fn := fun _ => fun
  | [d, g1] => { results := [.lit (.bool true)], args := [d], vars := [g1] }
  | _ => none }
def fnExactFrameRow : OpenClaim := { program := "yticfnfplpccmgaadoor", sum := "915cdf611ba0a2d443b21dddc5b4ff0d29f87649ac04f537b81cd754d8e467d9", func := "loop.example/s01729/laws.FnExactFrame", spec := "fnExactFrame", named := ["loop.example/s01729/impl.checksumTable"], apart := false, laid := [("loop.example/s01729/impl.checksumTable", laid_loop_example_s01729_impl_checksumTable)] }
def FnExactFrameSaid : Prop := fnExactFrameRow.holds Tryd.pinned (OpenSpec.ofChange fnExactFrameSpec)

/-- ITS FALSE NEIGHBOUR: 'it returns false'. Refute it at one input. -/
def fnExactFrameWrong : ChangeSpec := { name := "fnExactFrame", vars := ["loop.example/s01729/impl.checksumTable"], fn := fun _ => fun
  | [d, g1] => { results := [.lit (.bool false)], args := [d], vars := [g1] }
  | _ => none }
def FnExactFrameWrongFalsely : Prop := fnExactFrameRow.holds Tryd.pinned (OpenSpec.ofChange fnExactFrameWrong)

/- THE SECOND FORM. 'bulk': how many values and letters a reading holds, each counted each time it is reached (what is shared counts as often as it is met; a slice's spare places count too). A statement '..UptoSaid' is the law's where the arguments, and the package variables that the reading takes, are together of bulk at most 1048576: NARROWER than '..Said'. Prove '..Said' where nothing that the law and all that it calls make is longer than what came in: it says more and counts as full. Else prove '..UptoSaid'. A law counts once. -/
mutual
def uptoBulk {H : Type} : DataW H → Nat
  | .lit (.string bytes) => bytes.length + 1
  | .lit _ => 1
  | .nil => 1
  | .ptr d => uptoBulk d + 1
  | .slice elems spare => uptoBulkAll elems + uptoBulkAll spare + 1
  | .agg parts => uptoBulkAll parts + 1
  | .iface _ d => uptoBulk d + 1
  | .map entries => uptoBulkEntries entries + 1
  | .held _ => 1
def uptoBulkAll {H : Type} : List (DataW H) → Nat
  | [] => 0
  | d :: r => uptoBulk d + uptoBulkAll r
def uptoBulkEntries {H : Type} : List (Lit × DataW H) → Nat
  | [] => 0
  | x :: r => uptoBulkEntry x + uptoBulkEntries r
def uptoBulkEntry {H : Type} : Lit × DataW H → Nat
  | (.string bytes, d) => bytes.length + uptoBulk d + 1
  | (_, d) => uptoBulk d + 1
 end
def uptoSmall : (H : Type) → List (DataW H) → Bool := fun _ ds => decide (uptoBulkAll ds ≤ 1048576)
def OpenSpec.upto (s : _root_.Go.ChangeSpec) : _root_.Go.OpenSpec := { _root_.Go.OpenSpec.ofChange s with cond := some uptoSmall }

/-- 'laws.FnExactChecksum', WHERE WHAT IT READS IS OF BULK AT MOST 1048576: true; the input reads as it did. -/
def fnExactChecksumUptoRow : OpenClaim := { program := "yticfnfplpccmgaadoor", sum := "915cdf611ba0a2d443b21dddc5b4ff0d29f87649ac04f537b81cd754d8e467d9", func := "loop.example/s01729/laws.FnExactChecksum", spec := "fnExactChecksum", named := ["loop.example/s01729/impl.checksumTable"], apart := false, laid := [("loop.example/s01729/impl.checksumTable", laid_loop_example_s01729_impl_checksumTable)], narrowed := true }
def FnExactChecksumUptoSaid : Prop := fnExactChecksumUptoRow.holds Tryd.pinned (OpenSpec.upto fnExactChecksumSpec)

/-- 'laws.FnExactFrame', WHERE WHAT IT READS IS OF BULK AT MOST 1048576: true; the input reads as it did. -/
def fnExactFrameUptoRow : OpenClaim := { program := "yticfnfplpccmgaadoor", sum := "915cdf611ba0a2d443b21dddc5b4ff0d29f87649ac04f537b81cd754d8e467d9", func := "loop.example/s01729/laws.FnExactFrame", spec := "fnExactFrame", named := ["loop.example/s01729/impl.checksumTable"], apart := false, laid := [("loop.example/s01729/impl.checksumTable", laid_loop_example_s01729_impl_checksumTable)], narrowed := true }
def FnExactFrameUptoSaid : Prop := fnExactFrameUptoRow.holds Tryd.pinned (OpenSpec.upto fnExactFrameSpec)

end Rows
end Go.Proofs.YticfnfplpccmgaaDoor
