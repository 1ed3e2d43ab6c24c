import Derived.Test.YticfnfplpccmgadDoorOwn
import Derived.WalkKit
import Derived.WalkLawsBesides
import Derived.Laws.StructEq
namespace Go.Proofs.YticfnfplpccmgadDoor
open Go.RowKit
set_option maxRecDepth 100000 in
theorem fieldsDisk : Tryd.prog.underlying 33 = some (.struct (Tryd.prog.fieldsOf 33)) := by kernel_rfl
theorem stoodDisk : Tryd.prog.stoodInHeld 33 = false := by kernel_rfl
theorem eqlDisk (m l t x : ByteArray) (h : Bool) (w : World) : (binOp .eql 33 (.agg #[.string m, .string l, .bool h, .string t, .string x]) (.agg #[.string m, .string l, .bool h, .string t, .string x])).run Tryd.prog w = .ok (.bool true) w := by
  rw [run_eql_struct, run_equalIn_agg _ _ _ _ _ fieldsDisk stoodDisk]
  simp [go_sem, Tryd.underlying33, Tryd.underlying9, Tryd.underlying4]
end Go.Proofs.YticfnfplpccmgadDoor
