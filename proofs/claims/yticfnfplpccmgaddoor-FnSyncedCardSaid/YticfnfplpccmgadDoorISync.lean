import Derived.Test.YticfnfplpccmgadDoorDisk
namespace Go.Proofs.YticfnfplpccmgadDoor
open Go.ChangeShapes Go.WideShapes Go.ChangeAt Go.RowKit

set_option maxHeartbeats 400000 in
set_option maxRecDepth 100000 in
theorem implSync (m l t x : ByteArray) (h : Bool) (w : World) (hm : m.size ≤ 1048576) (hl : l.size ≤ 1048576) :
    Calls Tryd.prog 33 #[.agg #[.string m, .string l, .bool h, .string t, .string x]] w fun e w' => e = .returned (.agg #[.string (m ++ l), .string ⟨#[]⟩, .bool h, .string t, .string x]) ∧ Below w.heap.size w w' := by
  go_enter Tryd.func33, Tryd.ntmps33
  go_wp2
  exact bodyPost_ret (v := .agg #[.string (m ++ l), .string ⟨#[]⟩, .bool h, .string t, .string x]) (by simp [results, Tryd.results33, go_sem]) rfl ⟨rfl, below2 _ _ _⟩
end Go.Proofs.YticfnfplpccmgadDoor
