import Derived.Test.YtpdbcflgaogpbadDoorDisk
namespace Go.Proofs.YtpdbcflgaogpbadDoor
open Go.ChangeShapes Go.WideShapes Go.ChangeAt Go.RowKit

set_option maxHeartbeats 400000 in
theorem implSync (m l t x : ByteArray) (h : Bool) (w : World) (hm : m.size ≤ 1048576) (hl : l.size ≤ 1048576) :
    Calls Tryd.prog 20 #[.agg #[.string m, .string l, .bool h, .string t, .string x]] w fun e w' => e = .returned (.agg #[.string (m ++ l), .string ⟨#[]⟩, .bool h, .string t, .string x]) ∧ Below w.heap.size w w' := by
  go_enter Tryd.func20, Tryd.ntmps20
  go_wp2
  exact bodyPost_ret (v := .agg #[.string (m ++ l), .string ⟨#[]⟩, .bool h, .string t, .string x]) (by simp [results, Tryd.results20, go_sem]) rfl ⟨rfl, below2 _ _ _⟩
end Go.Proofs.YtpdbcflgaogpbadDoor
