import Derived.Test.YticfnfplpccmgadDoorRd
namespace Go.Proofs.YticfnfplpccmgadDoor
open Go.ChangeShapes Go.WideShapes Go.ChangeAt Go.RowKit

set_option maxHeartbeats 1000000 in
set_option maxRecDepth 100000 in
theorem rdLeft (b p : Nat) (cv : Value) (B : List UInt8) (w : World) (h : RdAt w b cv B p) :
    Calls Tryd.prog 52 #[.pointer (some ⟨b, 0, none⟩)] w fun e w' => e = .returned (.int .i64 ((B.length : Int) - (p : Int))) ∧ ∃ n, w' = w.drewN n := by
  obtain ⟨c0, c1, f1, hlt, hp, ⟨hB, hform⟩, _⟩ := h
  obtain ⟨a, c, rfl⟩ : ∃ a c, cv = .slice a B.length c := by
    rcases hform with ⟨rfl, a, c, rfl⟩ | ⟨g, off, cap, rfl, _⟩
    · exact ⟨_, _, rfl⟩
    · exact ⟨_, _, rfl⟩
  clear hform
  go_enter Tryd.func52, Tryd.ntmps52
  go_wp2
  go_quiet (fail)
  go_wp2
  go_ret
  exact ⟨rfl, nq, rfl⟩
end Go.Proofs.YticfnfplpccmgadDoor
