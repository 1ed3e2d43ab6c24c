import Derived.Test.YticfnfplpccmgacOwn
import Derived.Test.YticfnfplpccmgacLen
import Derived.HandedShaped
namespace Go.Proofs.Yticfnfplpccmgac
theorem lenIn {W : World} (h : W.ShapedOpen Try.prog) : LenIn W := by
  exact Try.laysM145.s1_3 W h
end Go.Proofs.Yticfnfplpccmgac
