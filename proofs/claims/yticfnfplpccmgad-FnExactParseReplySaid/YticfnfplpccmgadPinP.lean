import Derived.Test.YticfnfplpccmgadOwn
import Derived.Test.YticfnfplpccmgadLen
import Derived.HandedShaped
namespace Go.Proofs.Yticfnfplpccmgad
theorem lenIn {W : World} (h : W.ShapedOpen Try.prog) : LenIn W := by
  exact Try.laysM145.s1_3 W h
end Go.Proofs.Yticfnfplpccmgad
