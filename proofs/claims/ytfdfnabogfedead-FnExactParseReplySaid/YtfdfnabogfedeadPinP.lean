import Derived.Test.YtfdfnabogfedeadOwn
import Derived.Test.YtfdfnabogfedeadLen
import Derived.HandedShaped
namespace Go.Proofs.Ytfdfnabogfedead
theorem lenIn {W : World} (h : W.ShapedOpen Try.prog) : LenIn W := by
  exact Try.laysM145.s1_3 W h
end Go.Proofs.Ytfdfnabogfedead
