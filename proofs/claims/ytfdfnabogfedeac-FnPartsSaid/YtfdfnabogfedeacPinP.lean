import Derived.Test.YtfdfnabogfedeacOwn
import Derived.Test.YtfdfnabogfedeacLen
import Derived.HandedShaped
namespace Go.Proofs.Ytfdfnabogfedeac
theorem lenIn {W : World} (h : W.ShapedOpen Try.prog) : LenIn W := by
  exact Try.laysM145.s1_3 W h
end Go.Proofs.Ytfdfnabogfedeac
