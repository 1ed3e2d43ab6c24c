import Derived.Test.YtliianllikdgnadOwn
import Derived.Test.YtliianllikdgnadLen
import Derived.HandedShaped
namespace Go.Proofs.Ytliianllikdgnad
theorem lenIn {W : World} (h : W.ShapedOpen Try.prog) : LenIn W := by
  exact Try.laysM145.s1_3 W h
end Go.Proofs.Ytliianllikdgnad
