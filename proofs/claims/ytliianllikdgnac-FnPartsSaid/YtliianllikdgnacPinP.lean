import Derived.Test.YtliianllikdgnacOwn
import Derived.Test.YtliianllikdgnacLen
import Derived.HandedShaped
namespace Go.Proofs.Ytliianllikdgnac
theorem lenIn {W : World} (h : W.ShapedOpen Try.prog) : LenIn W := by
  exact Try.laysM145.s1_3 W h
end Go.Proofs.Ytliianllikdgnac
