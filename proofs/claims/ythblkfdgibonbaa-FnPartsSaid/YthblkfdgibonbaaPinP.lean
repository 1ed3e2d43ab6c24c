import Derived.Test.YthblkfdgibonbaaOwn
import Derived.Test.YthblkfdgibonbaaLen
import Derived.HandedShaped
namespace Go.Proofs.Ythblkfdgibonbaa
theorem lenIn {W : World} (h : W.ShapedOpen Try.prog) : LenIn W := by
  exact Try.laysM145.s1_3 W h
end Go.Proofs.Ythblkfdgibonbaa
