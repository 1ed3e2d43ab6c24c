import Derived.Test.YtpdbcflgaogpbaaRows
import Derived.Test.YtpdbcflgaogpbaaLawBase
namespace Go.Proofs.Ytpdbcflgaogpbaa
theorem own : ownKnob Try.prog.godebug = none := by kernel_rfl
theorem laidOut : laidOutB Try.prog = true := by kernel_rfl
end Go.Proofs.Ytpdbcflgaogpbaa
