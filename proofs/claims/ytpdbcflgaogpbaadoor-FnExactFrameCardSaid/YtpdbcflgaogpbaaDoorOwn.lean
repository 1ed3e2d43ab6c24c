import Derived.Test.YtpdbcflgaogpbaaDoorRows
import Derived.Test.YtpdbcflgaogpbaaDoorLawBase
namespace Go.Proofs.YtpdbcflgaogpbaaDoor
theorem own : ownKnob Tryd.prog.godebug = none := by kernel_rfl
theorem laidOut : laidOutB Tryd.prog = true := by kernel_rfl
end Go.Proofs.YtpdbcflgaogpbaaDoor
