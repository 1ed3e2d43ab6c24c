import Derived.Test.YtpdbcflgaogpbacDoorRows
import Derived.Test.YtpdbcflgaogpbacDoorLawBase
namespace Go.Proofs.YtpdbcflgaogpbacDoor
theorem own : ownKnob Tryd.prog.godebug = none := by kernel_rfl
theorem laidOut : laidOutB Tryd.prog = true := by kernel_rfl
end Go.Proofs.YtpdbcflgaogpbacDoor
