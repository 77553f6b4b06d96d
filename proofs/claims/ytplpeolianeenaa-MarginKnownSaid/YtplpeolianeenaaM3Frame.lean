/-
  THE FRAME OF STAGE 3's STATEMENTS. No statement is proved here.
-/
import Derived.Test.YtplpeolianeenaaRows
import Derived.Test.YtplpeolianeenaaM3May
import Derived.Test.YtplpeolianeenaaM3Lift
import Derived.WalkKit
import Derived.ProofKit
import Derived.OpenShut
import Derived.ChangeOld
import Derived.ChangeSlices
import Derived.Below
namespace Go.Proofs.Ytplpeolianeenaa
open Go.ChangeShapes Go.WideShapes Go.ChangeAt Go.RowKit
theorem seat_own : ownKnob Try.prog.godebug = none := by kernel_rfl
theorem seat_laidOut : laidOutB Try.prog = true := by kernel_rfl
end Go.Proofs.Ytplpeolianeenaa
