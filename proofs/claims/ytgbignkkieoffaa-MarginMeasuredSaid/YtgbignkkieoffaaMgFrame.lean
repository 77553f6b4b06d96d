/-
  THE FRAME OF STAGE 3's STATEMENTS. No statement is proved here.
-/
import Derived.Test.YtgbignkkieoffaaRows
import Derived.Test.YtgbignkkieoffaaM3May
import Derived.Test.YtgbignkkieoffaaMgLift
import Derived.WalkKit
import Derived.ProofKit
import Derived.OpenShut
import Derived.ChangeOld
import Derived.ChangeSlices
import Derived.Below
namespace Go.Proofs.Ytgbignkkieoffaa
open Go.ChangeShapes Go.WideShapes Go.ChangeAt Go.RowKit
theorem seat_own : ownKnob Try.prog.godebug = none := by kernel_rfl
theorem seat_laidOut : laidOutB Try.prog = true := by kernel_rfl
end Go.Proofs.Ytgbignkkieoffaa
