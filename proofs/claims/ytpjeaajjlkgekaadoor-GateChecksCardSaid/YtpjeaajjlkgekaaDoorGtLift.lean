/-
  Closed facts of the program: how it was made. No statement is proved here.
-/
import Derived.Test.YtpjeaajjlkgekaaDoorRows
import Derived.ProofKit
namespace Go.Proofs.YtpjeaajjlkgekaaDoor
theorem prog_lifts : Tryd.prog.liftsFinal = Rows.gateChecksRow.lifted := by kernel_rfl
theorem prog_make : Tryd.prog.make = some Rows.gateChecksRow.make := by kernel_rfl
end Go.Proofs.YtpjeaajjlkgekaaDoor
