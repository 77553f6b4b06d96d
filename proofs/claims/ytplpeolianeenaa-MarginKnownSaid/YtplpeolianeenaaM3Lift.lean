/-
  Closed facts of the program: how it was made. No statement is proved here.
-/
import Derived.Test.YtplpeolianeenaaRows
import Derived.ProofKit
namespace Go.Proofs.Ytplpeolianeenaa
theorem prog_lifts : Try.prog.liftsFinal = Rows.marginKnownRow.lifted := by kernel_rfl
theorem prog_make : Try.prog.make = some Rows.marginKnownRow.make := by kernel_rfl
end Go.Proofs.Ytplpeolianeenaa
