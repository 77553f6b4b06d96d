/-
  Closed facts of the program: how it was made. No statement is proved here.
-/
import Derived.Test.YtgbignkkieoffaaRows
import Derived.ProofKit
namespace Go.Proofs.Ytgbignkkieoffaa
theorem prog_lifts : Try.prog.liftsFinal = Rows.marginNeedsRow.lifted := by kernel_rfl
theorem prog_make : Try.prog.make = some Rows.marginNeedsRow.make := by kernel_rfl
end Go.Proofs.Ytgbignkkieoffaa
