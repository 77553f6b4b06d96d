/-
  Closed facts of the program: how it was made. No statement is proved here.
-/
import Derived.Test.YtplipfcnjmgicaaRows
import Derived.ProofKit
namespace Go.Proofs.Ytplipfcnjmgicaa
theorem prog_lifts : Try.prog.liftsFinal = Rows.lineNamesRow.lifted := by kernel_rfl
theorem prog_make : Try.prog.make = some Rows.lineNamesRow.make := by kernel_rfl
end Go.Proofs.Ytplipfcnjmgicaa
