/-
  A closed fact of the program: it may enter. No statement is proved here.
-/
import Derived.Test.YtgbignkkieoffaaRows
import Derived.ProofKit
namespace Go.Proofs.Ytgbignkkieoffaa
theorem prog_mayEnter : Try.prog.mayEnter = true := by kernel_rfl
end Go.Proofs.Ytgbignkkieoffaa
