/-
  Closed facts of the program: how it was made. No statement is proved here.
-/
import Derived.Test.YtmkcijecncdhpaaRows
import Derived.ProofKit
namespace Go.Proofs.Ytmkcijecncdhpaa
theorem prog_lifts : Try.prog.liftsFinal = Rows.orderKnownRow.lifted := by kernel_rfl
theorem prog_make : Try.prog.make = some Rows.orderKnownRow.make := by kernel_rfl
end Go.Proofs.Ytmkcijecncdhpaa
