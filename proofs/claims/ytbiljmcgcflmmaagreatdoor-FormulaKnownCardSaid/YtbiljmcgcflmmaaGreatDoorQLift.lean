/-
  Closed facts of the program: how it was made. No statement is proved here.
-/
import Derived.Test.YtbiljmcgcflmmaaGreatDoorRows
import Derived.ProofKit
namespace Go.Proofs.YtbiljmcgcflmmaaGreatDoor
theorem prog_lifts : Tryz.prog.liftsFinal = Rows.formulaKnownRow.lifted := by kernel_rfl
theorem prog_make : Tryz.prog.make = some Rows.formulaKnownRow.make := by kernel_rfl
end Go.Proofs.YtbiljmcgcflmmaaGreatDoor
