/-
  A closed fact of the program: it may enter. No statement is proved here.
-/
import Derived.Test.YtbiljmcgcflmmaaGreatDoorRows
import Derived.ProofKit
namespace Go.Proofs.YtbiljmcgcflmmaaGreatDoor
theorem prog_mayEnter : Tryz.prog.mayEnter = true := by kernel_rfl
end Go.Proofs.YtbiljmcgcflmmaaGreatDoor
