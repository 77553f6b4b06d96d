/-
  A closed fact of the program, for its cards. No statement is proved here.
-/
import Derived.Test.YtbiljmcgcflmmaaGreatDoorCards
import Derived.SevenTiedAt
import Derived.ProofKit
namespace Go.Proofs.YtbiljmcgcflmmaaGreatDoor
set_option maxRecDepth 100000
theorem card_looks : true = Tryz.prog.looks [] := by kernel_rfl
end Go.Proofs.YtbiljmcgcflmmaaGreatDoor
