/-
  A closed fact of the program, for its cards. No statement is proved here.
-/
import Derived.Test.YtbiljmcgcflmmaaGreatDoorCards
import Derived.SevenTiedAt
import Derived.ProofKit
namespace Go.Proofs.YtbiljmcgcflmmaaGreatDoor
set_option maxRecDepth 100000
theorem card_main : Tryz.pinned.checked.prog.mainIs = some (true, "a29179fcb5b424aac218ba4be68ee7758fdc7d2256b36286f06e5a45b0c0831f".toList) := by kernel_rfl
end Go.Proofs.YtbiljmcgcflmmaaGreatDoor
