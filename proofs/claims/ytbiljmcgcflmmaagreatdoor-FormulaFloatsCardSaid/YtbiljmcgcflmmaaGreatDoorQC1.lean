/-
  A closed fact of the program, for its cards. No statement is proved here.
-/
import Derived.Test.YtbiljmcgcflmmaaGreatDoorCards
import Derived.SevenTiedAt
import Derived.ProofKit
namespace Go.Proofs.YtbiljmcgcflmmaaGreatDoor
set_option maxRecDepth 100000
theorem card_wf : Rows.formulaFloatsRow.wfByText (OpenSpec.ofChange Rows.formulaFloatsSpec) = true := by kernel_rfl
end Go.Proofs.YtbiljmcgcflmmaaGreatDoor
