/-
  Closed facts of the program, for the card of FormulaKnown. No statement is proved here.
-/
import Derived.Test.YtbiljmcgcflmmaaGreatDoorCards
import Derived.SevenTiedAt
import Derived.ProofKit
namespace Go.Proofs.YtbiljmcgcflmmaaGreatDoor
set_option maxRecDepth 100000
theorem formulaKnown_wf : Rows.formulaKnownRow.wfByText (OpenSpec.ofChange Rows.formulaKnownSpec) = true := by kernel_rfl
theorem formulaKnown_goes : false = Rows.formulaKnownRow.goesBy Tryz.prog := by kernel_rfl
end Go.Proofs.YtbiljmcgcflmmaaGreatDoor
