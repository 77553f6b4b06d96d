/-
  Closed facts of the program, for the card of GateChecks. No statement is proved here.
-/
import Derived.Test.YtpjeaajjlkgekaaDoorCards
import Derived.SevenTiedAt
import Derived.ProofKit
namespace Go.Proofs.YtpjeaajjlkgekaaDoor
set_option maxRecDepth 100000
theorem gateChecks_wf : Rows.gateChecksRow.wfByText (OpenSpec.ofChange Rows.gateChecksSpec) = true := by kernel_rfl
theorem gateChecks_goes : false = Rows.gateChecksRow.goesBy Tryd.prog := by kernel_rfl
end Go.Proofs.YtpjeaajjlkgekaaDoor
