/-
  A closed fact of the program, for its cards. No statement is proved here.
-/
import Derived.Test.YtpjeaajjlkgekaaDoorCards
import Derived.SevenTiedAt
import Derived.ProofKit
namespace Go.Proofs.YtpjeaajjlkgekaaDoor
set_option maxRecDepth 100000
theorem card_main : Tryd.pinned.checked.prog.mainIs = some (true, "dcb08a301d37fa686057fecb9128dccb7e337d8b6ae993e49c398f6ea6c2d0af".toList) := by kernel_rfl
end Go.Proofs.YtpjeaajjlkgekaaDoor
