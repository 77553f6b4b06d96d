/-
  A closed fact of the program, for its cards. No statement is proved here.
-/
import Derived.Test.YtpjeaajjlkgekaaDoorCards
import Derived.SevenTiedAt
import Derived.ProofKit
namespace Go.Proofs.YtpjeaajjlkgekaaDoor
set_option maxRecDepth 100000
theorem card_looks : false = Tryd.prog.looks [] := by kernel_rfl
end Go.Proofs.YtpjeaajjlkgekaaDoor
