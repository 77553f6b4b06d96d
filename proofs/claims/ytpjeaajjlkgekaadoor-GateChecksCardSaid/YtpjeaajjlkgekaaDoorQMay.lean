/-
  A closed fact of the program: it may enter. No statement is proved here.
-/
import Derived.Test.YtpjeaajjlkgekaaDoorRows
import Derived.ProofKit
namespace Go.Proofs.YtpjeaajjlkgekaaDoor
theorem prog_mayEnter : Tryd.prog.mayEnter = true := by kernel_rfl
end Go.Proofs.YtpjeaajjlkgekaaDoor
