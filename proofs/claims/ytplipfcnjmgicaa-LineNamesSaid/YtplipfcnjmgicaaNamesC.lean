/-
  LineNames: the closed facts of its row. No statement is proved here.
-/
import Derived.Test.YtplipfcnjmgicaaRows
import Derived.ProofKit
import Derived.Test.YtplipfcnjmgicaaMay
import Derived.Test.YtplipfcnjmgicaaLift
namespace Go.Proofs.Ytplipfcnjmgicaa
open Go.ChangeShapes Go.WideShapes Go.ChangeAt Go.RowKit
theorem names_fn : Try.pinned.checked.prog.funcNamed Rows.lineNamesRow.func = some 3 := by kernel_rfl
theorem names_closed : joinedFacts Try.pinned.checked.prog 3 Try.f3 Rows.lineNamesSpec Rows.lineNamesRow = true := by
  show joinedFacts Try.prog 3 Try.f3 Rows.lineNamesSpec Rows.lineNamesRow = true
  unfold joinedFacts
  rw [prog_mayEnter, prog_lifts, prog_make]
  kernel_rfl
theorem names_inst : Try.f3.isInstance Try.pinned.checked.prog Rows.lineNamesRow.origin Rows.lineNamesRow.targs := of_decide_eq_true (by kernel_rfl)
theorem names_wrap : Try.f3.isWrapper Try.pinned.checked.prog Rows.lineNamesRow.wrapper Rows.lineNamesRow.mainSum := by unfold Func.isWrapper; first | (rw [if_pos (by decide +kernel)]; kernel_rfl) | (rw [if_neg (by decide +kernel)]; exact ⟨rfl, rfl⟩)
end Go.Proofs.Ytplipfcnjmgicaa
