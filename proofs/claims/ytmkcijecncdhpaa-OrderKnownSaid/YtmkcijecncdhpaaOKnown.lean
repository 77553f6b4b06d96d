/-
  OrderKnown: the run. No statement is proved here.
-/
import Derived.Test.YtmkcijecncdhpaaOKnK
noncomputable section
namespace Go.Proofs.Ev
open Go.RowKit Go.Proofs.Ytmkcijecncdhpaa
set_option maxRecDepth 100000
set_option linter.unusedVariables false
set_option linter.unusedSimpArgs false
theorem known_run : ∀ es, goAll stepK (endsIn 3 (fun x => eqW x (.bool true))) 10 60 (start Try.prog 3 #[] (gHeap es [])) = true := fun es => by kernel_rfl

theorem known (w : World) : Calls Try.prog 3 #[] w (fun e w' => e = .returned (.bool true) ∧ Below w.heap.size w w') :=
  closed_is stepK_ok (vs := []) rfl 10 60 rfl known_run (holds0 w)
end Go.Proofs.Ev
