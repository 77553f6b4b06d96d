/-
  LineKnown: Keeps of the examples, by the evaluator. No statement is proved here.
-/
import Derived.Test.YtplipfcnjmgicaaKnownO
noncomputable section
namespace Go.Proofs.Ev
open Go.RowKit
set_option maxRecDepth 100000
def keepsRes (n : Int) : Value := .tuple #[.int .i64 n, .int .i64 0]
theorem keeps_run1 : goAll stepM (endsIn 38 (fun x => eqW x (keepsRes (-1)))) 10 40 (start Try.prog 38 #[lineA, ovenX 1, at0, .bool false, .int .i64 200] none0) = true := by kernel_rfl
theorem keeps_run2 : goAll stepM (endsIn 38 (fun x => eqW x (keepsRes 2))) 10 40 (start Try.prog 38 #[lineA, ovenX 2, at0, .bool false, .int .i64 200] none0) = true := by kernel_rfl
theorem keeps_1 (w : World) : Calls Try.prog 38 #[lineA, ovenX 1, at0, .bool false, .int .i64 200] w fun e w' => e = .returned (keepsRes (-1)) ∧ Below w.heap.size w w' := closed_is 10 40 (by kernel_rfl) keeps_run1 w
theorem keeps_2 (w : World) : Calls Try.prog 38 #[lineA, ovenX 2, at0, .bool false, .int .i64 200] w fun e w' => e = .returned (keepsRes 2) ∧ Below w.heap.size w w' := closed_is 10 40 (by kernel_rfl) keeps_run2 w
end Go.Proofs.Ev
