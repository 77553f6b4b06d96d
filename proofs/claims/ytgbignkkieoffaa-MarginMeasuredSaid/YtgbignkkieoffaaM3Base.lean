/-
  STAGE 3: the evaluator at this program. No statement is proved here.
-/
import Derived.Test.YtgbignkkieoffaaEv23
import Derived.Test.YtgbignkkieoffaaRows
noncomputable section
namespace Go.Proofs.Ev
open Go.RowKit
set_option maxRecDepth 100000
set_option linter.unusedVariables false
set_option linter.unusedSimpArgs false
theorem named_of {P : Program} (h : (P.funcs.toList.all fun f => !(f.name == "runtime.NumGoroutine")) = true) : Named P := fun k fn hk _ => by
  have := List.all_eq_true.1 h fn (by simpa using Array.mem_of_getElem? hk)
  simpa using this
theorem named : Named Try.prog := named_of (by kernel_rfl)
theorem mixed : Try.prog.follows .mixedOrders = true := by kernel_rfl
def noTab : TabT := fun _ _ => none
theorem noTab_ok : TabOk Try.prog [] noTab := fun f args v h => by cases h
def drawM3 : DrawT := drawEnd Try.prog [] noTab 16 9
theorem drawM3_ok : DrawOk Try.prog drawM3 := drawEnd_ok named mixed noTab_ok 16 9
def stepM3 : St → R1 := step1 Try.prog drawM3
theorem stepM3_ok : StepOk Try.prog stepM3 := fun i w0 cs s fr fs w S => step1_rel named drawM3_ok S
end Go.Proofs.Ev
