/-
  STAGE 7: the evaluator at this program. No statement is proved here.
-/
import Derived.Test.YtbiljmcgcflmmaaGreatDoorEv23
import Derived.Test.YtbiljmcgcflmmaaGreatDoorRows
noncomputable section
namespace Go.Proofs.Ev
open Go.RowKit
set_option maxRecDepth 100000
set_option linter.unusedVariables false
set_option linter.unusedSimpArgs false
theorem named_of {P : Program} (h : (P.funcs.toList.all fun f => !(f.name == "runtime.NumGoroutine")) = true) : Named P := fun k fn hk _ => by
  have := List.all_eq_true.1 h fn (by simpa using Array.mem_of_getElem? hk)
  simpa using this
theorem named : Named Tryz.prog := named_of (by kernel_rfl)
theorem mixed : Tryz.prog.follows .mixedOrders = true := by kernel_rfl
def noTab : TabT := fun _ _ => none
theorem noTab_ok : TabOk Tryz.prog [] noTab := fun f args v h => by cases h
def drawQ : DrawT := drawEnd Tryz.prog [] noTab 16 9
theorem drawQ_ok : DrawOk Tryz.prog drawQ := drawEnd_ok named mixed noTab_ok 16 9
def stepQ : St → R1 := step1 Tryz.prog drawQ
theorem stepQ_ok : StepOk Tryz.prog stepQ := fun i w0 cs s fr fs w S => step1_rel named drawQ_ok S
end Go.Proofs.Ev
