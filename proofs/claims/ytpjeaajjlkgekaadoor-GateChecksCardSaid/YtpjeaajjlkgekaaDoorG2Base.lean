/-
  STAGE 2: the evaluator at this program; its package variable. No statement is proved here.
-/
import Derived.Test.YtpjeaajjlkgekaaDoorEv23
import Derived.Test.YtpjeaajjlkgekaaDoorRows
noncomputable section
namespace Go.Proofs.Ev
open Go.RowKit
set_option maxRecDepth 100000
set_option linter.unusedVariables false
set_option linter.unusedSimpArgs false

theorem named_of {P : Program} (h : (P.funcs.toList.all fun f => !(f.name == "runtime.NumGoroutine")) = true) : Named P := fun k fn hk _ => by
  have := List.all_eq_true.1 h fn (by simpa using Array.mem_of_getElem? hk)
  simpa using this

theorem named : Named Tryd.prog := named_of (by kernel_rfl)
theorem mixed : Tryd.prog.follows .mixedOrders = true := by kernel_rfl

/-- The words of the kinds of gates. -/
def gvars : List GVar := [⟨0, [.string ⟨#[]⟩, .string ⟨#[97, 110, 100]⟩, .string ⟨#[111, 114]⟩, .string ⟨#[120, 111, 114]⟩, .string ⟨#[110, 111, 116]⟩, .string ⟨#[100, 101, 108, 97, 121]⟩]⟩]
theorem gvars_ok : gOk gvars = true := by kernel_rfl

def noTab : TabT := fun _ _ => none
theorem noTab_ok : TabOk Tryd.prog gvars noTab := fun f args v h => by cases h
def drawG : DrawT := drawEnd Tryd.prog gvars noTab 16 9
theorem drawG_ok : DrawOk Tryd.prog drawG := drawEnd_ok named mixed noTab_ok 16 9
def stepG : St → R1 := step1 Tryd.prog drawG
theorem stepG_ok : StepOk Tryd.prog stepG := fun i w0 cs s fr fs w S => step1_rel named drawG_ok S
end Go.Proofs.Ev
