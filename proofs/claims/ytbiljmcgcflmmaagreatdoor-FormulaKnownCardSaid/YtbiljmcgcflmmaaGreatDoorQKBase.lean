/-
  FormulaKnown: the evaluator, with what is known of Awake. No statement is proved here.
-/
import Derived.Test.YtbiljmcgcflmmaaGreatDoorQAwake
noncomputable section
namespace Go.Proofs.Ev
open Go.RowKit
set_option maxRecDepth 100000
set_option linter.unusedVariables false
set_option linter.unusedSimpArgs false
def rowsQ : List Row := [⟨24, [], .bool true⟩]
theorem rowsQ_ok : RowsOk Tryz.prog [] rowsQ := fun r hr => by
  obtain rfl : r = ⟨24, [], .bool true⟩ := List.mem_singleton.1 hr
  exact ⟨rfl, fun w _ => awake w⟩
def tabQ : TabT := fun f args => lookup f args rowsQ
theorem tabQ_ok : TabOk Tryz.prog [] tabQ := lookup_ok rowsQ_ok
def hasQ (f : Nat) : Bool := Nat.beq f 24
def stepK : St → R1 := tabbed Tryz.prog hasQ [] tabQ (step1 Tryz.prog (drawEnd Tryz.prog [] tabQ 16 9))
theorem stepK_ok : StepOk Tryz.prog stepK :=
  tabbed_ok named tabQ_ok fun i w0 cs s fr fs w S => step1_rel named (drawEnd_ok named mixed tabQ_ok 16 9) S
end Go.Proofs.Ev
