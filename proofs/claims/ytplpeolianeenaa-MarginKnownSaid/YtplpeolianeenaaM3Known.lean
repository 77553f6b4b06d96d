/-
  MarginKnown: the run, with what is known of Awake. No statement is proved here.
-/
import Derived.Test.YtplpeolianeenaaM3Awake
noncomputable section
namespace Go.Proofs.Ev
open Go.RowKit
set_option maxRecDepth 100000
set_option linter.unusedVariables false
set_option linter.unusedSimpArgs false
def rowsM : List Row := [⟨12, [], .bool true⟩]
theorem rowsM_ok : RowsOk Try.prog [] rowsM := fun r hr => by
  obtain rfl : r = ⟨12, [], .bool true⟩ := List.mem_singleton.1 hr
  exact ⟨rfl, fun w _ => awake w⟩
def tabM : TabT := fun f args => lookup f args rowsM
theorem tabM_ok : TabOk Try.prog [] tabM := lookup_ok rowsM_ok
def hasM (f : Nat) : Bool := Nat.beq f 12
def stepK3 : St → R1 := tabbed Try.prog hasM [] tabM (step1 Try.prog (drawEnd Try.prog [] tabM 16 9))
theorem stepK3_ok : StepOk Try.prog stepK3 :=
  tabbed_ok named tabM_ok fun i w0 cs s fr fs w S => step1_rel named (drawEnd_ok named mixed tabM_ok 16 9) S
theorem known_run : goAll stepK3 (endsIn 3 isTrue) 10 60 (start Try.prog 3 #[] none0) = true := by kernel_rfl
theorem known (w : World) : Calls Try.prog 3 #[] w (fun e w' => e = .returned (.bool true) ∧ Below w.heap.size w w') :=
  Calls.mono (closed_run stepK3_ok 10 60 rfl known_run w) fun e w' h => by
    obtain ⟨⟨v, h1, h2⟩, h3⟩ := h
    exact ⟨by rw [h1, isTrue_eq h2], h3⟩
end Go.Proofs.Ev
