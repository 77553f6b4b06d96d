/-
  WHAT Awake SAYS: at this commit of the code it answers true, from every world, and leaves what there was as it was.
-/
import Derived.Test.YtplipfcnjmgicaaEv14
import Derived.Test.YtplipfcnjmgicaaRows
noncomputable section
namespace Go.Proofs.Ev
open Go.RowKit
set_option maxRecDepth 100000

theorem named_of {P : Program} (h : (P.funcs.toList.all fun f => !(f.name == "runtime.NumGoroutine")) = true) : Named P := fun k fn hk _ => by
  have := List.all_eq_true.1 h fn (by simpa using Array.mem_of_getElem? hk)
  simpa using this

theorem named : Named Try.prog := named_of (by kernel_rfl)
theorem mixed : Try.prog.follows .mixedOrders = true := by kernel_rfl

/-- The call of Can is one step. -/
def stepT : St → R1 := stepD Try.prog 3 16 (fun f => Nat.beq f 32) 10 60
theorem stepT_ok : StepOk Try.prog stepT := stepD_ok named mixed 3 16 _ 10 60

theorem awake_run : goAll stepT (endsIn 22 isTrue) 10 60 (start Try.prog 22 #[] none0) = true := by kernel_rfl

theorem awake (w : World) : Calls Try.prog 22 #[] w (fun e w' => e = .returned (.bool true) ∧ Below w.heap.size w w') :=
  Calls.mono (closed_run stepT_ok 10 60 rfl awake_run w) fun e w' h => by
    obtain ⟨⟨v, h1, h2⟩, h3⟩ := h
    exact ⟨by rw [h1, isTrue_eq h2], h3⟩

end Go.Proofs.Ev
