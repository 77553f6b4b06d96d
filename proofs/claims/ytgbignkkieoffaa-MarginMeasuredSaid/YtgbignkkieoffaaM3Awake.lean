/-
  WHAT Awake SAYS: at this commit of the code it answers true, from every world, and leaves what there was as it was.
-/
import Derived.Test.YtgbignkkieoffaaM3Base
noncomputable section
namespace Go.Proofs.Ev
open Go.RowKit
set_option maxRecDepth 100000

theorem awake_run : goAll stepM3 (endsIn 12 isTrue) 10 60 (start Try.prog 12 #[] none0) = true := by kernel_rfl

theorem awake (w : World) : Calls Try.prog 12 #[] w (fun e w' => e = .returned (.bool true) ∧ Below w.heap.size w w') :=
  Calls.mono (closed_run stepM3_ok 10 60 rfl awake_run w) fun e w' h => by
    obtain ⟨⟨v, h1, h2⟩, h3⟩ := h
    exact ⟨by rw [h1, isTrue_eq h2], h3⟩

end Go.Proofs.Ev
