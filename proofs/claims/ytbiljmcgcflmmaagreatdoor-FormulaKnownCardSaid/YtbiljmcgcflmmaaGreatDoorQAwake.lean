/-
  WHAT Awake SAYS: at this commit of the code it answers true, from every world, and leaves what there was as it was.
-/
import Derived.Test.YtbiljmcgcflmmaaGreatDoorQA2
noncomputable section
namespace Go.Proofs.Ev
open Go.RowKit
set_option maxRecDepth 100000

theorem awake_end : goAll stepQ (endsIn 24 isTrue) 10 60 qa2 = true := by kernel_rfl

theorem awake (w : World) : Calls Tryz.prog 24 #[] w (fun e w' => e = .returned (.bool true) ∧ Below w.heap.size w w') :=
  Calls.mono (closed_from stepQ_ok (vs := []) rfl (s := fun _ => qa2) (fun _ => qa1_reach.trans qa2_reach) 10 60 rfl (fun _ => awake_end) (fun v hv => by cases hv)) fun e w' h => by
    obtain ⟨⟨v, h1, h2⟩, h3⟩ := h
    exact ⟨by rw [h1, isTrue_eq h2], h3⟩

end Go.Proofs.Ev
