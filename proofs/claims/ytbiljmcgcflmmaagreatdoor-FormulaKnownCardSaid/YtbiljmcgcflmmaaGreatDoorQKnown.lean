/-
  FormulaKnown: the run. No statement is proved here.
-/
import Derived.Test.YtbiljmcgcflmmaaGreatDoorQK2
noncomputable section
namespace Go.Proofs.Ev
open Go.RowKit
set_option maxRecDepth 100000

theorem known_end : goAll stepK (endsIn 3 isTrue) 10 60 qk2 = true := by kernel_rfl

theorem known (w : World) : Calls Tryz.prog 3 #[] w (fun e w' => e = .returned (.bool true) ∧ Below w.heap.size w w') :=
  Calls.mono (closed_from stepK_ok (vs := []) rfl (s := fun _ => qk2) (fun _ => qk1_reach.trans qk2_reach) 10 60 rfl (fun _ => known_end) (fun v hv => by cases hv)) fun e w' h => by
    obtain ⟨⟨v, h1, h2⟩, h3⟩ := h
    exact ⟨by rw [h1, isTrue_eq h2], h3⟩

end Go.Proofs.Ev
