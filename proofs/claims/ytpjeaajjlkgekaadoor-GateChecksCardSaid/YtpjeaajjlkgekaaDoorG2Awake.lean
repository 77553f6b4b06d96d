/-
  WHAT Awake SAYS (stage 2): at this commit of the code it answers true, from every world whose variable of package gate stands as laid, and leaves what there was as it was.
-/
import Derived.Test.YtpjeaajjlkgekaaDoorG2A5
noncomputable section
namespace Go.Proofs.Ev
open Go.RowKit
set_option maxRecDepth 100000

theorem awake_end : ∀ es, goAll stepG (endsIn 13 isTrue) 10 60 (g2a5 es) = true := fun es => by kernel_rfl

theorem awake {w : World} (hw : Holds gvars w) : Calls Tryd.prog 13 #[] w (fun e w' => e = .returned (.bool true) ∧ Below w.heap.size w w') :=
  Calls.mono (closed_from stepG_ok (vs := gvars) gvars_ok (s := g2a5) (fun es => (((g2a1_reach es).trans (g2a2_reach es)).trans ((g2a3_reach es).trans (g2a4_reach es))).trans (g2a5_reach es)) 10 60 rfl awake_end hw) fun e w' h => by
    obtain ⟨⟨v, h1, h2⟩, h3⟩ := h
    exact ⟨by rw [h1, isTrue_eq h2], h3⟩

end Go.Proofs.Ev
