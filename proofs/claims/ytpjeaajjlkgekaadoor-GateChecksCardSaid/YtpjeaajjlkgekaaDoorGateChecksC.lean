/-
  GateChecks: for every argument the law answers true: its card, tied to the program's text. Conditions: what the card says of the listed package-level variables (the program's text lays them).
-/
import Derived.Test.YtpjeaajjlkgekaaDoorGateChecksP
import Derived.Test.YtpjeaajjlkgekaaDoorGateChecksG
import Derived.Test.YtpjeaajjlkgekaaDoorCards
import Derived.Test.YtpjeaajjlkgekaaDoorTie
import Derived.Test.YtpjeaajjlkgekaaDoorGtC2
import Derived.Test.YtpjeaajjlkgekaaDoorGtC3
import Derived.SevenTiedAt
namespace Go.Proofs.YtpjeaajjlkgekaaDoor
open Go
set_option linter.unusedVariables false
/-- The tied card. -/
theorem gateChecks_card : Rows.GateChecksCardSaid :=
  Claim7.holds_tied_plain_at .later [] [.data, .data, .data, .data] true (true, "dcb08a301d37fa686057fecb9128dccb7e337d8b6ae993e49c398f6ea6c2d0af") false
    gateChecks_over (fun _ h => by cases h) gateChecks_wf (fun _ h => by cases h) gateChecks_row_tie rfl ⟨rfl, rfl⟩ card_main rfl
    (fun f fn hf hfn => by
      obtain rfl : f = 4 := Option.some.inj ((show Tryd.prog.funcNamed "quicksilver/quicksilverlaw02.GateChecks" = some 4 by kernel_rfl).symm.trans hf) |>.symm
      obtain rfl : fn = Tryd.f4 := (Option.some.inj (Tryd.func4.symm.trans hfn)).symm
      exact ⟨card_looks, fun j t ht => by
        rw [Tryd.params4] at ht
        have hm : t ∈ [25] := by simpa using Array.mem_of_getElem? ht
        have hall : ([25].all fun u => !Tryd.prog.wantsStandIn u) = true := by kernel_rfl
        exact (show Tryd.prog.wantsStandIn t = false by simpa using List.all_eq_true.1 hall t hm)⟩)
    gateChecks_goes
end Go.Proofs.YtpjeaajjlkgekaaDoor
