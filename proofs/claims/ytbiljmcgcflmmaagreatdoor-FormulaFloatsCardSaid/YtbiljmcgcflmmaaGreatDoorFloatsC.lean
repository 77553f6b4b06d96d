/-
  FormulaFloats: for every number and exponent the law answers true: its card, tied to the program's text. Conditions: what the card says of the listed package-level variables (the program's text lays them).
-/
import Derived.Test.YtbiljmcgcflmmaaGreatDoorFloatsP
import Derived.Test.YtbiljmcgcflmmaaGreatDoorCards
import Derived.Test.YtbiljmcgcflmmaaGreatDoorTie
import Derived.Test.YtbiljmcgcflmmaaGreatDoorQC1
import Derived.Test.YtbiljmcgcflmmaaGreatDoorQC2
import Derived.Test.YtbiljmcgcflmmaaGreatDoorQC3
import Derived.Test.YtbiljmcgcflmmaaGreatDoorQC4
import Derived.SevenTiedAt
namespace Go.Proofs.YtbiljmcgcflmmaaGreatDoor
open Go
set_option linter.unusedVariables false
/-- The tied card. -/
theorem formulaFloats_card : Rows.FormulaFloatsCardSaid :=
  Claim7.holds_tied_plain_at .later [] [.data, .data, .data, .sentinel, .sentinel] true (true, "a29179fcb5b424aac218ba4be68ee7758fdc7d2256b36286f06e5a45b0c0831f") true
    formulaFloats_over (fun _ h => by cases h) card_wf (fun _ h => by cases h) formulaFloats_row_tie rfl ⟨rfl, rfl⟩ card_main rfl
    (fun f fn hf hfn => by
      obtain rfl : f = 5 := Option.some.inj ((show Tryz.prog.funcNamed "quicksilver/quicksilverlaw07.FormulaFloats" = some 5 by kernel_rfl).symm.trans hf) |>.symm
      obtain rfl : fn = Tryz.f5 := (Option.some.inj (Tryz.func5.symm.trans hfn)).symm
      exact ⟨card_looks, fun j t ht => by
        rw [Tryz.params5] at ht
        have hm : t ∈ [3, 3] := by simpa using Array.mem_of_getElem? ht
        have hall : ([3, 3].all fun u => !Tryz.prog.wantsStandIn u) = true := by kernel_rfl
        exact (show Tryz.prog.wantsStandIn t = false by simpa using List.all_eq_true.1 hall t hm)⟩)
    card_goes
end Go.Proofs.YtbiljmcgcflmmaaGreatDoor
