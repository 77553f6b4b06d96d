/-
  FormulaKnown: for every argument the law answers true: its card, tied to the program's text. Conditions: what the card says of the listed package-level variables (the program's text lays them).
-/
import Derived.Test.YtbiljmcgcflmmaaGreatDoorKnown7P
import Derived.Test.YtbiljmcgcflmmaaGreatDoorKnown7G
import Derived.Test.YtbiljmcgcflmmaaGreatDoorCards
import Derived.Test.YtbiljmcgcflmmaaGreatDoorTie
import Derived.Test.YtbiljmcgcflmmaaGreatDoorQC2
import Derived.Test.YtbiljmcgcflmmaaGreatDoorQC3
import Derived.SevenTiedAt
namespace Go.Proofs.YtbiljmcgcflmmaaGreatDoor
open Go
set_option linter.unusedVariables false
/-- The tied card. -/
theorem formulaKnown_card : Rows.FormulaKnownCardSaid :=
  Claim7.holds_tied_plain_at .later [] [.data, .data, .data, .sentinel, .sentinel] true (true, "a29179fcb5b424aac218ba4be68ee7758fdc7d2256b36286f06e5a45b0c0831f") true
    formulaKnown_over (fun _ h => by cases h) formulaKnown_wf (fun _ h => by cases h) formulaKnown_row_tie rfl ⟨rfl, rfl⟩ card_main rfl
    (fun f fn hf hfn => by
      obtain rfl : f = 3 := Option.some.inj ((show Tryz.prog.funcNamed "quicksilver/quicksilverlaw07.FormulaKnown" = some 3 by kernel_rfl).symm.trans hf) |>.symm
      obtain rfl : fn = Tryz.f3 := (Option.some.inj (Tryz.func3.symm.trans hfn)).symm
      exact ⟨card_looks, fun j t ht => by
        rw [Tryz.params3] at ht
        simp at ht⟩)
    formulaKnown_goes
end Go.Proofs.YtbiljmcgcflmmaaGreatDoor
