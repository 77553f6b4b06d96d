/-
  DERIVED. GIVEN WITH THE SEED: THE CARDS: each row of YtpjeaajjlkgekaaDoorRows.lean that lists a variable, with what it lists TIED to the program's text (the seventh form; the later family's looks); each row that meets fmt, with fmt's text TOLD by the authors' own Lean function (tested against real Go, not proved from fmt's source: count such statements apart). THE CARD IS WHAT COUNTS. Prove the row's statement (the work); the ties are given (YtpjeaajjlkgekaaDoorTie.lean); close each card by the builder's one call (the guide's Derived/Test/ToyasCard.lean, 'card_holds'). Laid BY PROGRAM, IN A SANDBOX (cutbox-door.mjs). By AI agents, Wed Nov 11 2026. No macro, syntax, notation, axiom, sorry.
-/
import Derived.Test.YtpjeaajjlkgekaaDoorRows
import GoSem.ClaimSeven
namespace Go.Proofs.YtpjeaajjlkgekaaDoor
namespace Rows

/-- THE TIED CARD OF 'quicksilverlaw02.GateKnown'. -/
def gateKnownCard : Claim7 := { stood := { row := gateKnownRow, standIns := [], harness := (true, "dcb08a301d37fa686057fecb9128dccb7e337d8b6ae993e49c398f6ea6c2d0af"), looks := false }, kinds := [], alts := [], laidByText := true, laidKinds := [.data, .data, .data, .data], laidTests := true, laidLooks := .later }
def GateKnownCardSaid : Prop := Claim7.holds Tryd.pinned (.plain (OpenSpec.ofChange gateKnownSpec)) gateKnownCard

/-- THE TIED CARD OF 'quicksilverlaw02.GateChecks'. -/
def gateChecksCard : Claim7 := { stood := { row := gateChecksRow, standIns := [], harness := (true, "dcb08a301d37fa686057fecb9128dccb7e337d8b6ae993e49c398f6ea6c2d0af"), looks := false }, kinds := [], alts := [], laidByText := true, laidKinds := [.data, .data, .data, .data], laidTests := true, laidLooks := .later }
def GateChecksCardSaid : Prop := Claim7.holds Tryd.pinned (.plain (OpenSpec.ofChange gateChecksSpec)) gateChecksCard

/-- THE SECOND FORM's CARD OF 'quicksilverlaw02.GateKnown'. -/
def gateKnownUptoCard : Claim7 := { stood := { row := gateKnownUptoRow, standIns := [], harness := (true, "dcb08a301d37fa686057fecb9128dccb7e337d8b6ae993e49c398f6ea6c2d0af"), looks := false }, kinds := [], alts := [], laidByText := true, laidKinds := [.data, .data, .data, .data], laidTests := true, laidLooks := .later }
def GateKnownUptoCardSaid : Prop := Claim7.holds Tryd.pinned (.plain (OpenSpec.upto gateKnownSpec)) gateKnownUptoCard

/-- THE SECOND FORM's CARD OF 'quicksilverlaw02.GateChecks'. -/
def gateChecksUptoCard : Claim7 := { stood := { row := gateChecksUptoRow, standIns := [], harness := (true, "dcb08a301d37fa686057fecb9128dccb7e337d8b6ae993e49c398f6ea6c2d0af"), looks := false }, kinds := [], alts := [], laidByText := true, laidKinds := [.data, .data, .data, .data], laidTests := true, laidLooks := .later }
def GateChecksUptoCardSaid : Prop := Claim7.holds Tryd.pinned (.plain (OpenSpec.upto gateChecksSpec)) gateChecksUptoCard
end Rows
end Go.Proofs.YtpjeaajjlkgekaaDoor
