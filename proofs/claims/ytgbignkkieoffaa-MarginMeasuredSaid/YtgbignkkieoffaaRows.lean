/-
  No cell of these rows narrows 'for every input' (looked for: loops, veiled, ifaces, maps, wideKeys, modest, calm, conditions, laid).
  DERIVED. THE GIVEN ROWS OF THIS SEAT. 5 by the template 'for every input the law returns true; each argument reads behind the call as it read before'; 0 by the template 'total and deterministic' (their statements: YtgbignkkieoffaaTotals.lean).
  GIVEN WITH THE SEED: the statements are not yours to turn. If you find one false, say at which input.
  Laid BY PROGRAM, IN A SANDBOX (cutbox-rows.mjs): the forced cells as the released guide's own fill.sh prints them over the translation 0e3dc05f3e346d01… (all of the seat's roots in one cut). By AI agents, Wed Nov 11 2026. No macro, syntax, notation, axiom, sorry.
-/
import Derived.Test.YtgbignkkieoffaaChecked
import GoSem.Claim
import GoSem.ClaimJoined
import GoSem.ClaimMapViews
import Derived.JoinedTies
import Derived.KernelRfl
namespace Go.Proofs.Ytgbignkkieoffaa
/- THE CELL 'sum', in the pinned program and in every row, IS THE sha256 OF THE DUMP (.gsa) THAT YtgbignkkieoffaaProg.lean LOADS. Nothing in Lean hashes anything: it is a label: what it is worth is what the hold of that sum in a sandbox is worth. -/
noncomputable def Try.pinned : Pinned := { name := "ytgbignkkieoffaa", sum := "0e3dc05f3e346d01ed2af75636719a50099f21ab1277f409a2ac3ef8ac19633c", checked := Try.checked }
namespace Rows
def none {H : Type} : Left H := { results := [], args := [] }

/-- 'quicksilverlaw03.MarginNeeds': WHATEVER THE INPUT: true; the input reads as it did. -/
def marginNeedsSpec : ChangeSpec := { name := "marginNeeds", fn := fun _ => fun
  | [d1, d2] => { results := [.lit (.bool true)], args := [d1, d2] }
  | _ => none }
def marginNeedsRow : OpenClaim := { program := "ytgbignkkieoffaa", sum := "0e3dc05f3e346d01ed2af75636719a50099f21ab1277f409a2ac3ef8ac19633c", func := "quicksilver/quicksilverlaw03.MarginNeeds", spec := "marginNeeds", unfollowed := true, recurses := true, apart := false }
def MarginNeedsSaid : Prop := marginNeedsRow.holds Try.pinned (OpenSpec.ofChange marginNeedsSpec)

/-- ITS FALSE NEIGHBOUR: 'it returns false'. Refute it at one input. -/
def marginNeedsWrong : ChangeSpec := { name := "marginNeeds", fn := fun _ => fun
  | [d1, d2] => { results := [.lit (.bool false)], args := [d1, d2] }
  | _ => none }
def MarginNeedsWrongFalsely : Prop := marginNeedsRow.holds Try.pinned (OpenSpec.ofChange marginNeedsWrong)

/-- 'quicksilverlaw03.MarginLives': WHATEVER THE INPUT: true; the input reads as it did. -/
def marginLivesSpec : ChangeSpec := { name := "marginLives", fn := fun _ => fun
  | [d1, d2] => { results := [.lit (.bool true)], args := [d1, d2] }
  | _ => none }
def marginLivesRow : OpenClaim := { program := "ytgbignkkieoffaa", sum := "0e3dc05f3e346d01ed2af75636719a50099f21ab1277f409a2ac3ef8ac19633c", func := "quicksilver/quicksilverlaw03.MarginLives", spec := "marginLives", unfollowed := true, recurses := true, apart := false }
def MarginLivesSaid : Prop := marginLivesRow.holds Try.pinned (OpenSpec.ofChange marginLivesSpec)

/-- ITS FALSE NEIGHBOUR: 'it returns false'. Refute it at one input. -/
def marginLivesWrong : ChangeSpec := { name := "marginLives", fn := fun _ => fun
  | [d1, d2] => { results := [.lit (.bool false)], args := [d1, d2] }
  | _ => none }
def MarginLivesWrongFalsely : Prop := marginLivesRow.holds Try.pinned (OpenSpec.ofChange marginLivesWrong)

/-- 'quicksilverlaw03.MarginGroups': WHATEVER THE INPUT: true; the input reads as it did. -/
def marginGroupsSpec : ChangeSpec := { name := "marginGroups", fn := fun _ => fun
  | [d1, d2] => { results := [.lit (.bool true)], args := [d1, d2] }
  | _ => none }
def marginGroupsRow : OpenClaim := { program := "ytgbignkkieoffaa", sum := "0e3dc05f3e346d01ed2af75636719a50099f21ab1277f409a2ac3ef8ac19633c", func := "quicksilver/quicksilverlaw03.MarginGroups", spec := "marginGroups", unfollowed := true, recurses := true, apart := false }
def MarginGroupsSaid : Prop := marginGroupsRow.holds Try.pinned (OpenSpec.ofChange marginGroupsSpec)

/-- ITS FALSE NEIGHBOUR: 'it returns false'. Refute it at one input. -/
def marginGroupsWrong : ChangeSpec := { name := "marginGroups", fn := fun _ => fun
  | [d1, d2] => { results := [.lit (.bool false)], args := [d1, d2] }
  | _ => none }
def MarginGroupsWrongFalsely : Prop := marginGroupsRow.holds Try.pinned (OpenSpec.ofChange marginGroupsWrong)

/-- 'quicksilverlaw03.MarginSuspects': WHATEVER THE INPUT: true; the input reads as it did. -/
def marginSuspectsSpec : ChangeSpec := { name := "marginSuspects", fn := fun _ => fun
  | [d1, d2, d3] => { results := [.lit (.bool true)], args := [d1, d2, d3] }
  | _ => none }
def marginSuspectsRow : OpenClaim := { program := "ytgbignkkieoffaa", sum := "0e3dc05f3e346d01ed2af75636719a50099f21ab1277f409a2ac3ef8ac19633c", func := "quicksilver/quicksilverlaw03.MarginSuspects", spec := "marginSuspects", unfollowed := true, recurses := true, apart := false }
def MarginSuspectsSaid : Prop := marginSuspectsRow.holds Try.pinned (OpenSpec.ofChange marginSuspectsSpec)

/-- ITS FALSE NEIGHBOUR: 'it returns false'. Refute it at one input. -/
def marginSuspectsWrong : ChangeSpec := { name := "marginSuspects", fn := fun _ => fun
  | [d1, d2, d3] => { results := [.lit (.bool false)], args := [d1, d2, d3] }
  | _ => none }
def MarginSuspectsWrongFalsely : Prop := marginSuspectsRow.holds Try.pinned (OpenSpec.ofChange marginSuspectsWrong)

/-- 'quicksilverlaw03.MarginMeasured': WHATEVER THE INPUT: true; the input reads as it did. -/
def marginMeasuredSpec : ChangeSpec := { name := "marginMeasured", fn := fun _ => fun
  | [d1, d2, d3] => { results := [.lit (.bool true)], args := [d1, d2, d3] }
  | _ => none }
def marginMeasuredRow : OpenClaim := { program := "ytgbignkkieoffaa", sum := "0e3dc05f3e346d01ed2af75636719a50099f21ab1277f409a2ac3ef8ac19633c", func := "quicksilver/quicksilverlaw03.MarginMeasured", spec := "marginMeasured", unfollowed := true, recurses := true, apart := false }
def MarginMeasuredSaid : Prop := marginMeasuredRow.holds Try.pinned (OpenSpec.ofChange marginMeasuredSpec)

/-- ITS FALSE NEIGHBOUR: 'it returns false'. Refute it at one input. -/
def marginMeasuredWrong : ChangeSpec := { name := "marginMeasured", fn := fun _ => fun
  | [d1, d2, d3] => { results := [.lit (.bool false)], args := [d1, d2, d3] }
  | _ => none }
def MarginMeasuredWrongFalsely : Prop := marginMeasuredRow.holds Try.pinned (OpenSpec.ofChange marginMeasuredWrong)

/- THE SECOND FORM. 'bulk': how many values and letters a reading holds, each counted each time it is reached (what is shared counts as often as it is met; a slice's spare places count too). A statement '..UptoSaid' is the law's where the arguments, and the package variables that the reading takes, are together of bulk at most 1048576: NARROWER than '..Said'. Prove '..Said' where nothing that the law and all that it calls make is longer than what came in: it says more and counts as full. Else prove '..UptoSaid'. A law counts once. -/
mutual
def uptoBulk {H : Type} : DataW H → Nat
  | .lit (.string bytes) => bytes.length + 1
  | .lit _ => 1
  | .nil => 1
  | .ptr d => uptoBulk d + 1
  | .slice elems spare => uptoBulkAll elems + uptoBulkAll spare + 1
  | .agg parts => uptoBulkAll parts + 1
  | .iface _ d => uptoBulk d + 1
  | .map entries => uptoBulkEntries entries + 1
  | .held _ => 1
def uptoBulkAll {H : Type} : List (DataW H) → Nat
  | [] => 0
  | d :: r => uptoBulk d + uptoBulkAll r
def uptoBulkEntries {H : Type} : List (Lit × DataW H) → Nat
  | [] => 0
  | x :: r => uptoBulkEntry x + uptoBulkEntries r
def uptoBulkEntry {H : Type} : Lit × DataW H → Nat
  | (.string bytes, d) => bytes.length + uptoBulk d + 1
  | (_, d) => uptoBulk d + 1
 end
def uptoSmall : (H : Type) → List (DataW H) → Bool := fun _ ds => decide (uptoBulkAll ds ≤ 1048576)
def OpenSpec.upto (s : _root_.Go.ChangeSpec) : _root_.Go.OpenSpec := { _root_.Go.OpenSpec.ofChange s with cond := some uptoSmall }

/-- 'quicksilverlaw03.MarginNeeds', WHERE WHAT IT READS IS OF BULK AT MOST 1048576: true; the input reads as it did. -/
def marginNeedsUptoRow : OpenClaim := { program := "ytgbignkkieoffaa", sum := "0e3dc05f3e346d01ed2af75636719a50099f21ab1277f409a2ac3ef8ac19633c", func := "quicksilver/quicksilverlaw03.MarginNeeds", spec := "marginNeeds", unfollowed := true, recurses := true, apart := false, narrowed := true }
def MarginNeedsUptoSaid : Prop := marginNeedsUptoRow.holds Try.pinned (OpenSpec.upto marginNeedsSpec)

/-- 'quicksilverlaw03.MarginLives', WHERE WHAT IT READS IS OF BULK AT MOST 1048576: true; the input reads as it did. -/
def marginLivesUptoRow : OpenClaim := { program := "ytgbignkkieoffaa", sum := "0e3dc05f3e346d01ed2af75636719a50099f21ab1277f409a2ac3ef8ac19633c", func := "quicksilver/quicksilverlaw03.MarginLives", spec := "marginLives", unfollowed := true, recurses := true, apart := false, narrowed := true }
def MarginLivesUptoSaid : Prop := marginLivesUptoRow.holds Try.pinned (OpenSpec.upto marginLivesSpec)

/-- 'quicksilverlaw03.MarginGroups', WHERE WHAT IT READS IS OF BULK AT MOST 1048576: true; the input reads as it did. -/
def marginGroupsUptoRow : OpenClaim := { program := "ytgbignkkieoffaa", sum := "0e3dc05f3e346d01ed2af75636719a50099f21ab1277f409a2ac3ef8ac19633c", func := "quicksilver/quicksilverlaw03.MarginGroups", spec := "marginGroups", unfollowed := true, recurses := true, apart := false, narrowed := true }
def MarginGroupsUptoSaid : Prop := marginGroupsUptoRow.holds Try.pinned (OpenSpec.upto marginGroupsSpec)

/-- 'quicksilverlaw03.MarginSuspects', WHERE WHAT IT READS IS OF BULK AT MOST 1048576: true; the input reads as it did. -/
def marginSuspectsUptoRow : OpenClaim := { program := "ytgbignkkieoffaa", sum := "0e3dc05f3e346d01ed2af75636719a50099f21ab1277f409a2ac3ef8ac19633c", func := "quicksilver/quicksilverlaw03.MarginSuspects", spec := "marginSuspects", unfollowed := true, recurses := true, apart := false, narrowed := true }
def MarginSuspectsUptoSaid : Prop := marginSuspectsUptoRow.holds Try.pinned (OpenSpec.upto marginSuspectsSpec)

/-- 'quicksilverlaw03.MarginMeasured', WHERE WHAT IT READS IS OF BULK AT MOST 1048576: true; the input reads as it did. -/
def marginMeasuredUptoRow : OpenClaim := { program := "ytgbignkkieoffaa", sum := "0e3dc05f3e346d01ed2af75636719a50099f21ab1277f409a2ac3ef8ac19633c", func := "quicksilver/quicksilverlaw03.MarginMeasured", spec := "marginMeasured", unfollowed := true, recurses := true, apart := false, narrowed := true }
def MarginMeasuredUptoSaid : Prop := marginMeasuredUptoRow.holds Try.pinned (OpenSpec.upto marginMeasuredSpec)

end Rows
end Go.Proofs.Ytgbignkkieoffaa
