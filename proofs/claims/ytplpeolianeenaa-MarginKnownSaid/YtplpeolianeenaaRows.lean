/-
  No cell of these rows narrows 'for every input' (looked for: loops, veiled, ifaces, maps, wideKeys, modest, calm, conditions, laid).
  DERIVED. THE GIVEN ROWS OF THIS SEAT. 3 by the template 'for every input the law returns true; each argument reads behind the call as it read before'; 0 by the template 'total and deterministic' (their statements: YtplpeolianeenaaTotals.lean).
  GIVEN WITH THE SEED: the statements are not yours to turn. If you find one false, say at which input.
  Laid BY PROGRAM, IN A SANDBOX (cutbox-rows.mjs): the forced cells as the released guide's own fill.sh prints them over the translation 29c65b55daa94f5f… (all of the seat's roots in one cut). By AI agents, Wed Nov 11 2026. No macro, syntax, notation, axiom, sorry.
-/
import Derived.Test.YtplpeolianeenaaChecked
import GoSem.Claim
import GoSem.ClaimJoined
import GoSem.ClaimMapViews
import Derived.JoinedTies
import Derived.KernelRfl
namespace Go.Proofs.Ytplpeolianeenaa
/- THE CELL 'sum', in the pinned program and in every row, IS THE sha256 OF THE DUMP (.gsa) THAT YtplpeolianeenaaProg.lean LOADS. Nothing in Lean hashes anything: it is a label: what it is worth is what the hold of that sum in a sandbox is worth. -/
noncomputable def Try.pinned : Pinned := { name := "ytplpeolianeenaa", sum := "29c65b55daa94f5f86dfa16612c8a3b42c7b377873686a1f25bbaf9303d59e8f", checked := Try.checked }
namespace Rows
def none {H : Type} : Left H := { results := [], args := [] }

/-- 'quicksilverlaw03.MarginKnown': WHATEVER THE INPUT: true; the input reads as it did. -/
def marginKnownSpec : ChangeSpec := { name := "marginKnown", fn := fun _ => fun
  | [] => { results := [.lit (.bool true)], args := [] }
  | _ => none }
def marginKnownRow : OpenClaim := { program := "ytplpeolianeenaa", sum := "29c65b55daa94f5f86dfa16612c8a3b42c7b377873686a1f25bbaf9303d59e8f", func := "quicksilver/quicksilverlaw03.MarginKnown", spec := "marginKnown", unfollowed := true, recurses := true, apart := false }
def MarginKnownSaid : Prop := marginKnownRow.holds Try.pinned (OpenSpec.ofChange marginKnownSpec)

/-- ITS FALSE NEIGHBOUR: 'it returns false'. Refute it at one input. -/
def marginKnownWrong : ChangeSpec := { name := "marginKnown", fn := fun _ => fun
  | [] => { results := [.lit (.bool false)], args := [] }
  | _ => none }
def MarginKnownWrongFalsely : Prop := marginKnownRow.holds Try.pinned (OpenSpec.ofChange marginKnownWrong)

/-- 'quicksilverlaw03.MarginNeeds': WHATEVER THE INPUT: true; the input reads as it did. -/
def marginNeedsSpec : ChangeSpec := { name := "marginNeeds", fn := fun _ => fun
  | [d1, d2] => { results := [.lit (.bool true)], args := [d1, d2] }
  | _ => none }
def marginNeedsRow : OpenClaim := { program := "ytplpeolianeenaa", sum := "29c65b55daa94f5f86dfa16612c8a3b42c7b377873686a1f25bbaf9303d59e8f", func := "quicksilver/quicksilverlaw03.MarginNeeds", spec := "marginNeeds", unfollowed := true, recurses := true, apart := false }
def MarginNeedsSaid : Prop := marginNeedsRow.holds Try.pinned (OpenSpec.ofChange marginNeedsSpec)

/-- ITS FALSE NEIGHBOUR: 'it returns false'. Refute it at one input. -/
def marginNeedsWrong : ChangeSpec := { name := "marginNeeds", fn := fun _ => fun
  | [d1, d2] => { results := [.lit (.bool false)], args := [d1, d2] }
  | _ => none }
def MarginNeedsWrongFalsely : Prop := marginNeedsRow.holds Try.pinned (OpenSpec.ofChange marginNeedsWrong)

/-- 'quicksilverlaw03.MarginLives': WHATEVER THE INPUT: true; the input reads as it did. -/
def marginLivesSpec : ChangeSpec := { name := "marginLives", fn := fun _ => fun
  | [d1, d2] => { results := [.lit (.bool true)], args := [d1, d2] }
  | _ => none }
def marginLivesRow : OpenClaim := { program := "ytplpeolianeenaa", sum := "29c65b55daa94f5f86dfa16612c8a3b42c7b377873686a1f25bbaf9303d59e8f", func := "quicksilver/quicksilverlaw03.MarginLives", spec := "marginLives", unfollowed := true, recurses := true, apart := false }
def MarginLivesSaid : Prop := marginLivesRow.holds Try.pinned (OpenSpec.ofChange marginLivesSpec)

/-- ITS FALSE NEIGHBOUR: 'it returns false'. Refute it at one input. -/
def marginLivesWrong : ChangeSpec := { name := "marginLives", fn := fun _ => fun
  | [d1, d2] => { results := [.lit (.bool false)], args := [d1, d2] }
  | _ => none }
def MarginLivesWrongFalsely : Prop := marginLivesRow.holds Try.pinned (OpenSpec.ofChange marginLivesWrong)

/- THE SECOND FORM. 'bulk': how many values and letters a reading holds, each counted each time it is reached (what is shared counts as often as it is met; a slice's spare places count too). A statement '..UptoSaid' is the law's where the arguments, and the package variables that the reading takes, are together of bulk at most 1048576: NARROWER than '..Said'. Prove '..Said' where nothing that the law and all that it calls make is longer than what came in: it says more and counts as full. Else prove '..UptoSaid'. A law counts once. -/
mutual
def uptoBulk {H : Type} : DataW H → Nat
  | .lit (.string bytes) => bytes.length + 1
  | .lit _ => 1
  | .nil => 1
  | .ptr d => uptoBulk d + 1
  | .slice elems spare => uptoBulkAll elems + uptoBulkAll spare + 1
  | .agg parts => uptoBulkAll parts + 1
  | .iface _ d => uptoBulk d + 1
  | .map entries => uptoBulkEntries entries + 1
  | .held _ => 1
def uptoBulkAll {H : Type} : List (DataW H) → Nat
  | [] => 0
  | d :: r => uptoBulk d + uptoBulkAll r
def uptoBulkEntries {H : Type} : List (Lit × DataW H) → Nat
  | [] => 0
  | x :: r => uptoBulkEntry x + uptoBulkEntries r
def uptoBulkEntry {H : Type} : Lit × DataW H → Nat
  | (.string bytes, d) => bytes.length + uptoBulk d + 1
  | (_, d) => uptoBulk d + 1
 end
def uptoSmall : (H : Type) → List (DataW H) → Bool := fun _ ds => decide (uptoBulkAll ds ≤ 1048576)
def OpenSpec.upto (s : _root_.Go.ChangeSpec) : _root_.Go.OpenSpec := { _root_.Go.OpenSpec.ofChange s with cond := some uptoSmall }

/-- 'quicksilverlaw03.MarginKnown', WHERE WHAT IT READS IS OF BULK AT MOST 1048576: true; the input reads as it did. -/
def marginKnownUptoRow : OpenClaim := { program := "ytplpeolianeenaa", sum := "29c65b55daa94f5f86dfa16612c8a3b42c7b377873686a1f25bbaf9303d59e8f", func := "quicksilver/quicksilverlaw03.MarginKnown", spec := "marginKnown", unfollowed := true, recurses := true, apart := false, narrowed := true }
def MarginKnownUptoSaid : Prop := marginKnownUptoRow.holds Try.pinned (OpenSpec.upto marginKnownSpec)

/-- 'quicksilverlaw03.MarginNeeds', WHERE WHAT IT READS IS OF BULK AT MOST 1048576: true; the input reads as it did. -/
def marginNeedsUptoRow : OpenClaim := { program := "ytplpeolianeenaa", sum := "29c65b55daa94f5f86dfa16612c8a3b42c7b377873686a1f25bbaf9303d59e8f", func := "quicksilver/quicksilverlaw03.MarginNeeds", spec := "marginNeeds", unfollowed := true, recurses := true, apart := false, narrowed := true }
def MarginNeedsUptoSaid : Prop := marginNeedsUptoRow.holds Try.pinned (OpenSpec.upto marginNeedsSpec)

/-- 'quicksilverlaw03.MarginLives', WHERE WHAT IT READS IS OF BULK AT MOST 1048576: true; the input reads as it did. -/
def marginLivesUptoRow : OpenClaim := { program := "ytplpeolianeenaa", sum := "29c65b55daa94f5f86dfa16612c8a3b42c7b377873686a1f25bbaf9303d59e8f", func := "quicksilver/quicksilverlaw03.MarginLives", spec := "marginLives", unfollowed := true, recurses := true, apart := false, narrowed := true }
def MarginLivesUptoSaid : Prop := marginLivesUptoRow.holds Try.pinned (OpenSpec.upto marginLivesSpec)

end Rows
end Go.Proofs.Ytplpeolianeenaa
