/-
  No cell of these rows narrows 'for every input' (looked for: loops, veiled, ifaces, maps, wideKeys, modest, calm, conditions, laid).
  DERIVED. THE GIVEN ROWS OF THIS SEAT. 14 by the template 'for every input the law returns true; each argument reads behind the call as it read before'; 0 by the template 'total and deterministic' (their statements: YtmkcijecncdhpaaTotals.lean).
  GIVEN WITH THE SEED: the statements are not yours to turn. If you find one false, say at which input.
  Laid BY PROGRAM, IN A SANDBOX (cutbox-rows.mjs): the forced cells as the released guide's own fill.sh prints them over the translation 39327ba9994f2d6a… (all of the seat's roots in one cut). By AI agents, Wed Nov 11 2026. No macro, syntax, notation, axiom, sorry.
-/
import Derived.Test.YtmkcijecncdhpaaChecked
import GoSem.Claim
import GoSem.ClaimJoined
import GoSem.ClaimMapViews
import Derived.JoinedTies
import Derived.KernelRfl
namespace Go.Proofs.Ytmkcijecncdhpaa
/- THE CELL 'sum', in the pinned program and in every row, IS THE sha256 OF THE DUMP (.gsa) THAT YtmkcijecncdhpaaProg.lean LOADS. Nothing in Lean hashes anything: it is a label: what it is worth is what the hold of that sum in a sandbox is worth. -/
noncomputable def Try.pinned : Pinned := { name := "ytmkcijecncdhpaa", sum := "39327ba9994f2d6a28348af1802a80c24375ca2e5161bcedefbc2476a5b2456c", checked := Try.checked }
namespace Rows
def none {H : Type} : Left H := { results := [], args := [] }

/-- 'quicksilverlaw04.OrderKnown': WHATEVER THE INPUT: true; the input reads as it did. -/
def orderKnownSpec : ChangeSpec := { name := "orderKnown", fn := fun _ => fun
  | [] => { results := [.lit (.bool true)], args := [] }
  | _ => none }
def orderKnownRow : OpenClaim := { program := "ytmkcijecncdhpaa", sum := "39327ba9994f2d6a28348af1802a80c24375ca2e5161bcedefbc2476a5b2456c", func := "quicksilver/quicksilverlaw04.OrderKnown", spec := "orderKnown", unfollowed := true, recurses := true, apart := false }
def OrderKnownSaid : Prop := orderKnownRow.holds Try.pinned (OpenSpec.ofChange orderKnownSpec)

/-- ITS FALSE NEIGHBOUR: 'it returns false'. Refute it at one input. -/
def orderKnownWrong : ChangeSpec := { name := "orderKnown", fn := fun _ => fun
  | [] => { results := [.lit (.bool false)], args := [] }
  | _ => none }
def OrderKnownWrongFalsely : Prop := orderKnownRow.holds Try.pinned (OpenSpec.ofChange orderKnownWrong)

/-- 'quicksilverlaw04.OrderWords': WHATEVER THE INPUT: true; the input reads as it did. -/
def orderWordsSpec : ChangeSpec := { name := "orderWords", fn := fun _ => fun
  | [d1, d2] => { results := [.lit (.bool true)], args := [d1, d2] }
  | _ => none }
def orderWordsRow : OpenClaim := { program := "ytmkcijecncdhpaa", sum := "39327ba9994f2d6a28348af1802a80c24375ca2e5161bcedefbc2476a5b2456c", func := "quicksilver/quicksilverlaw04.OrderWords", spec := "orderWords", unfollowed := true, recurses := true, apart := false }
def OrderWordsSaid : Prop := orderWordsRow.holds Try.pinned (OpenSpec.ofChange orderWordsSpec)

/-- ITS FALSE NEIGHBOUR: 'it returns false'. Refute it at one input. -/
def orderWordsWrong : ChangeSpec := { name := "orderWords", fn := fun _ => fun
  | [d1, d2] => { results := [.lit (.bool false)], args := [d1, d2] }
  | _ => none }
def OrderWordsWrongFalsely : Prop := orderWordsRow.holds Try.pinned (OpenSpec.ofChange orderWordsWrong)

/-- 'quicksilverlaw04.OrderTimes': WHATEVER THE INPUT: true; the input reads as it did. -/
def orderTimesSpec : ChangeSpec := { name := "orderTimes", fn := fun _ => fun
  | [d1, d2, d3] => { results := [.lit (.bool true)], args := [d1, d2, d3] }
  | _ => none }
def orderTimesRow : OpenClaim := { program := "ytmkcijecncdhpaa", sum := "39327ba9994f2d6a28348af1802a80c24375ca2e5161bcedefbc2476a5b2456c", func := "quicksilver/quicksilverlaw04.OrderTimes", spec := "orderTimes", unfollowed := true, recurses := true, apart := false }
def OrderTimesSaid : Prop := orderTimesRow.holds Try.pinned (OpenSpec.ofChange orderTimesSpec)

/-- ITS FALSE NEIGHBOUR: 'it returns false'. Refute it at one input. -/
def orderTimesWrong : ChangeSpec := { name := "orderTimes", fn := fun _ => fun
  | [d1, d2, d3] => { results := [.lit (.bool false)], args := [d1, d2, d3] }
  | _ => none }
def OrderTimesWrongFalsely : Prop := orderTimesRow.holds Try.pinned (OpenSpec.ofChange orderTimesWrong)

/-- 'quicksilverlaw04.OrderPacked': WHATEVER THE INPUT: true; the input reads as it did. -/
def orderPackedSpec : ChangeSpec := { name := "orderPacked", fn := fun _ => fun
  | [d1, d2] => { results := [.lit (.bool true)], args := [d1, d2] }
  | _ => none }
def orderPackedRow : OpenClaim := { program := "ytmkcijecncdhpaa", sum := "39327ba9994f2d6a28348af1802a80c24375ca2e5161bcedefbc2476a5b2456c", func := "quicksilver/quicksilverlaw04.OrderPacked", spec := "orderPacked", unfollowed := true, recurses := true, apart := false }
def OrderPackedSaid : Prop := orderPackedRow.holds Try.pinned (OpenSpec.ofChange orderPackedSpec)

/-- ITS FALSE NEIGHBOUR: 'it returns false'. Refute it at one input. -/
def orderPackedWrong : ChangeSpec := { name := "orderPacked", fn := fun _ => fun
  | [d1, d2] => { results := [.lit (.bool false)], args := [d1, d2] }
  | _ => none }
def OrderPackedWrongFalsely : Prop := orderPackedRow.holds Try.pinned (OpenSpec.ofChange orderPackedWrong)

/-- 'quicksilverlaw04.OrderUndone': WHATEVER THE INPUT: true; the input reads as it did. -/
def orderUndoneSpec : ChangeSpec := { name := "orderUndone", fn := fun _ => fun
  | [d1, d2] => { results := [.lit (.bool true)], args := [d1, d2] }
  | _ => none }
def orderUndoneRow : OpenClaim := { program := "ytmkcijecncdhpaa", sum := "39327ba9994f2d6a28348af1802a80c24375ca2e5161bcedefbc2476a5b2456c", func := "quicksilver/quicksilverlaw04.OrderUndone", spec := "orderUndone", unfollowed := true, recurses := true, apart := false }
def OrderUndoneSaid : Prop := orderUndoneRow.holds Try.pinned (OpenSpec.ofChange orderUndoneSpec)

/-- ITS FALSE NEIGHBOUR: 'it returns false'. Refute it at one input. -/
def orderUndoneWrong : ChangeSpec := { name := "orderUndone", fn := fun _ => fun
  | [d1, d2] => { results := [.lit (.bool false)], args := [d1, d2] }
  | _ => none }
def OrderUndoneWrongFalsely : Prop := orderUndoneRow.holds Try.pinned (OpenSpec.ofChange orderUndoneWrong)

/-- 'quicksilverlaw04.OrderProduct': WHATEVER THE INPUT: true; the input reads as it did. -/
def orderProductSpec : ChangeSpec := { name := "orderProduct", fn := fun _ => fun
  | [d1, d2] => { results := [.lit (.bool true)], args := [d1, d2] }
  | _ => none }
def orderProductRow : OpenClaim := { program := "ytmkcijecncdhpaa", sum := "39327ba9994f2d6a28348af1802a80c24375ca2e5161bcedefbc2476a5b2456c", func := "quicksilver/quicksilverlaw04.OrderProduct", spec := "orderProduct", unfollowed := true, recurses := true, apart := false }
def OrderProductSaid : Prop := orderProductRow.holds Try.pinned (OpenSpec.ofChange orderProductSpec)

/-- ITS FALSE NEIGHBOUR: 'it returns false'. Refute it at one input. -/
def orderProductWrong : ChangeSpec := { name := "orderProduct", fn := fun _ => fun
  | [d1, d2] => { results := [.lit (.bool false)], args := [d1, d2] }
  | _ => none }
def OrderProductWrongFalsely : Prop := orderProductRow.holds Try.pinned (OpenSpec.ofChange orderProductWrong)

/-- 'quicksilverlaw04.OrderNext': WHATEVER THE INPUT: true; the input reads as it did. -/
def orderNextSpec : ChangeSpec := { name := "orderNext", fn := fun _ => fun
  | [d1, d2, d3] => { results := [.lit (.bool true)], args := [d1, d2, d3] }
  | _ => none }
def orderNextRow : OpenClaim := { program := "ytmkcijecncdhpaa", sum := "39327ba9994f2d6a28348af1802a80c24375ca2e5161bcedefbc2476a5b2456c", func := "quicksilver/quicksilverlaw04.OrderNext", spec := "orderNext", unfollowed := true, recurses := true, apart := false }
def OrderNextSaid : Prop := orderNextRow.holds Try.pinned (OpenSpec.ofChange orderNextSpec)

/-- ITS FALSE NEIGHBOUR: 'it returns false'. Refute it at one input. -/
def orderNextWrong : ChangeSpec := { name := "orderNext", fn := fun _ => fun
  | [d1, d2, d3] => { results := [.lit (.bool false)], args := [d1, d2, d3] }
  | _ => none }
def OrderNextWrongFalsely : Prop := orderNextRow.holds Try.pinned (OpenSpec.ofChange orderNextWrong)

/-- 'quicksilverlaw04.OrderChecks': WHATEVER THE INPUT: true; the input reads as it did. -/
def orderChecksSpec : ChangeSpec := { name := "orderChecks", fn := fun _ => fun
  | [d] => { results := [.lit (.bool true)], args := [d] }
  | _ => none }
def orderChecksRow : OpenClaim := { program := "ytmkcijecncdhpaa", sum := "39327ba9994f2d6a28348af1802a80c24375ca2e5161bcedefbc2476a5b2456c", func := "quicksilver/quicksilverlaw04.OrderChecks", spec := "orderChecks", unfollowed := true, recurses := true, apart := false }
def OrderChecksSaid : Prop := orderChecksRow.holds Try.pinned (OpenSpec.ofChange orderChecksSpec)

/-- ITS FALSE NEIGHBOUR: 'it returns false'. Refute it at one input. -/
def orderChecksWrong : ChangeSpec := { name := "orderChecks", fn := fun _ => fun
  | [d] => { results := [.lit (.bool false)], args := [d] }
  | _ => none }
def OrderChecksWrongFalsely : Prop := orderChecksRow.holds Try.pinned (OpenSpec.ofChange orderChecksWrong)

/-- 'quicksilverlaw04.OrderBegins': WHATEVER THE INPUT: true; the input reads as it did. -/
def orderBeginsSpec : ChangeSpec := { name := "orderBegins", fn := fun _ => fun
  | [d1, d2, d3] => { results := [.lit (.bool true)], args := [d1, d2, d3] }
  | _ => none }
def orderBeginsRow : OpenClaim := { program := "ytmkcijecncdhpaa", sum := "39327ba9994f2d6a28348af1802a80c24375ca2e5161bcedefbc2476a5b2456c", func := "quicksilver/quicksilverlaw04.OrderBegins", spec := "orderBegins", unfollowed := true, recurses := true, apart := false }
def OrderBeginsSaid : Prop := orderBeginsRow.holds Try.pinned (OpenSpec.ofChange orderBeginsSpec)

/-- ITS FALSE NEIGHBOUR: 'it returns false'. Refute it at one input. -/
def orderBeginsWrong : ChangeSpec := { name := "orderBegins", fn := fun _ => fun
  | [d1, d2, d3] => { results := [.lit (.bool false)], args := [d1, d2, d3] }
  | _ => none }
def OrderBeginsWrongFalsely : Prop := orderBeginsRow.holds Try.pinned (OpenSpec.ofChange orderBeginsWrong)

/-- 'quicksilverlaw04.OrderRuns': WHATEVER THE INPUT: true; the input reads as it did. -/
def orderRunsSpec : ChangeSpec := { name := "orderRuns", fn := fun _ => fun
  | [d1, d2] => { results := [.lit (.bool true)], args := [d1, d2] }
  | _ => none }
def orderRunsRow : OpenClaim := { program := "ytmkcijecncdhpaa", sum := "39327ba9994f2d6a28348af1802a80c24375ca2e5161bcedefbc2476a5b2456c", func := "quicksilver/quicksilverlaw04.OrderRuns", spec := "orderRuns", unfollowed := true, recurses := true, apart := false }
def OrderRunsSaid : Prop := orderRunsRow.holds Try.pinned (OpenSpec.ofChange orderRunsSpec)

/-- ITS FALSE NEIGHBOUR: 'it returns false'. Refute it at one input. -/
def orderRunsWrong : ChangeSpec := { name := "orderRuns", fn := fun _ => fun
  | [d1, d2] => { results := [.lit (.bool false)], args := [d1, d2] }
  | _ => none }
def OrderRunsWrongFalsely : Prop := orderRunsRow.holds Try.pinned (OpenSpec.ofChange orderRunsWrong)

/-- 'quicksilverlaw04.OrderStore': WHATEVER THE INPUT: true; the input reads as it did. -/
def orderStoreSpec : ChangeSpec := { name := "orderStore", fn := fun _ => fun
  | [d] => { results := [.lit (.bool true)], args := [d] }
  | _ => none }
def orderStoreRow : OpenClaim := { program := "ytmkcijecncdhpaa", sum := "39327ba9994f2d6a28348af1802a80c24375ca2e5161bcedefbc2476a5b2456c", func := "quicksilver/quicksilverlaw04.OrderStore", spec := "orderStore", unfollowed := true, recurses := true, apart := false }
def OrderStoreSaid : Prop := orderStoreRow.holds Try.pinned (OpenSpec.ofChange orderStoreSpec)

/-- ITS FALSE NEIGHBOUR: 'it returns false'. Refute it at one input. -/
def orderStoreWrong : ChangeSpec := { name := "orderStore", fn := fun _ => fun
  | [d] => { results := [.lit (.bool false)], args := [d] }
  | _ => none }
def OrderStoreWrongFalsely : Prop := orderStoreRow.holds Try.pinned (OpenSpec.ofChange orderStoreWrong)

/-- 'quicksilverlaw04.OrderEnded': WHATEVER THE INPUT: true; the input reads as it did. -/
def orderEndedSpec : ChangeSpec := { name := "orderEnded", fn := fun _ => fun
  | [d1, d2] => { results := [.lit (.bool true)], args := [d1, d2] }
  | _ => none }
def orderEndedRow : OpenClaim := { program := "ytmkcijecncdhpaa", sum := "39327ba9994f2d6a28348af1802a80c24375ca2e5161bcedefbc2476a5b2456c", func := "quicksilver/quicksilverlaw04.OrderEnded", spec := "orderEnded", unfollowed := true, recurses := true, apart := false }
def OrderEndedSaid : Prop := orderEndedRow.holds Try.pinned (OpenSpec.ofChange orderEndedSpec)

/-- ITS FALSE NEIGHBOUR: 'it returns false'. Refute it at one input. -/
def orderEndedWrong : ChangeSpec := { name := "orderEnded", fn := fun _ => fun
  | [d1, d2] => { results := [.lit (.bool false)], args := [d1, d2] }
  | _ => none }
def OrderEndedWrongFalsely : Prop := orderEndedRow.holds Try.pinned (OpenSpec.ofChange orderEndedWrong)

/-- 'quicksilverlaw04.OrderCut': WHATEVER THE INPUT: true; the input reads as it did. -/
def orderCutSpec : ChangeSpec := { name := "orderCut", fn := fun _ => fun
  | [d1, d2] => { results := [.lit (.bool true)], args := [d1, d2] }
  | _ => none }
def orderCutRow : OpenClaim := { program := "ytmkcijecncdhpaa", sum := "39327ba9994f2d6a28348af1802a80c24375ca2e5161bcedefbc2476a5b2456c", func := "quicksilver/quicksilverlaw04.OrderCut", spec := "orderCut", unfollowed := true, recurses := true, apart := false }
def OrderCutSaid : Prop := orderCutRow.holds Try.pinned (OpenSpec.ofChange orderCutSpec)

/-- ITS FALSE NEIGHBOUR: 'it returns false'. Refute it at one input. -/
def orderCutWrong : ChangeSpec := { name := "orderCut", fn := fun _ => fun
  | [d1, d2] => { results := [.lit (.bool false)], args := [d1, d2] }
  | _ => none }
def OrderCutWrongFalsely : Prop := orderCutRow.holds Try.pinned (OpenSpec.ofChange orderCutWrong)

/-- 'quicksilverlaw04.OrderLater': WHATEVER THE INPUT: true; the input reads as it did. -/
def orderLaterSpec : ChangeSpec := { name := "orderLater", fn := fun _ => fun
  | [d1, d2] => { results := [.lit (.bool true)], args := [d1, d2] }
  | _ => none }
def orderLaterRow : OpenClaim := { program := "ytmkcijecncdhpaa", sum := "39327ba9994f2d6a28348af1802a80c24375ca2e5161bcedefbc2476a5b2456c", func := "quicksilver/quicksilverlaw04.OrderLater", spec := "orderLater", unfollowed := true, recurses := true, apart := false }
def OrderLaterSaid : Prop := orderLaterRow.holds Try.pinned (OpenSpec.ofChange orderLaterSpec)

/-- ITS FALSE NEIGHBOUR: 'it returns false'. Refute it at one input. -/
def orderLaterWrong : ChangeSpec := { name := "orderLater", fn := fun _ => fun
  | [d1, d2] => { results := [.lit (.bool false)], args := [d1, d2] }
  | _ => none }
def OrderLaterWrongFalsely : Prop := orderLaterRow.holds Try.pinned (OpenSpec.ofChange orderLaterWrong)

/- THE SECOND FORM. 'bulk': how many values and letters a reading holds, each counted each time it is reached (what is shared counts as often as it is met; a slice's spare places count too). A statement '..UptoSaid' is the law's where the arguments, and the package variables that the reading takes, are together of bulk at most 1048576: NARROWER than '..Said'. Prove '..Said' where nothing that the law and all that it calls make is longer than what came in: it says more and counts as full. Else prove '..UptoSaid'. A law counts once. -/
mutual
def uptoBulk {H : Type} : DataW H → Nat
  | .lit (.string bytes) => bytes.length + 1
  | .lit _ => 1
  | .nil => 1
  | .ptr d => uptoBulk d + 1
  | .slice elems spare => uptoBulkAll elems + uptoBulkAll spare + 1
  | .agg parts => uptoBulkAll parts + 1
  | .iface _ d => uptoBulk d + 1
  | .map entries => uptoBulkEntries entries + 1
  | .held _ => 1
def uptoBulkAll {H : Type} : List (DataW H) → Nat
  | [] => 0
  | d :: r => uptoBulk d + uptoBulkAll r
def uptoBulkEntries {H : Type} : List (Lit × DataW H) → Nat
  | [] => 0
  | x :: r => uptoBulkEntry x + uptoBulkEntries r
def uptoBulkEntry {H : Type} : Lit × DataW H → Nat
  | (.string bytes, d) => bytes.length + uptoBulk d + 1
  | (_, d) => uptoBulk d + 1
 end
def uptoSmall : (H : Type) → List (DataW H) → Bool := fun _ ds => decide (uptoBulkAll ds ≤ 1048576)
def OpenSpec.upto (s : _root_.Go.ChangeSpec) : _root_.Go.OpenSpec := { _root_.Go.OpenSpec.ofChange s with cond := some uptoSmall }

/-- 'quicksilverlaw04.OrderKnown', WHERE WHAT IT READS IS OF BULK AT MOST 1048576: true; the input reads as it did. -/
def orderKnownUptoRow : OpenClaim := { program := "ytmkcijecncdhpaa", sum := "39327ba9994f2d6a28348af1802a80c24375ca2e5161bcedefbc2476a5b2456c", func := "quicksilver/quicksilverlaw04.OrderKnown", spec := "orderKnown", unfollowed := true, recurses := true, apart := false, narrowed := true }
def OrderKnownUptoSaid : Prop := orderKnownUptoRow.holds Try.pinned (OpenSpec.upto orderKnownSpec)

/-- 'quicksilverlaw04.OrderWords', WHERE WHAT IT READS IS OF BULK AT MOST 1048576: true; the input reads as it did. -/
def orderWordsUptoRow : OpenClaim := { program := "ytmkcijecncdhpaa", sum := "39327ba9994f2d6a28348af1802a80c24375ca2e5161bcedefbc2476a5b2456c", func := "quicksilver/quicksilverlaw04.OrderWords", spec := "orderWords", unfollowed := true, recurses := true, apart := false, narrowed := true }
def OrderWordsUptoSaid : Prop := orderWordsUptoRow.holds Try.pinned (OpenSpec.upto orderWordsSpec)

/-- 'quicksilverlaw04.OrderTimes', WHERE WHAT IT READS IS OF BULK AT MOST 1048576: true; the input reads as it did. -/
def orderTimesUptoRow : OpenClaim := { program := "ytmkcijecncdhpaa", sum := "39327ba9994f2d6a28348af1802a80c24375ca2e5161bcedefbc2476a5b2456c", func := "quicksilver/quicksilverlaw04.OrderTimes", spec := "orderTimes", unfollowed := true, recurses := true, apart := false, narrowed := true }
def OrderTimesUptoSaid : Prop := orderTimesUptoRow.holds Try.pinned (OpenSpec.upto orderTimesSpec)

/-- 'quicksilverlaw04.OrderPacked', WHERE WHAT IT READS IS OF BULK AT MOST 1048576: true; the input reads as it did. -/
def orderPackedUptoRow : OpenClaim := { program := "ytmkcijecncdhpaa", sum := "39327ba9994f2d6a28348af1802a80c24375ca2e5161bcedefbc2476a5b2456c", func := "quicksilver/quicksilverlaw04.OrderPacked", spec := "orderPacked", unfollowed := true, recurses := true, apart := false, narrowed := true }
def OrderPackedUptoSaid : Prop := orderPackedUptoRow.holds Try.pinned (OpenSpec.upto orderPackedSpec)

/-- 'quicksilverlaw04.OrderUndone', WHERE WHAT IT READS IS OF BULK AT MOST 1048576: true; the input reads as it did. -/
def orderUndoneUptoRow : OpenClaim := { program := "ytmkcijecncdhpaa", sum := "39327ba9994f2d6a28348af1802a80c24375ca2e5161bcedefbc2476a5b2456c", func := "quicksilver/quicksilverlaw04.OrderUndone", spec := "orderUndone", unfollowed := true, recurses := true, apart := false, narrowed := true }
def OrderUndoneUptoSaid : Prop := orderUndoneUptoRow.holds Try.pinned (OpenSpec.upto orderUndoneSpec)

/-- 'quicksilverlaw04.OrderProduct', WHERE WHAT IT READS IS OF BULK AT MOST 1048576: true; the input reads as it did. -/
def orderProductUptoRow : OpenClaim := { program := "ytmkcijecncdhpaa", sum := "39327ba9994f2d6a28348af1802a80c24375ca2e5161bcedefbc2476a5b2456c", func := "quicksilver/quicksilverlaw04.OrderProduct", spec := "orderProduct", unfollowed := true, recurses := true, apart := false, narrowed := true }
def OrderProductUptoSaid : Prop := orderProductUptoRow.holds Try.pinned (OpenSpec.upto orderProductSpec)

/-- 'quicksilverlaw04.OrderNext', WHERE WHAT IT READS IS OF BULK AT MOST 1048576: true; the input reads as it did. -/
def orderNextUptoRow : OpenClaim := { program := "ytmkcijecncdhpaa", sum := "39327ba9994f2d6a28348af1802a80c24375ca2e5161bcedefbc2476a5b2456c", func := "quicksilver/quicksilverlaw04.OrderNext", spec := "orderNext", unfollowed := true, recurses := true, apart := false, narrowed := true }
def OrderNextUptoSaid : Prop := orderNextUptoRow.holds Try.pinned (OpenSpec.upto orderNextSpec)

/-- 'quicksilverlaw04.OrderChecks', WHERE WHAT IT READS IS OF BULK AT MOST 1048576: true; the input reads as it did. -/
def orderChecksUptoRow : OpenClaim := { program := "ytmkcijecncdhpaa", sum := "39327ba9994f2d6a28348af1802a80c24375ca2e5161bcedefbc2476a5b2456c", func := "quicksilver/quicksilverlaw04.OrderChecks", spec := "orderChecks", unfollowed := true, recurses := true, apart := false, narrowed := true }
def OrderChecksUptoSaid : Prop := orderChecksUptoRow.holds Try.pinned (OpenSpec.upto orderChecksSpec)

/-- 'quicksilverlaw04.OrderBegins', WHERE WHAT IT READS IS OF BULK AT MOST 1048576: true; the input reads as it did. -/
def orderBeginsUptoRow : OpenClaim := { program := "ytmkcijecncdhpaa", sum := "39327ba9994f2d6a28348af1802a80c24375ca2e5161bcedefbc2476a5b2456c", func := "quicksilver/quicksilverlaw04.OrderBegins", spec := "orderBegins", unfollowed := true, recurses := true, apart := false, narrowed := true }
def OrderBeginsUptoSaid : Prop := orderBeginsUptoRow.holds Try.pinned (OpenSpec.upto orderBeginsSpec)

/-- 'quicksilverlaw04.OrderRuns', WHERE WHAT IT READS IS OF BULK AT MOST 1048576: true; the input reads as it did. -/
def orderRunsUptoRow : OpenClaim := { program := "ytmkcijecncdhpaa", sum := "39327ba9994f2d6a28348af1802a80c24375ca2e5161bcedefbc2476a5b2456c", func := "quicksilver/quicksilverlaw04.OrderRuns", spec := "orderRuns", unfollowed := true, recurses := true, apart := false, narrowed := true }
def OrderRunsUptoSaid : Prop := orderRunsUptoRow.holds Try.pinned (OpenSpec.upto orderRunsSpec)

/-- 'quicksilverlaw04.OrderStore', WHERE WHAT IT READS IS OF BULK AT MOST 1048576: true; the input reads as it did. -/
def orderStoreUptoRow : OpenClaim := { program := "ytmkcijecncdhpaa", sum := "39327ba9994f2d6a28348af1802a80c24375ca2e5161bcedefbc2476a5b2456c", func := "quicksilver/quicksilverlaw04.OrderStore", spec := "orderStore", unfollowed := true, recurses := true, apart := false, narrowed := true }
def OrderStoreUptoSaid : Prop := orderStoreUptoRow.holds Try.pinned (OpenSpec.upto orderStoreSpec)

/-- 'quicksilverlaw04.OrderEnded', WHERE WHAT IT READS IS OF BULK AT MOST 1048576: true; the input reads as it did. -/
def orderEndedUptoRow : OpenClaim := { program := "ytmkcijecncdhpaa", sum := "39327ba9994f2d6a28348af1802a80c24375ca2e5161bcedefbc2476a5b2456c", func := "quicksilver/quicksilverlaw04.OrderEnded", spec := "orderEnded", unfollowed := true, recurses := true, apart := false, narrowed := true }
def OrderEndedUptoSaid : Prop := orderEndedUptoRow.holds Try.pinned (OpenSpec.upto orderEndedSpec)

/-- 'quicksilverlaw04.OrderCut', WHERE WHAT IT READS IS OF BULK AT MOST 1048576: true; the input reads as it did. -/
def orderCutUptoRow : OpenClaim := { program := "ytmkcijecncdhpaa", sum := "39327ba9994f2d6a28348af1802a80c24375ca2e5161bcedefbc2476a5b2456c", func := "quicksilver/quicksilverlaw04.OrderCut", spec := "orderCut", unfollowed := true, recurses := true, apart := false, narrowed := true }
def OrderCutUptoSaid : Prop := orderCutUptoRow.holds Try.pinned (OpenSpec.upto orderCutSpec)

/-- 'quicksilverlaw04.OrderLater', WHERE WHAT IT READS IS OF BULK AT MOST 1048576: true; the input reads as it did. -/
def orderLaterUptoRow : OpenClaim := { program := "ytmkcijecncdhpaa", sum := "39327ba9994f2d6a28348af1802a80c24375ca2e5161bcedefbc2476a5b2456c", func := "quicksilver/quicksilverlaw04.OrderLater", spec := "orderLater", unfollowed := true, recurses := true, apart := false, narrowed := true }
def OrderLaterUptoSaid : Prop := orderLaterUptoRow.holds Try.pinned (OpenSpec.upto orderLaterSpec)

end Rows
end Go.Proofs.Ytmkcijecncdhpaa
