/-
  AN EVALUATOR OF CLOSED CALLS, PART 20: runs up to a place of the first function. It holds for every program; no statement is proved here.
-/
import Derived.Test.YtpjeaajjlkgekaaDoorEv19
noncomputable section
namespace Go.Proofs.Ev
open Go.RowKit
set_option linter.unusedVariables false
set_option linter.unusedSimpArgs false

/-- No call is under way, and what comes next begins with the region r. -/
def stopAt (r : Nat) : St → Bool
  | ⟨⟨_, _, .code c :: _, [], false⟩, [], _⟩ => match firstRegion c with
    | some n => Nat.beq n r
    | none => false
  | _ => false
/-- Up to 2^k steps, till it stops there. -/
def itTo (st : St → R1) (stop : St → Bool) : Nat → St → Option (St × Bool)
  | 0, s => match stop s with
    | true => some (s, true)
    | false => match st s with
      | .next s' => some (s', false)
      | _ => none
  | k + 1, s => match itTo st stop k s with
    | some (s', false) => itTo st stop k s'
    | r => r
def cutT (bs : List Nat) : Option (St × Bool) → Option St
  | some (s, true) => cutS bs s
  | _ => none

section
variable {P : Program}
theorem itTo_ok {st : St → R1} (hst : StepOk P st) {stop : St → Bool} : ∀ (k : Nat) (s s' : St) (b : Bool), itTo st stop k s = some (s', b) → Reach P s s'
  | 0, s, s', b, h => by
    unfold itTo at h
    split at h
    · injection h with h
      obtain ⟨rfl, _⟩ := Prod.mk.inj h
      exact Reach.refl s
    · split at h
      · rename_i s1 he
        injection h with h
        obtain ⟨rfl, _⟩ := Prod.mk.inj h
        intro i w0 cs fr fs w S
        have hr := hst i w0 cs s fr fs w S
        rw [he] at hr
        obtain ⟨j, fr', fs', w', g1, g2, _, _⟩ := hr
        exact ⟨j, fr', fs', w', g1, g2⟩
      · cases h
  | k + 1, s, s', b, h => by
    unfold itTo at h
    split at h
    · rename_i s1 he
      exact (itTo_ok hst k s s1 false he).trans (itTo_ok hst k s1 s' b h)
    · exact itTo_ok hst k s s' b h
theorem cutT_ok {st : St → R1} (hst : StepOk P st) {stop : St → Bool} {k : Nat} {bs : List Nat} {s s' : St} (h : cutT bs (itTo st stop k s) = some s') : Reach P s s' := by
  unfold cutT at h
  split at h
  · rename_i s1 he
    exact (itTo_ok hst k s s1 true he).trans (cutS_ok h)
  · cases h
end
end Go.Proofs.Ev
