/-
  AN EVALUATOR OF CLOSED CALLS, PART 23: calls that stand in a table, also of a function value. It holds for every program; no statement is proved here.
-/
import Derived.Test.YtpjeaajjlkgekaaDoorEv22
noncomputable section
namespace Go.Proofs.Ev
open Go.RowKit
set_option linter.unusedVariables false
set_option linter.unusedSimpArgs false

/-- Of the function of a call, whatever names it: is it in the table? -/
def callsD (has : Nat → Bool) (tmps : Tr Value) (o : Oper) : Bool := match o.op with
  | .call c => match c.callee with
    | .value f => match evT tmps f with
      | .func (.func k) _ _ => has k
      | _ => false
    | _ => false
  | _ => false
def hitD (P : Program) (has : Nat → Bool) (vs : List GVar) (tab : TabT) : St → Option R1
  | ⟨⟨st, tmps, .inRegion ops (j :: rest) :: k, defers, false⟩, cs, h⟩ => match ops.toList[j]? with
    | some o => match callsD has tmps o with
      | true => hitOp P vs tab st tmps (.inRegion ops (j :: rest) :: k) defers cs h ops o
      | false => none
    | none => none
  | _ => none
def tabbedD (P : Program) (has : Nat → Bool) (vs : List GVar) (tab : TabT) (st : St → R1) (s : St) : R1 := orElse1 (hitD P has vs tab s) (st s)

section
variable {P : Program} {w0 : World}
theorem tabbedD_ok (hN : Named P) {has : Nat → Bool} {vs : List GVar} {tab : TabT} (hT : TabOk P vs tab) {st : St → R1} (hst : StepOk P st) : StepOk P (tabbedD P has vs tab st) := by
  intro i w0 cs s fr fs w S
  unfold tabbedD
  cases hh : hitD P has vs tab s with
  | none => exact hst i w0 cs s fr fs w S
  | some r =>
    show RRel P i w0 cs s.h (lone fr fs w) r
    unfold hitD at hh
    split at hh
    · rename_i st' tmps ops j rest k defers acs h
      split at hh
      · rename_i o ho
        split at hh
        · unfold hitOp at hh
          split at hh
          · rename_i hw hnd
            split at hh
            · rename_i f args h' hop
              unfold hitCall at hh
              split at hh
              · rename_i v hfl0 htab
                rw [Bool.and_eq_true] at hfl0
                obtain ⟨hfl, hgs⟩ := hfl0
                injection hh with hh
                subst hh
                have hs1 : step1 P drawNo ⟨⟨st', tmps, .inRegion ops (j :: rest) :: k, defers, false⟩, acs, h⟩ = .next ⟨AF.enter P f args, ⟨st', tmps, .inRegion ops (j :: rest) :: k, defers, false⟩ :: acs, h'⟩ := by
                  simp only [step1, itemStep, regStep, ho, operStep, hw, hnd, hop, operGo]
                have hr := step1_rel hN drawNo_ok S
                rw [hs1] at hr
                obtain ⟨i', fr', fs', w', g1, g2, g3, g4⟩ := hr
                have A : ARel i' h'.n args args := ARel.refl_of args fun v hv => VRel.of_flat _ _ _ (List.all_eq_true.1 hfl v (by simpa using hv))
                have hfr : fr' = Frame.enter P f args .normal := FRel.unique g2.f (FRel.enter A f)
                subst hfr
                obtain ⟨hv, hc⟩ := hT f args.toList v htab
                have hc' := hc w' (holds_of g2.sat hgs)
                simp only [Array.toArray_toList] at hc'
                obtain ⟨e, w2, fr2, ⟨he, hb⟩, f1, f2, f3⟩ := hc' fs'
                subst he
                refine RRel.from g1 g3 g4 ?_
                exact back_rel (fr := fr2) (g2.c.mono (Ren.le.refl _ _) (Nat.le_refl _)) (VRel.of_flat _ _ _ hv) (g2.sat.later hb) (Ren.le.refl _ _) (Keep.refl _)
                  (fun c fs'' hf => by subst hf; exact f1.trans (.one (step_leave_returned f3)))
                  (fun hnil => by cases hnil)
              · cases hh
            · cases hh
          · cases hh
        · cases hh
      · cases hh
    · cases hh

end
end Go.Proofs.Ev
