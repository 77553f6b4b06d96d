/-
  MarginKnown: for every argument the law answers true. No condition.
-/
import Derived.Test.YtplpeolianeenaaM3Frame
import Derived.Test.YtplpeolianeenaaM3Known
namespace Go.Proofs.Ytplpeolianeenaa
open Go.ChangeShapes Go.WideShapes Go.ChangeAt Go.RowKit
set_option linter.unusedVariables false
set_option linter.unusedSimpArgs false
set_option maxRecDepth 100000 in
theorem marginKnown_lifted (os : Os) (started : os.Started) (H : Type) (enc : TypeId × Value → H) :
    ReturnsInHanded {} Try.checked os 3 .any (Rows.marginKnownSpec.pre6 enc Try.prog Try.f3 Rows.marginKnownRow.domain false) (Rows.marginKnownSpec.post enc Try.prog Try.f3 false true false false) := by
  refine returnsInHanded_of_change (C := Try.checked) seat_own started (by kernel_rfl) Try.func3
    (ChangeSpec.witness6 (enc := enc) (C := Try.checked) false ⟨#[], #[], []⟩ 8 (by kernel_rfl) (by kernel_rfl) (by kernel_rfl) (by kernel_rfl)) ?_
  intro W base args ds gs before hval0 hW hcnd _
  have hval : ∀ (j : Nat) t v, Try.f3.params[j]? = some t → args[j]? = some v → Value.okWide Try.prog W .any base t v := hval0
  have hW' := hW
  obtain ⟨p, q, hA0, hV, rfl, hfz, hnd⟩ := hW
  have hA : DataW.TrodAll enc Try.prog W 0 (fun _ => true) true Try.f3.params.toList args.toList ds p := hA0
  rw [Try.params3] at hA hval
  obtain ⟨hargs, rfl, rfl⟩ := trodAll_nil hA
  obtain rfl : args = #[] := by cases args; simp_all
  obtain ⟨rfl, rfl⟩ := trodVars_none hV
  clear hA0 hval0
  refine (Ev.known  W).mono fun e W' ⟨he, bel⟩ => ?_
  subst he
  exact ⟨_, rfl, _, _, _, [], _, [], hW', trodAll_mk1 (shut_bool Try.underlying4 _), trodAll_mk0, rfl, bel.frame _, fun h => by cases h⟩

theorem marginKnown_fn : Try.pinned.checked.prog.funcNamed Rows.marginKnownRow.func = some 3 := by kernel_rfl
theorem marginKnown_closed : joinedFacts Try.pinned.checked.prog 3 Try.f3 Rows.marginKnownSpec Rows.marginKnownRow = true := by
  show joinedFacts Try.prog 3 Try.f3 Rows.marginKnownSpec Rows.marginKnownRow = true
  unfold joinedFacts
  rw [prog_mayEnter, prog_lifts, prog_make]
  kernel_rfl
theorem marginKnown_inst : Try.f3.isInstance Try.pinned.checked.prog Rows.marginKnownRow.origin Rows.marginKnownRow.targs := of_decide_eq_true (by kernel_rfl)
theorem marginKnown_wrap : Try.f3.isWrapper Try.pinned.checked.prog Rows.marginKnownRow.wrapper Rows.marginKnownRow.mainSum := by unfold Func.isWrapper; first | (rw [if_pos (by decide +kernel)]; kernel_rfl) | (rw [if_neg (by decide +kernel)]; exact ⟨rfl, rfl⟩)

theorem marginKnown_over : Rows.marginKnownRow.holds Try.pinned (OpenSpec.ofChange Rows.marginKnownSpec) :=
  OpenClaim.holds_of_wide 3 Try.f3 rfl rfl rfl rfl rfl rfl rfl ⟨rfl, rfl, rfl, rfl, rfl⟩ rfl rfl rfl rfl rfl marginKnown_fn Try.func3 marginKnown_closed
    marginKnown_inst marginKnown_wrap
    (fun os started H enc _ => marginKnown_lifted os started H enc)

/-- The statement. -/
theorem marginKnown_holds : Rows.MarginKnownSaid := marginKnown_over
end Go.Proofs.Ytplpeolianeenaa
