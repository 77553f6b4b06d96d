/-
  LineKnown: for every argument the law answers true. No condition.
-/
import Derived.Test.YtplipfcnjmgicaaFrame
import Derived.Test.YtplipfcnjmgicaaKnown
namespace Go.Proofs.Ytplipfcnjmgicaa
open Go.ChangeShapes Go.WideShapes Go.ChangeAt Go.RowKit
set_option linter.unusedVariables false
set_option linter.unusedSimpArgs false
set_option maxRecDepth 100000 in
theorem known_lifted (os : Os) (started : os.Started) (H : Type) (enc : TypeId × Value → H) :
    ReturnsInHanded {} Try.checked os 10 .any (Rows.lineKnownSpec.pre6 enc Try.prog Try.f10 Rows.lineKnownRow.domain false) (Rows.lineKnownSpec.post enc Try.prog Try.f10 false true false false) := by
  refine returnsInHanded_of_change (C := Try.checked) seat_own started (by kernel_rfl) Try.func10
    (ChangeSpec.witness6 (enc := enc) (C := Try.checked) false ⟨#[], #[], []⟩ 8 (by kernel_rfl) (by kernel_rfl) (by kernel_rfl) (by kernel_rfl)) ?_
  intro W base args ds gs before hval0 hW hcnd _
  have hval : ∀ (j : Nat) t v, Try.f10.params[j]? = some t → args[j]? = some v → Value.okWide Try.prog W .any base t v := hval0
  have hW' := hW
  obtain ⟨p, q, hA0, hV, rfl, hfz, hnd⟩ := hW
  have hA : DataW.TrodAll enc Try.prog W 0 (fun _ => true) true Try.f10.params.toList args.toList ds p := hA0
  rw [Try.params10] at hA hval
  obtain ⟨hargs, rfl, rfl⟩ := trodAll_nil hA
  obtain rfl : args = #[] := by cases args; simp_all
  obtain ⟨rfl, rfl⟩ := trodVars_none hV
  clear hA0 hval0
  refine (Go.Proofs.Ev.known  W).mono fun e W' ⟨he, bel⟩ => ?_
  subst he
  exact ⟨_, rfl, _, _, _, [], _, [], hW', trodAll_mk1 (shut_bool Try.underlying4 _), trodAll_mk0, rfl, bel.frame _, fun h => by cases h⟩

theorem known_fn : Try.pinned.checked.prog.funcNamed Rows.lineKnownRow.func = some 10 := by kernel_rfl
theorem known_closed : joinedFacts Try.pinned.checked.prog 10 Try.f10 Rows.lineKnownSpec Rows.lineKnownRow = true := by
  show joinedFacts Try.prog 10 Try.f10 Rows.lineKnownSpec Rows.lineKnownRow = true
  unfold joinedFacts
  rw [prog_mayEnter, prog_lifts, prog_make]
  kernel_rfl
theorem known_inst : Try.f10.isInstance Try.pinned.checked.prog Rows.lineKnownRow.origin Rows.lineKnownRow.targs := of_decide_eq_true (by kernel_rfl)
theorem known_wrap : Try.f10.isWrapper Try.pinned.checked.prog Rows.lineKnownRow.wrapper Rows.lineKnownRow.mainSum := by unfold Func.isWrapper; first | (rw [if_pos (by decide +kernel)]; kernel_rfl) | (rw [if_neg (by decide +kernel)]; exact ⟨rfl, rfl⟩)

theorem known_over : Rows.lineKnownRow.holds Try.pinned (OpenSpec.ofChange Rows.lineKnownSpec) :=
  OpenClaim.holds_of_wide 10 Try.f10 rfl rfl rfl rfl rfl rfl rfl ⟨rfl, rfl, rfl, rfl, rfl⟩ rfl rfl rfl rfl rfl known_fn Try.func10 known_closed
    known_inst known_wrap
    (fun os started H enc _ => known_lifted os started H enc)

/-- The statement. -/
theorem lineKnown_holds : Rows.LineKnownSaid := known_over
end Go.Proofs.Ytplipfcnjmgicaa
