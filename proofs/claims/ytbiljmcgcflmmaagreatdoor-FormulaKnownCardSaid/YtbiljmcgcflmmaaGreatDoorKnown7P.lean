/-
  FormulaKnown: for every argument the law answers true. Conditions: the listed package-level variables hold what the program's text lays (the card ties them to it).
-/
import Derived.Test.YtbiljmcgcflmmaaGreatDoorQFrame
import Derived.Test.YtbiljmcgcflmmaaGreatDoorQKnown
namespace Go.Proofs.YtbiljmcgcflmmaaGreatDoor
open Go.ChangeShapes Go.WideShapes Go.ChangeAt Go.RowKit
set_option linter.unusedVariables false
set_option linter.unusedSimpArgs false
set_option maxRecDepth 100000 in
theorem formulaKnown_lifted (os : Os) (started : os.Started) (H : Type) (enc : TypeId × Value → H) :
    ReturnsInHanded {} Tryz.checked os 3 .any (fun w args => (Rows.formulaKnownSpec.pre enc Tryz.prog Tryz.f3 [] false w args ∧ laidMetH Tryz.prog Rows.formulaKnownRow.laid w) ∧ sizedMet enc Tryz.prog Tryz.f3 (OpenSpec.ofChange Rows.formulaKnownSpec) false w args)
      (Rows.formulaKnownSpec.post enc Tryz.prog Tryz.f3 false true false false) := by
  refine returnsInHanded_of_change_and (C := Tryz.checked) (X := fun w _ => laidMetH Tryz.prog Rows.formulaKnownRow.laid w) (fun _ _ _ hh h => h.of_heap hh) seat_own started (by kernel_rfl) Tryz.func3
    (ChangeSpec.witness_shaped (enc := enc) (C := Tryz.checked) (os := os) (X := fun w _ => laidMetH Tryz.prog Rows.formulaKnownRow.laid w) false (World.doorLaid Tryz.prog 2000 os) #[] 8 rfl (World.shaped_of_RefB (by kernel_rfl) (by kernel_rfl)) (by kernel_rfl) (by kernel_rfl) (by kernel_rfl) (door_met os _)) ?_
  intro W base args ds gs before hval0 hW _ _ hL _
  have hval : ∀ (j : Nat) t v, Tryz.f3.params[j]? = some t → args[j]? = some v → Value.okWide Tryz.prog W .any base t v := hval0
  have hW' := hW
  obtain ⟨p, q, hA0, hV, rfl, hfz, hnd⟩ := hW
  have hA : DataW.TrodAll enc Tryz.prog W 0 (fun _ => true) true Tryz.f3.params.toList args.toList ds p := hA0
  rw [Tryz.params3] at hA hval
  obtain ⟨hargs, rfl, rfl⟩ := trodAll_nil hA
  obtain rfl : args = #[] := by cases args; simp_all
  obtain ⟨rfl, rfl⟩ := trodVars_none hV
  clear hA0 hval0
  refine (Ev.known  W).mono fun e W' ⟨he, bel⟩ => ?_
  subst he
  exact ⟨_, rfl, _, _, _, [], _, [], hW', trodAll_mk1 (shut_bool Tryz.underlying4 _), trodAll_mk0, rfl, bel.frame _, fun h => by cases h⟩

theorem formulaKnown_fn : Tryz.pinned.checked.prog.funcNamed Rows.formulaKnownRow.func = some 3 := by kernel_rfl
theorem formulaKnown_closed : joinedFacts Tryz.pinned.checked.prog 3 Tryz.f3 Rows.formulaKnownSpec Rows.formulaKnownRow = true := by
  show joinedFacts Tryz.prog 3 Tryz.f3 Rows.formulaKnownSpec Rows.formulaKnownRow = true
  unfold joinedFacts
  rw [prog_mayEnter, prog_lifts, prog_make]
  kernel_rfl
theorem formulaKnown_inst : Tryz.f3.isInstance Tryz.pinned.checked.prog Rows.formulaKnownRow.origin Rows.formulaKnownRow.targs := of_decide_eq_true (by kernel_rfl)
theorem formulaKnown_wrap : Tryz.f3.isWrapper Tryz.pinned.checked.prog Rows.formulaKnownRow.wrapper Rows.formulaKnownRow.mainSum := by unfold Func.isWrapper; first | (rw [if_pos (by decide +kernel)]; kernel_rfl) | (rw [if_neg (by decide +kernel)]; exact ⟨rfl, rfl⟩)

theorem formulaKnown_over : Rows.formulaKnownRow.holds Tryz.pinned (OpenSpec.ofChange Rows.formulaKnownSpec) :=
  OpenClaim.holds_of_wide 3 Tryz.f3 rfl rfl rfl rfl rfl rfl rfl ⟨rfl, rfl, rfl, rfl, rfl⟩ rfl rfl rfl rfl rfl formulaKnown_fn Tryz.func3 formulaKnown_closed
    formulaKnown_inst formulaKnown_wrap
    (fun os started H enc _ => formulaKnown_lifted os started H enc)
theorem formulaKnown_said : Rows.FormulaKnownSaid := formulaKnown_over
end Go.Proofs.YtbiljmcgcflmmaaGreatDoor
