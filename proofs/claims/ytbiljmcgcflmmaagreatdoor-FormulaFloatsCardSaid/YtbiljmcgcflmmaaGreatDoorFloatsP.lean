/-
  FormulaFloats: for every number and exponent the law answers true. Conditions: the listed package-level variables hold what the program's text lays (the card ties them to it).
-/
import Derived.Test.YtbiljmcgcflmmaaGreatDoorQFrame
import Derived.Test.YtbiljmcgcflmmaaGreatDoorFloatsW
namespace Go.Proofs.YtbiljmcgcflmmaaGreatDoor
open Go.ChangeShapes Go.WideShapes Go.ChangeAt Go.RowKit
set_option linter.unusedVariables false
set_option linter.unusedSimpArgs false
set_option maxRecDepth 100000 in
theorem formulaFloats_lifted (os : Os) (started : os.Started) (H : Type) (enc : TypeId × Value → H) :
    ReturnsInHanded {} Tryz.checked os 5 .any (fun w args => (Rows.formulaFloatsSpec.pre enc Tryz.prog Tryz.f5 [] false w args ∧ laidMetH Tryz.prog Rows.formulaFloatsRow.laid w) ∧ sizedMet enc Tryz.prog Tryz.f5 (OpenSpec.ofChange Rows.formulaFloatsSpec) false w args)
      (Rows.formulaFloatsSpec.post enc Tryz.prog Tryz.f5 false true false false) := by
  refine returnsInHanded_of_change_and (C := Tryz.checked) (X := fun w _ => laidMetH Tryz.prog Rows.formulaFloatsRow.laid w) (fun _ _ _ hh h => h.of_heap hh) seat_own started (by kernel_rfl) Tryz.func5
    (ChangeSpec.witness_shaped (enc := enc) (C := Tryz.checked) (os := os) (X := fun w _ => laidMetH Tryz.prog Rows.formulaFloatsRow.laid w) false (World.doorLaid Tryz.prog 2000 os) #[.int .i64 0, .int .i64 0] 8 rfl (World.shaped_of_RefB (by kernel_rfl) (by kernel_rfl)) (by kernel_rfl) (by kernel_rfl) (by kernel_rfl) (door_met os _)) ?_
  intro W base args ds gs before hval0 hW _ _ hL _
  have hval : ∀ (j : Nat) t v, Tryz.f5.params[j]? = some t → args[j]? = some v → Value.okWide Tryz.prog W .any base t v := hval0
  have hW' := hW
  obtain ⟨p, q, hA0, hV, rfl, hfz, hnd⟩ := hW
  have hA : DataW.TrodAll enc Tryz.prog W 0 (fun _ => true) true Tryz.f5.params.toList args.toList ds p := hA0
  rw [Tryz.params5] at hA hval
  obtain ⟨v0, vs0, d0, ds0, p0, q0, hargs, rfl, rfl, h0, r0⟩ := trodAll_cons hA
  obtain ⟨v1, vs1, d1, ds1, p1, q1, rfl, rfl, rfl, h1, r1⟩ := trodAll_cons r0
  obtain ⟨rfl, rfl, rfl⟩ := trodAll_nil r1
  obtain rfl : args = #[v0, v1] := by cases args; simp_all
  obtain ⟨rfl, rfl⟩ := trodVars_none hV
  obtain ⟨n0, rfl, rfl, rfl, w0⟩ := open_int Tryz.underlying3 (hval 0 3 v0 rfl rfl) h0
  obtain ⟨n1, rfl, rfl, rfl, w1⟩ := open_int Tryz.underlying3 (hval 1 3 v1 rfl rfl) h1
  clear hA0 hval0
  refine (floats_walk n0 n1 W).mono fun e W' ⟨he, bel⟩ => ?_
  subst he
  exact ⟨_, rfl, _, _, _, [], _, [], hW', trodAll_mk1 (shut_bool Tryz.underlying4 _), (trodAll_cons_mk (shut_int Tryz.underlying3 w0) (trodAll_cons_mk (shut_int Tryz.underlying3 w1) trodAll_mk0)), rfl, bel.frame _, fun h => by cases h⟩

theorem formulaFloats_fn : Tryz.pinned.checked.prog.funcNamed Rows.formulaFloatsRow.func = some 5 := by kernel_rfl
theorem formulaFloats_closed : joinedFacts Tryz.pinned.checked.prog 5 Tryz.f5 Rows.formulaFloatsSpec Rows.formulaFloatsRow = true := by
  show joinedFacts Tryz.prog 5 Tryz.f5 Rows.formulaFloatsSpec Rows.formulaFloatsRow = true
  unfold joinedFacts
  rw [prog_mayEnter, prog_lifts, prog_make]
  kernel_rfl
theorem formulaFloats_inst : Tryz.f5.isInstance Tryz.pinned.checked.prog Rows.formulaFloatsRow.origin Rows.formulaFloatsRow.targs := of_decide_eq_true (by kernel_rfl)
theorem formulaFloats_wrap : Tryz.f5.isWrapper Tryz.pinned.checked.prog Rows.formulaFloatsRow.wrapper Rows.formulaFloatsRow.mainSum := by unfold Func.isWrapper; first | (rw [if_pos (by decide +kernel)]; kernel_rfl) | (rw [if_neg (by decide +kernel)]; exact ⟨rfl, rfl⟩)

theorem formulaFloats_over : Rows.formulaFloatsRow.holds Tryz.pinned (OpenSpec.ofChange Rows.formulaFloatsSpec) :=
  OpenClaim.holds_of_wide 5 Tryz.f5 rfl rfl rfl rfl rfl rfl rfl ⟨rfl, rfl, rfl, rfl, rfl⟩ rfl rfl rfl rfl rfl formulaFloats_fn Tryz.func5 formulaFloats_closed
    formulaFloats_inst formulaFloats_wrap
    (fun os started H enc _ => formulaFloats_lifted os started H enc)
theorem formulaFloats_said : Rows.FormulaFloatsSaid := formulaFloats_over

end Go.Proofs.YtbiljmcgcflmmaaGreatDoor
