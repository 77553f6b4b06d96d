/-
  MarginLives: for every argument the law answers true. No condition.
-/
import Derived.Test.YtgbignkkieoffaaMgF
import Derived.Test.YtgbignkkieoffaaMgLives
namespace Go.Proofs.Ytgbignkkieoffaa
open Go.ChangeShapes Go.WideShapes Go.ChangeAt Go.RowKit
set_option linter.unusedVariables false
set_option linter.unusedSimpArgs false
set_option maxRecDepth 100000 in
theorem marginLives_lifted (os : Os) (started : os.Started) (H : Type) (enc : TypeId × Value → H) :
    ReturnsInHanded {} Try.checked os 4 .any (Rows.marginLivesSpec.pre6 enc Try.prog Try.f4 Rows.marginLivesRow.domain false) (Rows.marginLivesSpec.post enc Try.prog Try.f4 false true false false) := by
  refine returnsInHanded_of_change (C := Try.checked) seat_own started (by kernel_rfl) Try.func4
    (ChangeSpec.witness6 (enc := enc) (C := Try.checked) false ⟨#[], #[.agg #[.int .i64 0, .int .i64 0, .int .i64 0, .slice none 0 0], .int .i64 0], []⟩ 8 (by kernel_rfl) (by kernel_rfl) (by kernel_rfl) (by kernel_rfl)) ?_
  intro W base args ds gs before hval0 hW hcnd _
  have hval : ∀ (j : Nat) t v, Try.f4.params[j]? = some t → args[j]? = some v → Value.okWide Try.prog W .any base t v := hval0
  have hW' := hW
  obtain ⟨p, q, hA0, hV, rfl, hfz, hnd⟩ := hW
  have hA : DataW.TrodAll enc Try.prog W 0 (fun _ => true) true Try.f4.params.toList args.toList ds p := hA0
  rw [Try.params4] at hA hval
  obtain ⟨v0, vs0, d0, ds0, p0, q0, hargs, rfl, rfl, h0, r0⟩ := trodAll_cons hA
  obtain ⟨v1, vs1, d1, ds1, p1, q1, rfl, rfl, rfl, h1, r1⟩ := trodAll_cons r0
  obtain ⟨rfl, rfl, rfl⟩ := trodAll_nil r1
  obtain rfl : args = #[v0, v1] := by cases args; simp_all
  obtain ⟨rfl, rfl⟩ := trodVars_none hV
  have k0 := h0
  have lt0 : ∀ x ∈ p0, x.block < W.heap.size := by obtain ⟨m, hm⟩ := k0; exact DataW.trod_lt m _ _ _ hm
  obtain ⟨kd0, A0, c0, rfl, hk0⟩ := kind_open (hval 0 26 v0 rfl rfl) h0
  obtain ⟨n1, rfl, rfl, rfl, w1⟩ := open_int Try.underlying3 (hval 1 3 v1 rfl rfl) h1
  clear hA0 hval0
  refine (lives_walk W kd0 A0 c0 hk0 n1 w1).mono fun e W' ⟨he, bel⟩ => ?_
  subst he
  exact ⟨_, rfl, _, _, _, [], _, [], hW', trodAll_mk1 (shut_bool Try.underlying4 _), (trodAll_cons_mk (Below.trod seat_laidOut (by kernel_rfl) (of_decide_eq_true (by kernel_rfl)) k0 bel lt0) (trodAll_cons_mk (shut_int Try.underlying3 w1) trodAll_mk0)), rfl, bel.frame _, fun h => by cases h⟩

theorem marginLives_fn : Try.pinned.checked.prog.funcNamed Rows.marginLivesRow.func = some 4 := by kernel_rfl
theorem marginLives_closed : joinedFacts Try.pinned.checked.prog 4 Try.f4 Rows.marginLivesSpec Rows.marginLivesRow = true := by
  show joinedFacts Try.prog 4 Try.f4 Rows.marginLivesSpec Rows.marginLivesRow = true
  unfold joinedFacts
  rw [prog_mayEnter, prog_lifts, prog_make]
  kernel_rfl
theorem marginLives_inst : Try.f4.isInstance Try.pinned.checked.prog Rows.marginLivesRow.origin Rows.marginLivesRow.targs := of_decide_eq_true (by kernel_rfl)
theorem marginLives_wrap : Try.f4.isWrapper Try.pinned.checked.prog Rows.marginLivesRow.wrapper Rows.marginLivesRow.mainSum := by unfold Func.isWrapper; first | (rw [if_pos (by decide +kernel)]; kernel_rfl) | (rw [if_neg (by decide +kernel)]; exact ⟨rfl, rfl⟩)

theorem marginLives_over : Rows.marginLivesRow.holds Try.pinned (OpenSpec.ofChange Rows.marginLivesSpec) :=
  OpenClaim.holds_of_wide 4 Try.f4 rfl rfl rfl rfl rfl rfl rfl ⟨rfl, rfl, rfl, rfl, rfl⟩ rfl rfl rfl rfl rfl marginLives_fn Try.func4 marginLives_closed
    marginLives_inst marginLives_wrap
    (fun os started H enc _ => marginLives_lifted os started H enc)

/-- The statement. -/
theorem marginLives_holds : Rows.MarginLivesSaid := marginLives_over
end Go.Proofs.Ytgbignkkieoffaa
