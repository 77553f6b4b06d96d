/-
  MarginNeeds: for every argument the law answers true. No condition.
-/
import Derived.Test.YtgbignkkieoffaaMgF
import Derived.Test.YtgbignkkieoffaaMgNeeds
namespace Go.Proofs.Ytgbignkkieoffaa
open Go.ChangeShapes Go.WideShapes Go.ChangeAt Go.RowKit
set_option linter.unusedVariables false
set_option linter.unusedSimpArgs false
set_option maxRecDepth 100000 in
theorem marginNeeds_lifted (os : Os) (started : os.Started) (H : Type) (enc : TypeId × Value → H) :
    ReturnsInHanded {} Try.checked os 3 .any (Rows.marginNeedsSpec.pre6 enc Try.prog Try.f3 Rows.marginNeedsRow.domain false) (Rows.marginNeedsSpec.post enc Try.prog Try.f3 false true false false) := by
  refine returnsInHanded_of_change (C := Try.checked) seat_own started (by kernel_rfl) Try.func3
    (ChangeSpec.witness6 (enc := enc) (C := Try.checked) false ⟨#[], #[.agg #[.int .i64 0, .int .i64 0, .int .i64 0, .slice none 0 0], .int .i64 0], []⟩ 8 (by kernel_rfl) (by kernel_rfl) (by kernel_rfl) (by kernel_rfl)) ?_
  intro W base args ds gs before hval0 hW hcnd _
  have hval : ∀ (j : Nat) t v, Try.f3.params[j]? = some t → args[j]? = some v → Value.okWide Try.prog W .any base t v := hval0
  have hW' := hW
  obtain ⟨p, q, hA0, hV, rfl, hfz, hnd⟩ := hW
  have hA : DataW.TrodAll enc Try.prog W 0 (fun _ => true) true Try.f3.params.toList args.toList ds p := hA0
  rw [Try.params3] at hA hval
  obtain ⟨v0, vs0, d0, ds0, p0, q0, hargs, rfl, rfl, h0, r0⟩ := trodAll_cons hA
  obtain ⟨v1, vs1, d1, ds1, p1, q1, rfl, rfl, rfl, h1, r1⟩ := trodAll_cons r0
  obtain ⟨rfl, rfl, rfl⟩ := trodAll_nil r1
  obtain rfl : args = #[v0, v1] := by cases args; simp_all
  obtain ⟨rfl, rfl⟩ := trodVars_none hV
  have k0 := h0
  have lt0 : ∀ x ∈ p0, x.block < W.heap.size := by obtain ⟨m, hm⟩ := k0; exact DataW.trod_lt m _ _ _ hm
  obtain ⟨kd0, A0, c0, rfl, hk0⟩ := kind_open (hval 0 26 v0 rfl rfl) h0
  obtain ⟨n1, rfl, rfl, rfl, w1⟩ := open_int Try.underlying3 (hval 1 3 v1 rfl rfl) h1
  clear hA0 hval0
  refine (needs_walk W kd0 A0 c0 hk0 n1 w1).mono fun e W' ⟨he, bel⟩ => ?_
  subst he
  exact ⟨_, rfl, _, _, _, [], _, [], hW', trodAll_mk1 (shut_bool Try.underlying4 _), (trodAll_cons_mk (Below.trod seat_laidOut (by kernel_rfl) (of_decide_eq_true (by kernel_rfl)) k0 bel lt0) (trodAll_cons_mk (shut_int Try.underlying3 w1) trodAll_mk0)), rfl, bel.frame _, fun h => by cases h⟩

theorem marginNeeds_fn : Try.pinned.checked.prog.funcNamed Rows.marginNeedsRow.func = some 3 := by kernel_rfl
theorem marginNeeds_closed : joinedFacts Try.pinned.checked.prog 3 Try.f3 Rows.marginNeedsSpec Rows.marginNeedsRow = true := by
  show joinedFacts Try.prog 3 Try.f3 Rows.marginNeedsSpec Rows.marginNeedsRow = true
  unfold joinedFacts
  rw [prog_mayEnter, prog_lifts, prog_make]
  kernel_rfl
theorem marginNeeds_inst : Try.f3.isInstance Try.pinned.checked.prog Rows.marginNeedsRow.origin Rows.marginNeedsRow.targs := of_decide_eq_true (by kernel_rfl)
theorem marginNeeds_wrap : Try.f3.isWrapper Try.pinned.checked.prog Rows.marginNeedsRow.wrapper Rows.marginNeedsRow.mainSum := by unfold Func.isWrapper; first | (rw [if_pos (by decide +kernel)]; kernel_rfl) | (rw [if_neg (by decide +kernel)]; exact ⟨rfl, rfl⟩)

theorem marginNeeds_over : Rows.marginNeedsRow.holds Try.pinned (OpenSpec.ofChange Rows.marginNeedsSpec) :=
  OpenClaim.holds_of_wide 3 Try.f3 rfl rfl rfl rfl rfl rfl rfl ⟨rfl, rfl, rfl, rfl, rfl⟩ rfl rfl rfl rfl rfl marginNeeds_fn Try.func3 marginNeeds_closed
    marginNeeds_inst marginNeeds_wrap
    (fun os started H enc _ => marginNeeds_lifted os started H enc)

/-- The statement. -/
theorem marginNeeds_holds : Rows.MarginNeedsSaid := marginNeeds_over
end Go.Proofs.Ytgbignkkieoffaa
