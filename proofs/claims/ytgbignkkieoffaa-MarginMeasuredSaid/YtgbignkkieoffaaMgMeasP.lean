/-
  MarginMeasured: for every argument the law answers true. No condition.
-/
import Derived.Test.YtgbignkkieoffaaMgF2
import Derived.Test.YtgbignkkieoffaaMgMeas
namespace Go.Proofs.Ytgbignkkieoffaa
open Go.ChangeShapes Go.WideShapes Go.ChangeAt Go.RowKit
set_option linter.unusedVariables false
set_option linter.unusedSimpArgs false
set_option maxRecDepth 100000 in
theorem marginMeasured_lifted (os : Os) (started : os.Started) (H : Type) (enc : TypeId × Value → H) :
    ReturnsInHanded {} Try.checked os 7 .any (Rows.marginMeasuredSpec.pre6 enc Try.prog Try.f7 Rows.marginMeasuredRow.domain false) (Rows.marginMeasuredSpec.post enc Try.prog Try.f7 false true false false) := by
  refine returnsInHanded_of_change (C := Try.checked) seat_own started (by kernel_rfl) Try.func7
    (ChangeSpec.witness6 (enc := enc) (C := Try.checked) false ⟨#[], #[.agg #[.int .i64 0, .int .i64 0, .int .i64 0, .slice none 0 0], .int .i64 0, .agg #[.slice none 0 0, .slice none 0 0, .int .u16 0, .slice none 0 0]], []⟩ 8 (by kernel_rfl) (by kernel_rfl) (by kernel_rfl) (by kernel_rfl)) ?_
  intro W base args ds gs before hval0 hW hcnd _
  have hval : ∀ (j : Nat) t v, Try.f7.params[j]? = some t → args[j]? = some v → Value.okWide Try.prog W .any base t v := hval0
  have hW' := hW
  obtain ⟨p, q, hA0, hV, rfl, hfz, hnd⟩ := hW
  have hA : DataW.TrodAll enc Try.prog W 0 (fun _ => true) true Try.f7.params.toList args.toList ds p := hA0
  rw [Try.params7] at hA hval
  obtain ⟨v0, vs0, d0, ds0, p0, q0, hargs, rfl, rfl, h0, r0⟩ := trodAll_cons hA
  obtain ⟨v1, vs1, d1, ds1, p1, q1, rfl, rfl, rfl, h1, r1⟩ := trodAll_cons r0
  obtain ⟨v2, vs2, d2, ds2, p2, q2, rfl, rfl, rfl, h2, r2⟩ := trodAll_cons r1
  obtain ⟨rfl, rfl, rfl⟩ := trodAll_nil r2
  obtain rfl : args = #[v0, v1, v2] := by cases args; simp_all
  obtain ⟨rfl, rfl⟩ := trodVars_none hV
  have k0 := h0
  have lt0 : ∀ x ∈ p0, x.block < W.heap.size := by obtain ⟨m, hm⟩ := k0; exact DataW.trod_lt m _ _ _ hm
  have k2 := h2
  have lt2 : ∀ x ∈ p2, x.block < W.heap.size := by obtain ⟨m, hm⟩ := k2; exact DataW.trod_lt m _ _ _ hm
  obtain ⟨kd0, A0, c0, rfl, hk0⟩ := kind_open (hval 0 26 v0 rfl rfl) h0
  obtain ⟨n1, rfl, rfl, rfl, w1⟩ := open_int Try.underlying3 (hval 1 3 v1 rfl rfl) h1
  obtain ⟨u2, t2, F2, B2, nb2, z2, rfl, hf2, l2, s2, f2⟩ := life_open (hval 2 53 v2 rfl rfl) h2
  clear hA0 hval0
  refine (meas_walk W kd0 A0 c0 hk0 n1 w1 u2 t2 F2 B2 nb2 z2 hf2 l2 s2 f2).mono fun e W' ⟨he, bel⟩ => ?_
  subst he
  exact ⟨_, rfl, _, _, _, [], _, [], hW', trodAll_mk1 (shut_bool Try.underlying4 _), (trodAll_cons_mk (Below.trod seat_laidOut (by kernel_rfl) (of_decide_eq_true (by kernel_rfl)) k0 bel lt0) (trodAll_cons_mk (shut_int Try.underlying3 w1) (trodAll_cons_mk (Below.trod seat_laidOut (by kernel_rfl) (of_decide_eq_true (by kernel_rfl)) k2 bel lt2) trodAll_mk0))), rfl, bel.frame _, fun h => by cases h⟩

theorem marginMeasured_fn : Try.pinned.checked.prog.funcNamed Rows.marginMeasuredRow.func = some 7 := by kernel_rfl
theorem marginMeasured_closed : joinedFacts Try.pinned.checked.prog 7 Try.f7 Rows.marginMeasuredSpec Rows.marginMeasuredRow = true := by
  show joinedFacts Try.prog 7 Try.f7 Rows.marginMeasuredSpec Rows.marginMeasuredRow = true
  unfold joinedFacts
  rw [prog_mayEnter, prog_lifts, prog_make]
  kernel_rfl
theorem marginMeasured_inst : Try.f7.isInstance Try.pinned.checked.prog Rows.marginMeasuredRow.origin Rows.marginMeasuredRow.targs := of_decide_eq_true (by kernel_rfl)
theorem marginMeasured_wrap : Try.f7.isWrapper Try.pinned.checked.prog Rows.marginMeasuredRow.wrapper Rows.marginMeasuredRow.mainSum := by unfold Func.isWrapper; first | (rw [if_pos (by decide +kernel)]; kernel_rfl) | (rw [if_neg (by decide +kernel)]; exact ⟨rfl, rfl⟩)

theorem marginMeasured_over : Rows.marginMeasuredRow.holds Try.pinned (OpenSpec.ofChange Rows.marginMeasuredSpec) :=
  OpenClaim.holds_of_wide 7 Try.f7 rfl rfl rfl rfl rfl rfl rfl ⟨rfl, rfl, rfl, rfl, rfl⟩ rfl rfl rfl rfl rfl marginMeasured_fn Try.func7 marginMeasured_closed
    marginMeasured_inst marginMeasured_wrap
    (fun os started H enc _ => marginMeasured_lifted os started H enc)

/-- The statement. -/
theorem marginMeasured_holds : Rows.MarginMeasuredSaid := marginMeasured_over
end Go.Proofs.Ytgbignkkieoffaa
