/-
  OrderProduct: for every argument the law answers true. No condition.
-/
import Derived.Test.YtmkcijecncdhpaaOFrame
import Derived.Test.YtmkcijecncdhpaaOProduct
namespace Go.Proofs.Ytmkcijecncdhpaa
open Go.ChangeShapes Go.WideShapes Go.ChangeAt Go.RowKit
set_option linter.unusedVariables false
set_option linter.unusedSimpArgs false
set_option maxRecDepth 100000 in
theorem orderProduct_lifted (os : Os) (started : os.Started) (H : Type) (enc : TypeId × Value → H) :
    ReturnsInHanded {} Try.checked os 8 .any (Rows.orderProductSpec.pre6 enc Try.prog Try.f8 Rows.orderProductRow.domain false) (Rows.orderProductSpec.post enc Try.prog Try.f8 false true false false) := by
  refine returnsInHanded_of_change (C := Try.checked) seat_own started (by kernel_rfl) Try.func8
    (ChangeSpec.witness6 (enc := enc) (C := Try.checked) false ⟨#[], #[.int .i64 0, .int .i64 0], []⟩ 8 (by kernel_rfl) (by kernel_rfl) (by kernel_rfl) (by kernel_rfl)) ?_
  intro W base args ds gs before hval0 hW hcnd _
  have hval : ∀ (j : Nat) t v, Try.f8.params[j]? = some t → args[j]? = some v → Value.okWide Try.prog W .any base t v := hval0
  have hW' := hW
  obtain ⟨p, q, hA0, hV, rfl, hfz, hnd⟩ := hW
  have hA : DataW.TrodAll enc Try.prog W 0 (fun _ => true) true Try.f8.params.toList args.toList ds p := hA0
  rw [Try.params8] at hA hval
  obtain ⟨v0, vs0, d0, ds0, p0, q0, hargs, rfl, rfl, h0, r0⟩ := trodAll_cons hA
  obtain ⟨v1, vs1, d1, ds1, p1, q1, rfl, rfl, rfl, h1, r1⟩ := trodAll_cons r0
  obtain ⟨rfl, rfl, rfl⟩ := trodAll_nil r1
  obtain rfl : args = #[v0, v1] := by cases args; simp_all
  obtain ⟨rfl, rfl⟩ := trodVars_none hV
  obtain ⟨n0, rfl, rfl, rfl, w0⟩ := open_int Try.underlying3 (hval 0 3 v0 rfl rfl) h0
  obtain ⟨n1, rfl, rfl, rfl, w1⟩ := open_int Try.underlying3 (hval 1 3 v1 rfl rfl) h1
  clear hA0 hval0
  refine (orderProduct_walk n0 w0 n1 w1 W).mono fun e W' ⟨he, bel⟩ => ?_
  subst he
  exact ⟨_, rfl, _, _, _, [], _, [], hW', trodAll_mk1 (shut_bool Try.underlying4 _), (trodAll_cons_mk (shut_int Try.underlying3 w0) (trodAll_cons_mk (shut_int Try.underlying3 w1) trodAll_mk0)), rfl, bel.frame _, fun h => by cases h⟩

theorem orderProduct_fn : Try.pinned.checked.prog.funcNamed Rows.orderProductRow.func = some 8 := by kernel_rfl
theorem orderProduct_closed : joinedFacts Try.pinned.checked.prog 8 Try.f8 Rows.orderProductSpec Rows.orderProductRow = true := by
  show joinedFacts Try.prog 8 Try.f8 Rows.orderProductSpec Rows.orderProductRow = true
  unfold joinedFacts
  rw [prog_mayEnter, prog_lifts, prog_make]
  kernel_rfl
theorem orderProduct_inst : Try.f8.isInstance Try.pinned.checked.prog Rows.orderProductRow.origin Rows.orderProductRow.targs := of_decide_eq_true (by kernel_rfl)
theorem orderProduct_wrap : Try.f8.isWrapper Try.pinned.checked.prog Rows.orderProductRow.wrapper Rows.orderProductRow.mainSum := by unfold Func.isWrapper; first | (rw [if_pos (by decide +kernel)]; kernel_rfl) | (rw [if_neg (by decide +kernel)]; exact ⟨rfl, rfl⟩)

theorem orderProduct_over : Rows.orderProductRow.holds Try.pinned (OpenSpec.ofChange Rows.orderProductSpec) :=
  OpenClaim.holds_of_wide 8 Try.f8 rfl rfl rfl rfl rfl rfl rfl ⟨rfl, rfl, rfl, rfl, rfl⟩ rfl rfl rfl rfl rfl orderProduct_fn Try.func8 orderProduct_closed
    orderProduct_inst orderProduct_wrap
    (fun os started H enc _ => orderProduct_lifted os started H enc)

/-- The statement. -/
theorem orderProduct_holds : Rows.OrderProductSaid := orderProduct_over
end Go.Proofs.Ytmkcijecncdhpaa
