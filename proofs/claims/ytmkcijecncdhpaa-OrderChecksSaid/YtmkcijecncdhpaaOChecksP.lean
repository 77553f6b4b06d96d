/-
  OrderChecks: for every argument the law answers true. No condition.
-/
import Derived.Test.YtmkcijecncdhpaaOFrame
import Derived.Test.YtmkcijecncdhpaaOChecks
namespace Go.Proofs.Ytmkcijecncdhpaa
open Go.ChangeShapes Go.WideShapes Go.ChangeAt Go.RowKit
set_option linter.unusedVariables false
set_option linter.unusedSimpArgs false
set_option maxRecDepth 100000 in
theorem orderChecks_lifted (os : Os) (started : os.Started) (H : Type) (enc : TypeId × Value → H) :
    ReturnsInHanded {} Try.checked os 10 .any (Rows.orderChecksSpec.pre6 enc Try.prog Try.f10 Rows.orderChecksRow.domain false) (Rows.orderChecksSpec.post enc Try.prog Try.f10 false true false false) := by
  refine returnsInHanded_of_change (C := Try.checked) seat_own started (by kernel_rfl) Try.func10
    (ChangeSpec.witness6 (enc := enc) (C := Try.checked) false ⟨#[], #[.agg #[.slice none 0 0, .slice none 0 0, .int .i64 0, .slice none 0 0, .int .i64 0, .int .i64 0, .int .i64 0, .int .i64 0]], []⟩ 8 (by kernel_rfl) (by kernel_rfl) (by kernel_rfl) (by kernel_rfl)) ?_
  intro W base args ds gs before hval0 hW hcnd _
  have hval : ∀ (j : Nat) t v, Try.f10.params[j]? = some t → args[j]? = some v → Value.okWide Try.prog W .any base t v := hval0
  have hW' := hW
  obtain ⟨p, q, hA0, hV, rfl, hfz, hnd⟩ := hW
  have hA : DataW.TrodAll enc Try.prog W 0 (fun _ => true) true Try.f10.params.toList args.toList ds p := hA0
  rw [Try.params10] at hA hval
  obtain ⟨v0, vs0, d0, ds0, p0, q0, hargs, rfl, rfl, h0, r0⟩ := trodAll_cons hA
  obtain ⟨rfl, rfl, rfl⟩ := trodAll_nil r0
  obtain rfl : args = #[v0] := by cases args; simp_all
  obtain ⟨rfl, rfl⟩ := trodVars_none hV
  have k0 := h0
  have lt0 : ∀ x ∈ p0, x.block < W.heap.size := by obtain ⟨m, hm⟩ := k0; exact DataW.trod_lt m _ _ _ hm
  obtain ⟨A0, A1, A3, n0, n1, n3, z0, z1, z3, a2, a4, a5, a6, a7, rfl, s0, s1, s3, w2, w4, w5, w6, w7⟩ := state_open (hval 0 24 v0 rfl rfl) h0
  clear hA0 hval0
  refine (orderChecks_walk W A0 A1 A3 n0 n1 n3 z0 z1 z3 a2 a4 a5 a6 a7 s0 s1 s3 w2 w4 w5 w6 w7).mono fun e W' ⟨he, bel⟩ => ?_
  subst he
  exact ⟨_, rfl, _, _, _, [], _, [], hW', trodAll_mk1 (shut_bool Try.underlying4 _), (trodAll_cons_mk (Below.trod seat_laidOut (by kernel_rfl) (of_decide_eq_true (by kernel_rfl)) k0 bel lt0) trodAll_mk0), rfl, bel.frame _, fun h => by cases h⟩

theorem orderChecks_fn : Try.pinned.checked.prog.funcNamed Rows.orderChecksRow.func = some 10 := by kernel_rfl
theorem orderChecks_closed : joinedFacts Try.pinned.checked.prog 10 Try.f10 Rows.orderChecksSpec Rows.orderChecksRow = true := by
  show joinedFacts Try.prog 10 Try.f10 Rows.orderChecksSpec Rows.orderChecksRow = true
  unfold joinedFacts
  rw [prog_mayEnter, prog_lifts, prog_make]
  kernel_rfl
theorem orderChecks_inst : Try.f10.isInstance Try.pinned.checked.prog Rows.orderChecksRow.origin Rows.orderChecksRow.targs := of_decide_eq_true (by kernel_rfl)
theorem orderChecks_wrap : Try.f10.isWrapper Try.pinned.checked.prog Rows.orderChecksRow.wrapper Rows.orderChecksRow.mainSum := by unfold Func.isWrapper; first | (rw [if_pos (by decide +kernel)]; kernel_rfl) | (rw [if_neg (by decide +kernel)]; exact ⟨rfl, rfl⟩)

theorem orderChecks_over : Rows.orderChecksRow.holds Try.pinned (OpenSpec.ofChange Rows.orderChecksSpec) :=
  OpenClaim.holds_of_wide 10 Try.f10 rfl rfl rfl rfl rfl rfl rfl ⟨rfl, rfl, rfl, rfl, rfl⟩ rfl rfl rfl rfl rfl orderChecks_fn Try.func10 orderChecks_closed
    orderChecks_inst orderChecks_wrap
    (fun os started H enc _ => orderChecks_lifted os started H enc)

/-- The statement. -/
theorem orderChecks_holds : Rows.OrderChecksSaid := orderChecks_over
end Go.Proofs.Ytmkcijecncdhpaa
