/-
  OrderEnded: for every argument the law answers true. No condition.
-/
import Derived.Test.YtmkcijecncdhpaaOFrame
import Derived.Test.YtmkcijecncdhpaaOFrame2
import Derived.Test.YtmkcijecncdhpaaOEnded
namespace Go.Proofs.Ytmkcijecncdhpaa
open Go.ChangeShapes Go.WideShapes Go.ChangeAt Go.RowKit
set_option linter.unusedVariables false
set_option linter.unusedSimpArgs false
set_option maxRecDepth 100000 in
theorem orderEnded_lifted (os : Os) (started : os.Started) (H : Type) (enc : TypeId × Value → H) :
    ReturnsInHanded {} Try.checked os 14 .any (Rows.orderEndedSpec.pre6 enc Try.prog Try.f14 Rows.orderEndedRow.domain false) (Rows.orderEndedSpec.post enc Try.prog Try.f14 false true false false) := by
  refine returnsInHanded_of_change (C := Try.checked) seat_own started (by kernel_rfl) Try.func14
    (ChangeSpec.witness6 (enc := enc) (C := Try.checked) false ⟨#[], #[.agg #[.slice none 0 0, .slice none 0 0, .int .i64 0, .slice none 0 0, .int .i64 0, .int .i64 0, .int .i64 0, .int .i64 0], .agg #[.int .u16 0, .int .u16 0]], []⟩ 8 (by kernel_rfl) (by kernel_rfl) (by kernel_rfl) (by kernel_rfl)) ?_
  intro W base args ds gs before hval0 hW hcnd _
  have hval : ∀ (j : Nat) t v, Try.f14.params[j]? = some t → args[j]? = some v → Value.okWide Try.prog W .any base t v := hval0
  have hW' := hW
  obtain ⟨p, q, hA0, hV, rfl, hfz, hnd⟩ := hW
  have hA : DataW.TrodAll enc Try.prog W 0 (fun _ => true) true Try.f14.params.toList args.toList ds p := hA0
  rw [Try.params14] at hA hval
  obtain ⟨v0, vs0, d0, ds0, p0, q0, hargs, rfl, rfl, h0, r0⟩ := trodAll_cons hA
  obtain ⟨v1, vs1, d1, ds1, p1, q1, rfl, rfl, rfl, h1, r1⟩ := trodAll_cons r0
  obtain ⟨rfl, rfl, rfl⟩ := trodAll_nil r1
  obtain rfl : args = #[v0, v1] := by cases args; simp_all
  obtain ⟨rfl, rfl⟩ := trodVars_none hV
  have k0 := h0
  have lt0 : ∀ x ∈ p0, x.block < W.heap.size := by obtain ⟨m, hm⟩ := k0; exact DataW.trod_lt m _ _ _ hm
  have k1 := h1
  have lt1 : ∀ x ∈ p1, x.block < W.heap.size := by obtain ⟨m, hm⟩ := k1; exact DataW.trod_lt m _ _ _ hm
  obtain ⟨A0, A1, A3, n0, n1, n3, z0, z1, z3, a2, a4, a5, a6, a7, rfl, s0, s1, s3, w2, w4, w5, w6, w7⟩ := state_open (hval 0 24 v0 rfl rfl) h0
  obtain ⟨x10, x11, rfl, y10, y11⟩ := u16x2_open (hval 1 62 v1 rfl rfl) h1
  clear hA0 hval0
  refine (orderEnded_walk W A0 A1 A3 n0 n1 n3 z0 z1 z3 a2 a4 a5 a6 a7 s0 s1 s3 w2 w4 w5 w6 w7 x10 x11 y10 y11).mono fun e W' ⟨he, bel⟩ => ?_
  subst he
  exact ⟨_, rfl, _, _, _, [], _, [], hW', trodAll_mk1 (shut_bool Try.underlying4 _), (trodAll_cons_mk (Below.trod seat_laidOut (by kernel_rfl) (of_decide_eq_true (by kernel_rfl)) k0 bel lt0) (trodAll_cons_mk (Below.trod seat_laidOut (by kernel_rfl) (of_decide_eq_true (by kernel_rfl)) k1 bel lt1) trodAll_mk0)), rfl, bel.frame _, fun h => by cases h⟩

theorem orderEnded_fn : Try.pinned.checked.prog.funcNamed Rows.orderEndedRow.func = some 14 := by kernel_rfl
theorem orderEnded_closed : joinedFacts Try.pinned.checked.prog 14 Try.f14 Rows.orderEndedSpec Rows.orderEndedRow = true := by
  show joinedFacts Try.prog 14 Try.f14 Rows.orderEndedSpec Rows.orderEndedRow = true
  unfold joinedFacts
  rw [prog_mayEnter, prog_lifts, prog_make]
  kernel_rfl
theorem orderEnded_inst : Try.f14.isInstance Try.pinned.checked.prog Rows.orderEndedRow.origin Rows.orderEndedRow.targs := of_decide_eq_true (by kernel_rfl)
theorem orderEnded_wrap : Try.f14.isWrapper Try.pinned.checked.prog Rows.orderEndedRow.wrapper Rows.orderEndedRow.mainSum := by unfold Func.isWrapper; first | (rw [if_pos (by decide +kernel)]; kernel_rfl) | (rw [if_neg (by decide +kernel)]; exact ⟨rfl, rfl⟩)

theorem orderEnded_over : Rows.orderEndedRow.holds Try.pinned (OpenSpec.ofChange Rows.orderEndedSpec) :=
  OpenClaim.holds_of_wide 14 Try.f14 rfl rfl rfl rfl rfl rfl rfl ⟨rfl, rfl, rfl, rfl, rfl⟩ rfl rfl rfl rfl rfl orderEnded_fn Try.func14 orderEnded_closed
    orderEnded_inst orderEnded_wrap
    (fun os started H enc _ => orderEnded_lifted os started H enc)

/-- The statement. -/
theorem orderEnded_holds : Rows.OrderEndedSaid := orderEnded_over
end Go.Proofs.Ytmkcijecncdhpaa
