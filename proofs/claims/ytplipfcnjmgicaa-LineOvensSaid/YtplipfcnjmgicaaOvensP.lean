/-
  LineOvens: for every argument the law answers true. No condition.
-/
import Derived.Test.YtplipfcnjmgicaaFrame
import Derived.Test.YtplipfcnjmgicaaHtF
import Derived.Test.YtplipfcnjmgicaaHt17
namespace Go.Proofs.Ytplipfcnjmgicaa
open Go.ChangeShapes Go.WideShapes Go.ChangeAt Go.RowKit
set_option linter.unusedVariables false
set_option linter.unusedSimpArgs false
set_option maxRecDepth 100000 in
theorem lineOvens_lifted (os : Os) (started : os.Started) (H : Type) (enc : TypeId × Value → H) :
    ReturnsInHanded {} Try.checked os 8 .any (Rows.lineOvensSpec.pre6 enc Try.prog Try.f8 Rows.lineOvensRow.domain false) (Rows.lineOvensSpec.post enc Try.prog Try.f8 false true false false) := by
  refine returnsInHanded_of_change (C := Try.checked) seat_own started (by kernel_rfl) Try.func8
    (ChangeSpec.witness6 (enc := enc) (C := Try.checked) false ⟨#[], #[.agg #[.int .i64 0, .int .i64 0, .int .i64 0, .int .i64 0, .int .i64 0, .int .i64 0], .agg #[.int .i64 0, .int .i64 0, .int .i64 0, .int .i64 0, .int .i64 0, .int .i64 0, .int .i64 0, .int .i64 0, .bool false, .int .i64 0]], []⟩ 8 (by kernel_rfl) (by kernel_rfl) (by kernel_rfl) (by kernel_rfl)) ?_
  intro W base args ds gs before hval0 hW hcnd _
  have hval : ∀ (j : Nat) t v, Try.f8.params[j]? = some t → args[j]? = some v → Value.okWide Try.prog W .any base t v := hval0
  have hW' := hW
  obtain ⟨p, q, hA0, hV, rfl, hfz, hnd⟩ := hW
  have hA : DataW.TrodAll enc Try.prog W 0 (fun _ => true) true Try.f8.params.toList args.toList ds p := hA0
  rw [Try.params8] at hA hval
  obtain ⟨v0, vs0, d0, ds0, p0, q0, hargs, rfl, rfl, h0, r0⟩ := trodAll_cons hA
  obtain ⟨v1, vs1, d1, ds1, p1, q1, rfl, rfl, rfl, h1, r1⟩ := trodAll_cons r0
  obtain ⟨rfl, rfl, rfl⟩ := trodAll_nil r1
  obtain rfl : args = #[v0, v1] := by cases args; simp_all
  obtain ⟨rfl, rfl⟩ := trodVars_none hV
  have k0 := h0
  have lt0 : ∀ x ∈ p0, x.block < W.heap.size := by obtain ⟨m, hm⟩ := k0; exact DataW.trod_lt m _ _ _ hm
  have k1 := h1
  have lt1 : ∀ x ∈ p1, x.block < W.heap.size := by obtain ⟨m, hm⟩ := k1; exact DataW.trod_lt m _ _ _ hm
  obtain ⟨a0, a1, a2, a3, a4, a5, rfl⟩ := line_open (hval 0 25 v0 rfl rfl) h0
  obtain ⟨o, tl, th, hb, mi, rfl, wmi⟩ := heated_open (hval 1 52 v1 rfl rfl) h1
  clear hA0 hval0
  refine (ovens_walk W a0 a1 a2 a3 a4 a5 o tl th hb mi wmi).mono fun e W' ⟨he, bel⟩ => ?_
  subst he
  exact ⟨_, rfl, _, _, _, [], _, [], hW', trodAll_mk1 (shut_bool Try.underlying4 _), (trodAll_cons_mk (Below.trod seat_laidOut (by kernel_rfl) (of_decide_eq_true (by kernel_rfl)) k0 bel lt0) (trodAll_cons_mk (Below.trod seat_laidOut (by kernel_rfl) (of_decide_eq_true (by kernel_rfl)) k1 bel lt1) trodAll_mk0)), rfl, bel.frame _, fun h => by cases h⟩

theorem lineOvens_fn : Try.pinned.checked.prog.funcNamed Rows.lineOvensRow.func = some 8 := by kernel_rfl
theorem lineOvens_closed : joinedFacts Try.pinned.checked.prog 8 Try.f8 Rows.lineOvensSpec Rows.lineOvensRow = true := by
  show joinedFacts Try.prog 8 Try.f8 Rows.lineOvensSpec Rows.lineOvensRow = true
  unfold joinedFacts
  rw [prog_mayEnter, prog_lifts, prog_make]
  kernel_rfl
theorem lineOvens_inst : Try.f8.isInstance Try.pinned.checked.prog Rows.lineOvensRow.origin Rows.lineOvensRow.targs := of_decide_eq_true (by kernel_rfl)
theorem lineOvens_wrap : Try.f8.isWrapper Try.pinned.checked.prog Rows.lineOvensRow.wrapper Rows.lineOvensRow.mainSum := by unfold Func.isWrapper; first | (rw [if_pos (by decide +kernel)]; kernel_rfl) | (rw [if_neg (by decide +kernel)]; exact ⟨rfl, rfl⟩)

theorem lineOvens_over : Rows.lineOvensRow.holds Try.pinned (OpenSpec.ofChange Rows.lineOvensSpec) :=
  OpenClaim.holds_of_wide 8 Try.f8 rfl rfl rfl rfl rfl rfl rfl ⟨rfl, rfl, rfl, rfl, rfl⟩ rfl rfl rfl rfl rfl lineOvens_fn Try.func8 lineOvens_closed
    lineOvens_inst lineOvens_wrap
    (fun os started H enc _ => lineOvens_lifted os started H enc)

/-- The statement. -/
theorem lineOvens_holds : Rows.LineOvensSaid := lineOvens_over
end Go.Proofs.Ytplipfcnjmgicaa
