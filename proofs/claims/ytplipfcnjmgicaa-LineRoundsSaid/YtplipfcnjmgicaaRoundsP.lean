/-
  LineRounds: for every argument the law answers true. No condition.
-/
import Derived.Test.YtplipfcnjmgicaaFrame
import Derived.Test.YtplipfcnjmgicaaFrame2
import Derived.Test.YtplipfcnjmgicaaRounds2
namespace Go.Proofs.Ytplipfcnjmgicaa
open Go.ChangeShapes Go.WideShapes Go.ChangeAt Go.RowKit
set_option linter.unusedVariables false
set_option linter.unusedSimpArgs false
set_option maxRecDepth 100000 in
theorem rounds_lifted (os : Os) (started : os.Started) (H : Type) (enc : TypeId × Value → H) :
    ReturnsInHanded {} Try.checked os 12 .any (Rows.lineRoundsSpec.pre6 enc Try.prog Try.f12 Rows.lineRoundsRow.domain false) (Rows.lineRoundsSpec.post enc Try.prog Try.f12 false true false false) := by
  refine returnsInHanded_of_change (C := Try.checked) seat_own started (by kernel_rfl) Try.func12
    (ChangeSpec.witness6 (enc := enc) (C := Try.checked) false ⟨#[], #[.agg #[.int .i64 0, .int .i64 0, .int .i64 0, .int .i64 0, .int .i64 0, .int .i64 0], .slice none 0 0, .slice none 0 0], []⟩ 8 (by kernel_rfl) (by kernel_rfl) (by kernel_rfl) (by kernel_rfl)) ?_
  intro W base args ds gs before hval0 hW hcnd _
  have hval : ∀ (j : Nat) t v, Try.f12.params[j]? = some t → args[j]? = some v → Value.okWide Try.prog W .any base t v := hval0
  have hW' := hW
  obtain ⟨p, q, hA0, hV, rfl, hfz, hnd⟩ := hW
  have hA : DataW.TrodAll enc Try.prog W 0 (fun _ => true) true Try.f12.params.toList args.toList ds p := hA0
  rw [Try.params12] at hA hval
  obtain ⟨v0, vs0, d0, ds0, p0, q0, hargs, rfl, rfl, h0, r0⟩ := trodAll_cons hA
  obtain ⟨v1, vs1, d1, ds1, p1, q1, rfl, rfl, rfl, h1, r1⟩ := trodAll_cons r0
  obtain ⟨v2, vs2, d2, ds2, p2, q2, rfl, rfl, rfl, h2, r2⟩ := trodAll_cons r1
  obtain ⟨rfl, rfl, rfl⟩ := trodAll_nil r2
  obtain rfl : args = #[v0, v1, v2] := by cases args; simp_all
  obtain ⟨rfl, rfl⟩ := trodVars_none hV
  have k0 := h0
  have lt0 : ∀ x ∈ p0, x.block < W.heap.size := by obtain ⟨m, hm⟩ := k0; exact DataW.trod_lt m _ _ _ hm
  have k1 := h1
  have lt1 : ∀ x ∈ p1, x.block < W.heap.size := by obtain ⟨m, hm⟩ := k1; exact DataW.trod_lt m _ _ _ hm
  have k2 := h2
  have lt2 : ∀ x ∈ p2, x.block < W.heap.size := by obtain ⟨m, hm⟩ := k2; exact DataW.trod_lt m _ _ _ hm
  obtain ⟨a0, a1, a2, a3, a4, a5, rfl⟩ := line_open (hval 0 25 v0 rfl rfl) h0
  obtain ⟨A1, c1, z1, rfl, l1, r1', f1⟩ := ints_open (hval 1 35 v1 rfl rfl) h1
  obtain ⟨A2, c2, z2, rfl, l2, r2', f2⟩ := ints_open (hval 2 35 v2 rfl rfl) h2
  clear hA0 hval0
  refine (rounds_walk a0 a1 a2 a3 a4 a5 A1 A2 z1 z2 c1 c2 l1 l2 W r1' r2').mono fun e W' ⟨he, bel⟩ => ?_
  subst he
  exact ⟨_, rfl, _, _, _, [], _, [], hW', trodAll_mk1 (shut_bool Try.underlying4 _), (trodAll_cons_mk (Below.trod seat_laidOut (by kernel_rfl) (of_decide_eq_true (by kernel_rfl)) k0 bel lt0) (trodAll_cons_mk (Below.trod seat_laidOut (by kernel_rfl) (of_decide_eq_true (by kernel_rfl)) k1 bel lt1) (trodAll_cons_mk (Below.trod seat_laidOut (by kernel_rfl) (of_decide_eq_true (by kernel_rfl)) k2 bel lt2) trodAll_mk0))), rfl, bel.frame _, fun h => by cases h⟩

theorem rounds_fn : Try.pinned.checked.prog.funcNamed Rows.lineRoundsRow.func = some 12 := by kernel_rfl
theorem rounds_closed : joinedFacts Try.pinned.checked.prog 12 Try.f12 Rows.lineRoundsSpec Rows.lineRoundsRow = true := by
  show joinedFacts Try.prog 12 Try.f12 Rows.lineRoundsSpec Rows.lineRoundsRow = true
  unfold joinedFacts
  rw [prog_mayEnter, prog_lifts, prog_make]
  kernel_rfl
theorem rounds_inst : Try.f12.isInstance Try.pinned.checked.prog Rows.lineRoundsRow.origin Rows.lineRoundsRow.targs := of_decide_eq_true (by kernel_rfl)
theorem rounds_wrap : Try.f12.isWrapper Try.pinned.checked.prog Rows.lineRoundsRow.wrapper Rows.lineRoundsRow.mainSum := by unfold Func.isWrapper; first | (rw [if_pos (by decide +kernel)]; kernel_rfl) | (rw [if_neg (by decide +kernel)]; exact ⟨rfl, rfl⟩)

theorem rounds_over : Rows.lineRoundsRow.holds Try.pinned (OpenSpec.ofChange Rows.lineRoundsSpec) :=
  OpenClaim.holds_of_wide 12 Try.f12 rfl rfl rfl rfl rfl rfl rfl ⟨rfl, rfl, rfl, rfl, rfl⟩ rfl rfl rfl rfl rfl rounds_fn Try.func12 rounds_closed
    rounds_inst rounds_wrap
    (fun os started H enc _ => rounds_lifted os started H enc)

/-- The statement. -/
theorem lineRounds_holds : Rows.LineRoundsSaid := rounds_over
end Go.Proofs.Ytplipfcnjmgicaa
