/-
  GateChecks: for every argument the law answers true. Conditions: the listed package-level variables hold what the program's text lays (the card ties them to it).
-/
import Derived.Test.YtpjeaajjlkgekaaDoorGtF
import Derived.Test.YtpjeaajjlkgekaaDoorGtF
namespace Go.Proofs.YtpjeaajjlkgekaaDoor
open Go.ChangeShapes Go.WideShapes Go.ChangeAt Go.RowKit
set_option linter.unusedVariables false
set_option linter.unusedSimpArgs false
set_option maxRecDepth 100000 in
theorem gateChecks_lifted (os : Os) (started : os.Started) (H : Type) (enc : TypeId × Value → H) :
    ReturnsInHanded {} Tryd.checked os 4 .any (fun w args => (Rows.gateChecksSpec.pre enc Tryd.prog Tryd.f4 [] false w args ∧ laidMetH Tryd.prog Rows.gateChecksRow.laid w) ∧ sizedMet enc Tryd.prog Tryd.f4 (OpenSpec.ofChange Rows.gateChecksSpec) false w args)
      (Rows.gateChecksSpec.post enc Tryd.prog Tryd.f4 false true false false) := by
  refine returnsInHanded_of_change_and (C := Tryd.checked) (X := fun w _ => laidMetH Tryd.prog Rows.gateChecksRow.laid w) (fun _ _ _ hh h => h.of_heap hh) seat_own started (by kernel_rfl) Tryd.func4
    (ChangeSpec.witness_shaped (enc := enc) (C := Tryd.checked) (os := os) (X := fun w _ => laidMetH Tryd.prog Rows.gateChecksRow.laid w) false (World.doorLaid Tryd.prog 2000 os) #[.agg #[.int .i64 0, .slice none 0 0, .slice none 0 0]] 8 rfl (World.shaped_of_RefB (by kernel_rfl) (by kernel_rfl)) (by kernel_rfl) (by kernel_rfl) (by kernel_rfl) (door_met os _)) ?_
  intro W base args ds gs before hval0 hW _ _ hL _
  have hval : ∀ (j : Nat) t v, Tryd.f4.params[j]? = some t → args[j]? = some v → Value.okWide Tryd.prog W .any base t v := hval0
  have hW' := hW
  obtain ⟨p, q, hA0, hV, rfl, hfz, hnd⟩ := hW
  have hA : DataW.TrodAll enc Tryd.prog W 0 (fun _ => true) true Tryd.f4.params.toList args.toList ds p := hA0
  rw [Tryd.params4] at hA hval
  obtain ⟨v0, vs0, d0, ds0, p0, q0, hargs, rfl, rfl, h0, r0⟩ := trodAll_cons hA
  obtain ⟨rfl, rfl, rfl⟩ := trodAll_nil r0
  obtain rfl : args = #[v0] := by cases args; simp_all
  obtain ⟨rfl, rfl⟩ := trodVars_none hV
  have k0 := h0
  have lt0 : ∀ x ∈ p0, x.block < W.heap.size := by obtain ⟨m, hm⟩ := k0; exact DataW.trod_lt m _ _ _ hm
  obtain ⟨t0, A0, c0, B0, e0, rfl, w0⟩ := net_open (hval 0 25 v0 rfl rfl) h0
  clear hA0 hval0
  refine (checks_walk W t0 A0 c0 B0 e0 w0 (holds_of_laid hL)).mono fun e W' ⟨he, bel⟩ => ?_
  subst he
  exact ⟨_, rfl, _, _, _, [], _, [], hW', trodAll_mk1 (shut_bool Tryd.underlying4 _), (trodAll_cons_mk (Below.trod seat_laidOut (by kernel_rfl) (of_decide_eq_true (by kernel_rfl)) k0 bel lt0) trodAll_mk0), rfl, bel.frame _, fun h => by cases h⟩

theorem gateChecks_fn : Tryd.pinned.checked.prog.funcNamed Rows.gateChecksRow.func = some 4 := by kernel_rfl
theorem gateChecks_closed : joinedFacts Tryd.pinned.checked.prog 4 Tryd.f4 Rows.gateChecksSpec Rows.gateChecksRow = true := by
  show joinedFacts Tryd.prog 4 Tryd.f4 Rows.gateChecksSpec Rows.gateChecksRow = true
  unfold joinedFacts
  rw [prog_mayEnter, prog_lifts, prog_make]
  kernel_rfl
theorem gateChecks_inst : Tryd.f4.isInstance Tryd.pinned.checked.prog Rows.gateChecksRow.origin Rows.gateChecksRow.targs := of_decide_eq_true (by kernel_rfl)
theorem gateChecks_wrap : Tryd.f4.isWrapper Tryd.pinned.checked.prog Rows.gateChecksRow.wrapper Rows.gateChecksRow.mainSum := by unfold Func.isWrapper; first | (rw [if_pos (by decide +kernel)]; kernel_rfl) | (rw [if_neg (by decide +kernel)]; exact ⟨rfl, rfl⟩)

theorem gateChecks_over : Rows.gateChecksRow.holds Tryd.pinned (OpenSpec.ofChange Rows.gateChecksSpec) :=
  OpenClaim.holds_of_wide 4 Tryd.f4 rfl rfl rfl rfl rfl rfl rfl ⟨rfl, rfl, rfl, rfl, rfl⟩ rfl rfl rfl rfl rfl gateChecks_fn Tryd.func4 gateChecks_closed
    gateChecks_inst gateChecks_wrap
    (fun os started H enc _ => gateChecks_lifted os started H enc)
theorem gateChecks_said : Rows.GateChecksSaid := gateChecks_over
end Go.Proofs.YtpjeaajjlkgekaaDoor
