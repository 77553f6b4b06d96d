/-
  CONTRACTS OF Next, by cases. No statement is proved here.
-/
import Derived.Test.YtplipfcnjmgicaaWk1
import Derived.Lib.QuietBelow
namespace Go.Proofs.Ytplipfcnjmgicaa
open Go.RowKit Go.Sort
set_option linter.unusedVariables false
set_option linter.unusedSimpArgs false

set_option maxHeartbeats 2000000 in
theorem next_bad (a0 a1 a2 a3 a4 a5 p t : Int) (h : ¬ OkLine a0 a1 a2 a3 a4 a5) (w : World) :
    Calls Try.prog 34 #[.agg #[.int .i64 a0, .int .i64 a1, .int .i64 a2, .int .i64 a3, .int .i64 a4, .int .i64 a5], .int .i64 p, .int .i64 t] w fun e w' => e = .returned (.tuple #[.int .i64 0, .int .i64 7]) ∧ Below w.heap.size w w' := by
  go_enter Try.func34, Try.ntmps34
  go_wp2_with (first | (go_call check_bad as e w' ⟨rfl, rfl⟩))
  go_returns
  exact ⟨rfl, by go_grown⟩

set_option maxHeartbeats 2000000 in
set_option maxRecDepth 1000000 in
theorem next_ok (a0 a1 a2 a3 a4 a5 p t : Int) (h : OkLine a0 a1 a2 a3 a4 a5) (hp : 0 ≤ p ∧ p ≤ a0 - 1) (ht : 0 ≤ t ∧ t ≤ 1000000000) (w : World) :
    Calls Try.prog 34 #[.agg #[.int .i64 a0, .int .i64 a1, .int .i64 a2, .int .i64 a3, .int .i64 a4, .int .i64 a5], .int .i64 p, .int .i64 t] w fun e w' => e = .returned (.tuple #[.int .i64 (t + 1 + (p * a1 - (t + 1)) % (a0 * a1)), .int .i64 0]) ∧ Below w.heap.size w w' := by
  have g0 := h.h0
  have g1 := h.h1
  go_enter Try.func34, Try.ntmps34
  go_wp2_with (first | (go_call check_ok as e w' ⟨rfl, rfl⟩) | (go_call within_t as e w' ⟨rfl, rfl⟩))
  have q1 : 0 ≤ p * a1 ∧ p * a1 ≤ 2520 := by
    constructor
    · exact Int.mul_nonneg hp.1 (by omega)
    · have := Int.mul_le_mul (show p ≤ 63 by omega) g1.2 (by omega : (0 : Int) ≤ a1) (by omega)
      omega
  have q2 := mul_bound ⟨g0, g1⟩
  have w1 : wrap64 (p * a1) = p * a1 := wrap_in (by omega) (by omega)
  have w2 : wrap64 (p * a1 - (t + 1)) = p * a1 - (t + 1) := wrap_in (by omega) (by omega)
  have w1' : IntKind.i64.wrap (p * a1) = p * a1 := by rw [IntKind.wrap_i64]; omega
  have w2' : IntKind.i64.wrap (p * a1 - (t + 1)) = p * a1 - (t + 1) := by rw [IntKind.wrap_i64]; omega
  have m0 := Int.emod_nonneg (p * a1 - (t + 1)) (by omega : a0 * a1 ≠ 0)
  have m1 := Int.emod_lt_of_pos (p * a1 - (t + 1)) (by omega : 0 < a0 * a1)
  have w3 : wrap64 (t + 1 + (p * a1 - (t + 1)) % (a0 * a1)) = t + 1 + (p * a1 - (t + 1)) % (a0 * a1) := wrap_in (by omega) (by omega)
  have w3' : IntKind.i64.wrap (t + 1 + (p * a1 - (t + 1)) % (a0 * a1)) = t + 1 + (p * a1 - (t + 1)) % (a0 * a1) := by rw [IntKind.wrap_i64]; omega
  clear w1 w2 w3
  generalize hW : ((w.alloc (.cells #[.int .i64 a0, .int .i64 a1, .int .i64 a2, .int .i64 a3, .int .i64 a4, .int .i64 a5] 25)).alloc (.cells #[.int .i64 a0, .int .i64 a1, .int .i64 a2, .int .i64 a3, .int .i64 a4, .int .i64 a5] 25)) = W
  have bW : Below w.heap.size w W := by rw [← hW]; clear hW; go_grown
  have c0 : W.cell? ⟨w.heap.size, 0, none⟩ = some (.int .i64 a0) := by rw [← hW]; clear hW; simp [go_sem]
  have c1 : W.cell? ⟨w.heap.size, 1, none⟩ = some (.int .i64 a1) := by rw [← hW]; clear hW; simp [go_sem]
  have c2 : W.cell? ⟨w.heap.size, 2, none⟩ = some (.int .i64 a2) := by rw [← hW]; clear hW; simp [go_sem]
  have c3 : W.cell? ⟨w.heap.size, 3, none⟩ = some (.int .i64 a3) := by rw [← hW]; clear hW; simp [go_sem]
  have c4 : W.cell? ⟨w.heap.size, 4, none⟩ = some (.int .i64 a4) := by rw [← hW]; clear hW; simp [go_sem]
  have c5 : W.cell? ⟨w.heap.size, 5, none⟩ = some (.int .i64 a5) := by rw [← hW]; clear hW; simp [go_sem]
  clear hW
  have k0 := cell_regrown c0
  have k1 := cell_regrown c1
  have k2 := cell_regrown c2
  have k3 := cell_regrown c3
  have k4 := cell_regrown c4
  have k5 := cell_regrown c5
  have cB : ∀ d os, Calls Try.prog 70 #[.agg #[.int .i64 a0, .int .i64 a1, .int .i64 a2, .int .i64 a3, .int .i64 a4, .int .i64 a5]] (grow (redrawn W d) os) fun e w'' => e = .returned (.int .i64 (a0 * a1)) ∧ ∃ p : Regrown, w'' = grow (redrawn W p.d) p.os := fun d os =>
    Calls.regrown_of (Calls.mono (beats_any a0 a1 a2 a3 a4 a5 ⟨g0, g1⟩ _) fun e w' h => ⟨h.1, by rw [h.2]; go_grown⟩)
  have cM : ∀ d os, Calls Try.prog 74 #[.int .i64 (p * a1 - (t + 1)), .int .i64 (a0 * a1)] (grow (redrawn W d) os) fun e w'' => e = .returned (.int .i64 ((p * a1 - (t + 1)) % (a0 * a1))) ∧ ∃ p : Regrown, w'' = grow (redrawn W p.d) p.os := fun d os =>
    Calls.regrown_of (Calls.mono (modulo_any _ _ (by omega) (by omega) _) fun e w' h => ⟨h.1, by rw [h.2]; exact Below.refl _ _⟩)
  clear c0 c1 c2 c3 c4 c5 m0 m1
  refine wp_region_quiet_below rfl (by kernel_rfl) ?_
  iterate 7 (quiet_step (first | exact cB _ _ | exact cM _ _))
  try simp only [w1', w2']
  iterate 6 (quiet_step (first | with_reducible exact cB _ _ | with_reducible exact cM _ _))
  try simp only [w3']
  refine wpQuiet_nil ?_
  intro _ hw'
  obtain ⟨⟨dq, osq⟩, hw''⟩ := hw'
  subst hw''
  clear cB cM k0 k1 k2 k3 k4 k5 w1' w2' w3'
  go_wp2
  go_returns
  exact ⟨rfl, bW.trans (by
    have hb := below_regrown W dq osq
    have hs := bW.size
    exact ⟨hb.os, hb.tape, hb.output, hb.size, fun k hk => hb.block k (by omega)⟩)⟩

set_option maxHeartbeats 2000000 in
theorem next_far (a0 a1 a2 a3 a4 a5 p t : Int) (h : OkLine a0 a1 a2 a3 a4 a5) (hpt : ¬ ((0 ≤ p ∧ p ≤ a0 - 1) ∧ 0 ≤ t ∧ t ≤ 1000000000)) (w : World) :
    Calls Try.prog 34 #[.agg #[.int .i64 a0, .int .i64 a1, .int .i64 a2, .int .i64 a3, .int .i64 a4, .int .i64 a5], .int .i64 p, .int .i64 t] w fun e w' => e = .returned (.tuple #[.int .i64 0, .int .i64 7]) ∧ Below w.heap.size w w' := by
  have g0 := h.h0
  have g1 := h.h1
  by_cases hp : 0 ≤ p ∧ p ≤ a0 - 1
  · have ht : ¬ (0 ≤ t ∧ t ≤ 1000000000) := fun ht => hpt ⟨hp, ht⟩
    clear hpt
    go_enter Try.func34, Try.ntmps34
    go_wp2_with (first | (go_call check_ok as e w' ⟨rfl, rfl⟩) | (go_call within_t as e w' ⟨rfl, rfl⟩) | (go_call within_f as e w' ⟨rfl, rfl⟩))
    go_returns
    exact ⟨rfl, by go_grown⟩
  · clear hpt
    go_enter Try.func34, Try.ntmps34
    go_wp2_with (first | (go_call check_ok as e w' ⟨rfl, rfl⟩) | (go_call within_t as e w' ⟨rfl, rfl⟩) | (go_call within_f as e w' ⟨rfl, rfl⟩))
    go_returns
    exact ⟨rfl, by go_grown⟩

end Go.Proofs.Ytplipfcnjmgicaa
