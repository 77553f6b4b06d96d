/-
  CONTRACTS OF shiftAt. No statement is proved here.
-/
import Derived.Test.YtplipfcnjmgicaaWk1
import Derived.Lib.QuietBelow
import Derived.Lib.Hide
namespace Go.Proofs.Ytplipfcnjmgicaa
open Go.RowKit Go.Sort
set_option linter.unusedVariables false
set_option linter.unusedSimpArgs false

/-- By how much a line is late. -/
def lateOf (a0 a1 a2 a3 a4 T : Int) : Int := a3 + a4 * T - a0 * a1 * a2
/-- Pulses are lost. -/
def lostOf (a2 a5 L : Int) : Bool := decide (2 * a5 < (L + a5) % a2)
/-- The shift, or 0. -/
def shiftOf (a2 a5 L : Int) : Int := if 2 * a5 < (L + a5) % a2 then 0 else (L + a5) / a2

theorem late_bound {a0 a1 a2 a3 a4 a5 T : Int} (h : OkLine a0 a1 a2 a3 a4 a5) (hT : -500 ≤ T ∧ T ≤ 1000) :
    (-100000000 ≤ a4 * T ∧ a4 * T ≤ 100000000) ∧ 0 ≤ a0 * a1 * a2 ∧ a0 * a1 * a2 ≤ 256000000 := by
  have g4 := h.h4
  have g2 := h.h2
  have gm := mul_bound ⟨h.h0, h.h1⟩
  refine ⟨?_, ?_, ?_⟩
  · have h1 : (a4 * T).natAbs = a4.natAbs * T.natAbs := Int.natAbs_mul _ _
    have h2 : a4.natAbs * T.natAbs ≤ 100000 * 1000 := Nat.mul_le_mul (by omega) (by omega)
    omega
  · exact Int.mul_nonneg (by omega) (by omega)
  · have := Int.mul_le_mul gm.2 g2.2 (by omega : (0 : Int) ≤ a2) (by omega)
    omega

theorem shift_exact {a2 x : Int} (h2 : 0 < a2) : (x - x % a2).tdiv a2 = x / a2 := by
  have h := Int.emod_add_mul_ediv x a2
  have e : x - x % a2 = a2 * (x / a2) := by omega
  rw [e, Int.mul_tdiv_cancel_left _ (by omega)]

set_option maxHeartbeats 2000000 in
set_option maxRecDepth 1000000 in
theorem shiftAt_any (a0 a1 a2 a3 a4 a5 T : Int) (h : OkLine a0 a1 a2 a3 a4 a5) (hT : -500 ≤ T ∧ T ≤ 1000) (w : World) :
    Calls Try.prog 57 #[.agg #[.int .i64 a0, .int .i64 a1, .int .i64 a2, .int .i64 a3, .int .i64 a4, .int .i64 a5], .int .i64 T] w fun e w' =>
      e = .returned (.tuple #[.int .i64 (shiftOf a2 a5 (lateOf a0 a1 a2 a3 a4 T)), .bool (lostOf a2 a5 (lateOf a0 a1 a2 a3 a4 T))]) ∧ Below w.heap.size w w' := by
  obtain ⟨b1, b2⟩ := late_bound h hT
  obtain ⟨m, hm⟩ : ∃ m, m = a4 * T := ⟨_, rfl⟩
  obtain ⟨q, hq⟩ : ∃ q, q = a0 * a1 * a2 := ⟨_, rfl⟩
  obtain ⟨L, hL⟩ : ∃ L, L = a3 + m - q := ⟨_, rfl⟩
  have eL : lateOf a0 a1 a2 a3 a4 T = L := by rw [hL, hm, hq]; rfl
  rw [eL]
  rw [← hm] at b1
  rw [← hq] at b2
  have g0 := h.h0
  have g1 := h.h1
  have g2 := h.h2
  have g3 := h.h3
  have g5 := h.h5
  have w1' : IntKind.i64.wrap (a4 * T) = m := by rw [← hm, IntKind.wrap_i64]; omega
  have w2' : IntKind.i64.wrap (a3 + m) = a3 + m := by rw [IntKind.wrap_i64]; omega
  have w3' : IntKind.i64.wrap (a0 * a1 * a2) = q := by rw [← hq, IntKind.wrap_i64]; omega
  have w4' : IntKind.i64.wrap (a3 + m - q) = L := by rw [← hL, IntKind.wrap_i64]; omega
  have lb : -2000000000 ≤ L ∧ L ≤ 2000000000 := by omega
  obtain ⟨B, hB⟩ : ∃ B, B = (L + a5) % a2 := ⟨_, rfl⟩
  have B0 := Int.emod_nonneg (L + a5) (by omega : a2 ≠ 0)
  have B1 := Int.emod_lt_of_pos (L + a5) (by omega : 0 < a2)
  have ex := shift_exact (x := L + a5) (by omega : 0 < a2)
  have EL : Hid (lostOf a2 a5 L = decide (2 * a5 < B)) := by rw [hB]; exact rfl
  have ES : Hid (shiftOf a2 a5 L = if 2 * a5 < B then 0 else (L + a5) / a2) := by rw [hB]; exact rfl
  rw [← hB] at B0 B1 ex
  have cM : ∀ w, Calls Try.prog 74 #[.int .i64 (L + a5), .int .i64 a2] w fun e w' => e = .returned (.int .i64 B) ∧ w' = w := fun w => by rw [hB]; exact modulo_any (L + a5) a2 (by omega) (by omega) w
  have CM : Hid (∀ w, Calls Try.prog 74 #[.int .i64 (L + a5), .int .i64 a2] w fun e w' => e = .returned (.int .i64 B) ∧ w' = w) := cM
  have EX : Hid ((L + a5 - B).tdiv a2 = (L + a5) / a2) := ex
  clear hm hq hL eL hB ex cM
  go_enter Try.func57, Try.ntmps57
  go_wp2_with fail
  generalize hW : (w.alloc (.cells #[.int .i64 a0, .int .i64 a1, .int .i64 a2, .int .i64 a3, .int .i64 a4, .int .i64 a5] 25)) = W
  have bW : Below w.heap.size w W := by rw [← hW]; clear hW; go_grown
  have c0 : W.cell? ⟨w.heap.size, 0, none⟩ = some (.int .i64 a0) := by rw [← hW]; clear hW; simp [go_sem]
  have c1 : W.cell? ⟨w.heap.size, 1, none⟩ = some (.int .i64 a1) := by rw [← hW]; clear hW; simp [go_sem]
  have c2 : W.cell? ⟨w.heap.size, 2, none⟩ = some (.int .i64 a2) := by rw [← hW]; clear hW; simp [go_sem]
  have c3 : W.cell? ⟨w.heap.size, 3, none⟩ = some (.int .i64 a3) := by rw [← hW]; clear hW; simp [go_sem]
  have c4 : W.cell? ⟨w.heap.size, 4, none⟩ = some (.int .i64 a4) := by rw [← hW]; clear hW; simp [go_sem]
  have c5 : W.cell? ⟨w.heap.size, 5, none⟩ = some (.int .i64 a5) := by rw [← hW]; clear hW; simp [go_sem]
  clear hW
  have k0 := cell_regrown c0
  have k1 := cell_regrown c1
  have k2 := cell_regrown c2
  have k3 := cell_regrown c3
  have k4 := cell_regrown c4
  have k5 := cell_regrown c5
  have cB : ∀ d os, Calls Try.prog 70 #[.agg #[.int .i64 a0, .int .i64 a1, .int .i64 a2, .int .i64 a3, .int .i64 a4, .int .i64 a5]] (grow (redrawn W d) os) fun e w'' => e = .returned (.int .i64 (a0 * a1)) ∧ ∃ p : Regrown, w'' = grow (redrawn W p.d) p.os := fun d os =>
    Calls.regrown_of (Calls.mono (beats_any a0 a1 a2 a3 a4 a5 ⟨g0, g1⟩ _) fun e w' h => ⟨h.1, by rw [h.2]; go_grown⟩)
  clear c0 c1 c2 c3 c4 c5
  refine wp_region_quiet_below rfl (by kernel_rfl) ?_
  repeat (quiet_step (with_reducible exact cB _ _); try simp only [w1', w2', w3', w4'])
  refine wpQuiet_nil ?_
  intro _ hw'
  obtain ⟨⟨dq, osq⟩, hw''⟩ := hw'
  subst hw''
  have b3 := below_regrown W dq osq
  obtain ⟨X, hX⟩ : ∃ X, X = grow (redrawn W dq) osq := ⟨_, rfl⟩
  have x2 := k2 dq osq
  have x5 := k5 dq osq
  rw [← hX] at b3 x2 x5
  rw [← hX]
  clear hX cB k0 k1 k2 k3 k4 k5 w1' w2' w3' w4'
  have hlow := bW.size
  have bX : Below w.heap.size w X := bW.trans ⟨b3.os, b3.tape, b3.output, b3.size, fun k hk => b3.block k (by omega)⟩
  clear b3 bW hlow
  go_wp2_with fail
  refine (CM.out _).mono ?_; rintro e w' ⟨rfl, rfl⟩
  by_cases hl : 2 * a5 < B
  · go_wp2
    go_returns
    exact ⟨by rw [EL.out, ES.out]; simp [hl], bX⟩
  · go_wp2
    go_returns
    refine ⟨?_, bX⟩
    rw [EL.out, ES.out]
    rw [if_neg (by omega), ← EX.out]
    simp [hl]
end Go.Proofs.Ytplipfcnjmgicaa
