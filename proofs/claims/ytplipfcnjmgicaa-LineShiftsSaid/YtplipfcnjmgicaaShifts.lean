/-
  LineShifts: the walk. No statement is proved here.
-/
import Derived.Test.YtplipfcnjmgicaaSafe3
import Derived.Test.YtplipfcnjmgicaaAwake
import Derived.Lib.QuietBelow
namespace Go.Proofs.Ytplipfcnjmgicaa
open Go.RowKit Go.Sort
set_option linter.unusedVariables false
set_option linter.unusedSimpArgs false

theorem awake_sh (w : World) : Calls Try.prog 22 #[] w fun e w' => e = .returned (.bool true) ∧ Below w.heap.size w w' := Go.Proofs.Ev.awake w

set_option maxRecDepth 1000000 in
set_option maxHeartbeats 4000000 in
theorem shifts_of (a0 a1 a2 a3 a4 a5 T n0 e0 c lo hi e1 : Int) (b0 : Bool)
    (K1 : Hid (∀ w, Calls Try.prog 23 #[.agg #[.int .i64 a0, .int .i64 a1, .int .i64 a2, .int .i64 a3, .int .i64 a4, .int .i64 a5], .int .i64 T] w (Shifted n0 b0 e0 w)))
    (K2 : Hid (∀ w, Calls Try.prog 24 #[.agg #[.int .i64 a0, .int .i64 a1, .int .i64 a2, .int .i64 a3, .int .i64 a4, .int .i64 a5], .int .i64 T] w (Shifted n0 b0 e0 w)))
    (C1 : Hid (∀ w, Calls Try.prog 25 #[.agg #[.int .i64 a0, .int .i64 a1, .int .i64 a2, .int .i64 a3, .int .i64 a4, .int .i64 a5]] w fun e w' => e = .returned (.int .i64 c) ∧ w' = w.alloc (.cells #[.int .i64 a0, .int .i64 a1, .int .i64 a2, .int .i64 a3, .int .i64 a4, .int .i64 a5] 25)))
    (C2 : Hid (∀ w, Calls Try.prog 26 #[.agg #[.int .i64 a0, .int .i64 a1, .int .i64 a2, .int .i64 a3, .int .i64 a4, .int .i64 a5]] w fun e w' => e = .returned (.int .i64 c) ∧ w' = w.alloc (.cells #[.int .i64 a0, .int .i64 a1, .int .i64 a2, .int .i64 a3, .int .i64 a4, .int .i64 a5] 25)))
    (S1 : Hid (∀ w, Calls Try.prog 27 #[.agg #[.int .i64 a0, .int .i64 a1, .int .i64 a2, .int .i64 a3, .int .i64 a4, .int .i64 a5]] w fun e w' => e = .returned (.tuple #[.agg #[.int .i64 lo, .int .i64 hi], .int .i64 e1]) ∧ Below w.heap.size w w'))
    (S2 : Hid (∀ w, Calls Try.prog 28 #[.agg #[.int .i64 a0, .int .i64 a1, .int .i64 a2, .int .i64 a3, .int .i64 a4, .int .i64 a5]] w fun e w' => e = .returned (.tuple #[.agg #[.int .i64 lo, .int .i64 hi], .int .i64 e1]) ∧ Below w.heap.size w w')) (w : World) :
    Calls Try.prog 4 #[.agg #[.int .i64 a0, .int .i64 a1, .int .i64 a2, .int .i64 a3, .int .i64 a4, .int .i64 a5], .int .i64 T] w fun e w' => e = .returned (.bool true) ∧ Below w.heap.size w w' := by
  go_enter Try.func4, Try.ntmps4
  go_wp2_with fail
  refine (K1.out _).mono ?_; rintro e w1 ⟨rfl, hb1⟩
  have c0 : w1.cell? ⟨w.heap.size, 0, none⟩ = some (.int .i64 a0) := by rw [hb1.cell (by simp)]; simp [go_sem]
  have c1 : w1.cell? ⟨w.heap.size, 1, none⟩ = some (.int .i64 a1) := by rw [hb1.cell (by simp)]; simp [go_sem]
  have c2 : w1.cell? ⟨w.heap.size, 2, none⟩ = some (.int .i64 a2) := by rw [hb1.cell (by simp)]; simp [go_sem]
  have c3 : w1.cell? ⟨w.heap.size, 3, none⟩ = some (.int .i64 a3) := by rw [hb1.cell (by simp)]; simp [go_sem]
  have c4 : w1.cell? ⟨w.heap.size, 4, none⟩ = some (.int .i64 a4) := by rw [hb1.cell (by simp)]; simp [go_sem]
  have c5 : w1.cell? ⟨w.heap.size, 5, none⟩ = some (.int .i64 a5) := by rw [hb1.cell (by simp)]; simp [go_sem]
  have bW1 : Below w.heap.size w w1 := by
    have hs := hb1.size
    simp only [World.size_alloc] at hs hb1
    exact ((Below.refl _ w).alloc (Nat.le_refl _) _).trans (below_down (by omega) hb1)
  clear hb1
  go_wp2_with fail
  refine (K2.out _).mono ?_; rintro e w2 ⟨rfl, hb2⟩
  have d0 : w2.cell? ⟨w.heap.size, 0, none⟩ = some (.int .i64 a0) := by rw [hb2.cell (block_lt_of_cell c0)]; exact c0
  have d1 : w2.cell? ⟨w.heap.size, 1, none⟩ = some (.int .i64 a1) := by rw [hb2.cell (block_lt_of_cell c1)]; exact c1
  have d2 : w2.cell? ⟨w.heap.size, 2, none⟩ = some (.int .i64 a2) := by rw [hb2.cell (block_lt_of_cell c2)]; exact c2
  have d3 : w2.cell? ⟨w.heap.size, 3, none⟩ = some (.int .i64 a3) := by rw [hb2.cell (block_lt_of_cell c3)]; exact c3
  have d4 : w2.cell? ⟨w.heap.size, 4, none⟩ = some (.int .i64 a4) := by rw [hb2.cell (block_lt_of_cell c4)]; exact c4
  have d5 : w2.cell? ⟨w.heap.size, 5, none⟩ = some (.int .i64 a5) := by rw [hb2.cell (block_lt_of_cell c5)]; exact c5
  have hl1 := bW1.size
  have bW2 : Below w.heap.size w w2 := bW1.trans (below_down hl1 hb2)
  clear c0 c1 c2 c3 c4 c5 bW1 hb2 hl1
  go_wp2
  have z1 : (n0 != n0) = false := by simp
  have z2 : (b0 != b0) = false := by simp
  have z3 : (e0 != e0) = false := by simp
  have z4 : (c != c) = false := by simp
  have k0 := cell_regrown d0
  have k1 := cell_regrown d1
  have k2 := cell_regrown d2
  have k3 := cell_regrown d3
  have k4 := cell_regrown d4
  have k5 := cell_regrown d5
  have cA : ∀ d os, Calls Try.prog 25 #[.agg #[.int .i64 a0, .int .i64 a1, .int .i64 a2, .int .i64 a3, .int .i64 a4, .int .i64 a5]] (grow (redrawn w2 d) os) fun e w'' => e = .returned (.int .i64 c) ∧ ∃ p : Regrown, w'' = grow (redrawn w2 p.d) p.os := fun d os =>
    Calls.regrown_of (Calls.mono (C1.out _) fun e w' h => ⟨h.1, by rw [h.2]; go_grown⟩)
  have cB : ∀ d os, Calls Try.prog 26 #[.agg #[.int .i64 a0, .int .i64 a1, .int .i64 a2, .int .i64 a3, .int .i64 a4, .int .i64 a5]] (grow (redrawn w2 d) os) fun e w'' => e = .returned (.int .i64 c) ∧ ∃ p : Regrown, w'' = grow (redrawn w2 p.d) p.os := fun d os =>
    Calls.regrown_of (Calls.mono (C2.out _) fun e w' h => ⟨h.1, by rw [h.2]; go_grown⟩)
  clear d0 d1 d2 d3 d4 d5
  refine wp_region_quiet_below rfl (by kernel_rfl) ?_
  repeat (quiet_step (first | with_reducible exact cA _ _ | with_reducible exact cB _ _); try simp only [z1, z2, z3, z4])
  refine wpQuiet_nil ?_
  intro _ hw'
  obtain ⟨⟨dq, osq⟩, hw''⟩ := hw'
  subst hw''
  have b3 := below_regrown w2 dq osq
  obtain ⟨X, hX⟩ : ∃ X, X = grow (redrawn w2 dq) osq := ⟨_, rfl⟩
  have x0 := k0 dq osq
  have x1 := k1 dq osq
  have x2 := k2 dq osq
  have x3 := k3 dq osq
  have x4 := k4 dq osq
  have x5 := k5 dq osq
  rw [← hX] at b3 x0 x1 x2 x3 x4 x5
  rw [← hX]
  clear hX cA cB k0 k1 k2 k3 k4 k5 z1 z2 z3 z4
  have hl2 := bW2.size
  have bX : Below w.heap.size w X := bW2.trans ⟨b3.os, b3.tape, b3.output, b3.size, fun k hk => b3.block k (by omega)⟩
  clear b3 bW2 hl2
  go_wp2_with fail
  refine (S1.out _).mono ?_; rintro e w3 ⟨rfl, hb3⟩
  have y0 : w3.cell? ⟨w.heap.size, 0, none⟩ = some (.int .i64 a0) := by rw [hb3.cell (block_lt_of_cell x0)]; exact x0
  have y1 : w3.cell? ⟨w.heap.size, 1, none⟩ = some (.int .i64 a1) := by rw [hb3.cell (block_lt_of_cell x1)]; exact x1
  have y2 : w3.cell? ⟨w.heap.size, 2, none⟩ = some (.int .i64 a2) := by rw [hb3.cell (block_lt_of_cell x2)]; exact x2
  have y3 : w3.cell? ⟨w.heap.size, 3, none⟩ = some (.int .i64 a3) := by rw [hb3.cell (block_lt_of_cell x3)]; exact x3
  have y4 : w3.cell? ⟨w.heap.size, 4, none⟩ = some (.int .i64 a4) := by rw [hb3.cell (block_lt_of_cell x4)]; exact x4
  have y5 : w3.cell? ⟨w.heap.size, 5, none⟩ = some (.int .i64 a5) := by rw [hb3.cell (block_lt_of_cell x5)]; exact x5
  have hlX := bX.size
  have bW3 : Below w.heap.size w w3 := bX.trans (below_down hlX hb3)
  have h3 : w.heap.size < w3.heap.size := block_lt_of_cell y0
  clear x0 x1 x2 x3 x4 x5 bX hb3 hlX
  go_wp2_with fail
  refine (S2.out _).mono ?_; rintro e w4 ⟨rfl, hb4⟩
  have p0 : w4.cell? ⟨w3.heap.size, 0, none⟩ = some (.int .i64 lo) := by rw [hb4.cell (by simp)]; simp [go_sem]
  have p1 : w4.cell? ⟨w3.heap.size, 1, none⟩ = some (.int .i64 hi) := by rw [hb4.cell (by simp)]; simp [go_sem]
  have bW4 : Below w.heap.size w w4 := by
    have hs := hb4.size
    simp only [World.size_alloc] at hs hb4
    exact (bW3.alloc (Nat.le_of_lt h3) _).trans (below_down (by omega) hb4)
  have h4 : w.heap.size < w4.heap.size := Nat.lt_trans h3 (block_lt_of_cell p0)
  have h34 : w3.heap.size < w4.heap.size := block_lt_of_cell p0
  clear y0 y1 y2 y3 y4 y5 bW3 hb4
  have u1 : (lo == lo) = true := by simp
  have u2 : (hi == hi) = true := by simp
  have u3 : (e1 == e1) = true := by simp
  go_wp2_with fail
  refine (awake_sh _).mono ?_; rintro e w5 ⟨rfl, hb5⟩
  go_wp2
  go_ret
  refine ⟨rfl, ?_⟩
  have hs := hb5.size
  simp only [World.size_alloc] at hs hb5
  exact (bW4.alloc (Nat.le_of_lt h4) _).trans (below_down (by omega) hb5)

/-- What Safe answers, as three numbers. -/
theorem safeIs_nums (f : Int → Bool) : ∃ lo hi e1 : Int, ∀ w e w', SafeIs f w e w' → e = .returned (.tuple #[.agg #[.int .i64 lo, .int .i64 hi], .int .i64 e1]) ∧ Below w.heap.size w w' := by
  by_cases h : (spanOf (upS f 1001)).1 > (spanOf (upS f 1001)).2
  · exact ⟨0, 0, 9, fun w e w' k => by unfold SafeIs at k; rw [if_pos h] at k; exact k⟩
  · exact ⟨_, _, 0, fun w e w' k => by unfold SafeIs at k; rw [if_neg h] at k; exact k⟩

theorem shifts_walk (a0 a1 a2 a3 a4 a5 T : Int) (w : World) :
    Calls Try.prog 4 #[.agg #[.int .i64 a0, .int .i64 a1, .int .i64 a2, .int .i64 a3, .int .i64 a4, .int .i64 a5], .int .i64 T] w fun e w' => e = .returned (.bool true) ∧ Below w.heap.size w w' := by
  by_cases h : OkLine a0 a1 a2 a3 a4 a5
  · obtain ⟨lo, hi, e1, hs⟩ := safeIs_nums (safeAt a0 a1 a2 a3 a4 a5)
    have S1 := fun w => (safe_ok _ a0 a1 a2 a3 a4 a5 h (Lib.hid fun T h1 h2 => isSafe_ok a0 a1 a2 a3 a4 a5 T h ⟨h1, h2⟩) w).mono fun e w' => hs w e w'
    have S2 := fun w => (rSafe_ok _ a0 a1 a2 a3 a4 a5 h (Lib.hid fun T h1 h2 => rsafe_ok a0 a1 a2 a3 a4 a5 T h ⟨h1, h2⟩) w).mono fun e w' => hs w e w'
    by_cases hT : -500 ≤ T ∧ T ≤ 1000
    · exact shifts_of a0 a1 a2 a3 a4 a5 T _ _ 0 lo hi e1 _ (Lib.hid (shift_ok a0 a1 a2 a3 a4 a5 T h hT)) (Lib.hid (rshift_ok a0 a1 a2 a3 a4 a5 T h hT)) (Lib.hid (check_ok a0 a1 a2 a3 a4 a5 h)) (Lib.hid (rcheck_ok a0 a1 a2 a3 a4 a5 h)) (Lib.hid S1) (Lib.hid S2) w
    · exact shifts_of a0 a1 a2 a3 a4 a5 T _ _ 0 lo hi e1 _ (Lib.hid (shift_far a0 a1 a2 a3 a4 a5 T h hT)) (Lib.hid (rshift_far a0 a1 a2 a3 a4 a5 T h hT)) (Lib.hid (check_ok a0 a1 a2 a3 a4 a5 h)) (Lib.hid (rcheck_ok a0 a1 a2 a3 a4 a5 h)) (Lib.hid S1) (Lib.hid S2) w
  · exact shifts_of a0 a1 a2 a3 a4 a5 T _ _ 7 0 0 7 _ (Lib.hid (shift_bad a0 a1 a2 a3 a4 a5 T h)) (Lib.hid (rshift_bad a0 a1 a2 a3 a4 a5 T h)) (Lib.hid (check_bad a0 a1 a2 a3 a4 a5 h)) (Lib.hid (rcheck_bad a0 a1 a2 a3 a4 a5 h)) (Lib.hid (safe_bad a0 a1 a2 a3 a4 a5 h)) (Lib.hid (rSafe_bad a0 a1 a2 a3 a4 a5 h)) w
end Go.Proofs.Ytplipfcnjmgicaa
