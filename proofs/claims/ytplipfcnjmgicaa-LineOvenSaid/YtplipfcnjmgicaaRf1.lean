/-
  CONTRACTS OF THE REFERENCE: in, Check, Temp. No statement is proved here.
-/
import Derived.Test.YtplipfcnjmgicaaWk1
namespace Go.Proofs.Ytplipfcnjmgicaa
open Go.RowKit
set_option linter.unusedVariables false
set_option linter.unusedSimpArgs false

theorem rin_any (x lo hi : Int) (w : World) : Calls Try.prog 55 #[.int .i64 x, .int .i64 lo, .int .i64 hi] w fun e w' => e = .returned (.bool (decide (lo ≤ x) && decide (x ≤ hi))) ∧ w' = w := by
  by_cases h : lo ≤ x
  · go_enter Try.func55, Try.ntmps55
    go_wp2
    go_ret
    simp [h]
  · go_enter Try.func55, Try.ntmps55
    go_wp2
    go_ret
    refine ⟨?_, rfl⟩
    simp [h]
    try (intro h1; omega)
theorem rin_t (x lo hi : Int) (h : lo ≤ x ∧ x ≤ hi) (w : World) : Calls Try.prog 55 #[.int .i64 x, .int .i64 lo, .int .i64 hi] w fun e w' => e = .returned (.bool true) ∧ w' = w :=
  Calls.mono (rin_any x lo hi w) fun e w' h' => by rw [h'.1]; simp [h.1, h.2, h'.2]
theorem rin_f (x lo hi : Int) (h : ¬ (lo ≤ x ∧ x ≤ hi)) (w : World) : Calls Try.prog 55 #[.int .i64 x, .int .i64 lo, .int .i64 hi] w fun e w' => e = .returned (.bool false) ∧ w' = w :=
  Calls.mono (rin_any x lo hi w) fun e w' h' => by
    refine ⟨?_, h'.2⟩
    rw [h'.1]
    have : (decide (lo ≤ x) && decide (x ≤ hi)) = false := by simp; omega
    rw [this]

theorem rcheck_ok (a0 a1 a2 a3 a4 a5 : Int) (h : OkLine a0 a1 a2 a3 a4 a5) (w : World) :
    Calls Try.prog 26 #[.agg #[.int .i64 a0, .int .i64 a1, .int .i64 a2, .int .i64 a3, .int .i64 a4, .int .i64 a5]] w fun e w' => e = .returned (.int .i64 0) ∧ w' = w.alloc (.cells #[.int .i64 a0, .int .i64 a1, .int .i64 a2, .int .i64 a3, .int .i64 a4, .int .i64 a5] 25) := by
  obtain ⟨h0, h1, h2, h3, h4, h5⟩ := h
  have hw : wrap64 (a2 - 1) = a2 - 1 := wrap_in (by omega) (by omega)
  go_enter Try.func26, Try.ntmps26
  go_wp2_with fail
  refine (rin_t a0 1 64 h0 _).mono ?_; rintro e w' ⟨rfl, rfl⟩
  go_wp2_with fail
  refine (rin_t a1 1 40 h1 _).mono ?_; rintro e w' ⟨rfl, rfl⟩
  go_wp2_with fail
  refine (rin_t a2 2 100000 h2 _).mono ?_; rintro e w' ⟨rfl, rfl⟩
  go_wp2_with fail
  refine (rin_t a3 0 1000000000 h3 _).mono ?_; rintro e w' ⟨rfl, rfl⟩
  go_wp2_with fail
  refine (rin_t a4 (-100000) 100000 h4 _).mono ?_; rintro e w' ⟨rfl, rfl⟩
  go_wp2_with fail
  refine (rin_t a5 0 ((a2 - 1) / 2) h5 _).mono ?_; rintro e w' ⟨rfl, rfl⟩
  go_wp2
  go_ret
  exact ⟨rfl, rfl⟩

set_option maxHeartbeats 4000000 in
theorem rcheck_bad (a0 a1 a2 a3 a4 a5 : Int) (h : ¬ OkLine a0 a1 a2 a3 a4 a5) (w : World) :
    Calls Try.prog 26 #[.agg #[.int .i64 a0, .int .i64 a1, .int .i64 a2, .int .i64 a3, .int .i64 a4, .int .i64 a5]] w fun e w' => e = .returned (.int .i64 7) ∧ w' = w.alloc (.cells #[.int .i64 a0, .int .i64 a1, .int .i64 a2, .int .i64 a3, .int .i64 a4, .int .i64 a5] 25) := by
  by_cases h0 : 1 ≤ a0 ∧ a0 ≤ 64
  · by_cases h1 : 1 ≤ a1 ∧ a1 ≤ 40
    · by_cases h2 : 2 ≤ a2 ∧ a2 ≤ 100000
      · have hw : wrap64 (a2 - 1) = a2 - 1 := wrap_in (by omega) (by omega)
        by_cases h3 : 0 ≤ a3 ∧ a3 ≤ 1000000000
        · by_cases h4 : -100000 ≤ a4 ∧ a4 ≤ 100000
          · by_cases h5 : 0 ≤ a5 ∧ a5 ≤ (a2 - 1) / 2
            · exact absurd ⟨h0, h1, h2, h3, h4, h5⟩ h
            · clear h
              go_enter Try.func26, Try.ntmps26
              go_wp2_with fail
              refine (rin_t a0 1 64 h0 _).mono ?_; rintro e w' ⟨rfl, rfl⟩
              go_wp2_with fail
              refine (rin_t a1 1 40 h1 _).mono ?_; rintro e w' ⟨rfl, rfl⟩
              go_wp2_with fail
              refine (rin_t a2 2 100000 h2 _).mono ?_; rintro e w' ⟨rfl, rfl⟩
              go_wp2_with fail
              refine (rin_t a3 0 1000000000 h3 _).mono ?_; rintro e w' ⟨rfl, rfl⟩
              go_wp2_with fail
              refine (rin_t a4 (-100000) 100000 h4 _).mono ?_; rintro e w' ⟨rfl, rfl⟩
              go_wp2_with fail
              refine (rin_f a5 0 ((a2 - 1) / 2) h5 _).mono ?_; rintro e w' ⟨rfl, rfl⟩
              go_wp2
              go_ret
              exact ⟨rfl, rfl⟩
          · clear h
            go_enter Try.func26, Try.ntmps26
            go_wp2_with fail
            refine (rin_t a0 1 64 h0 _).mono ?_; rintro e w' ⟨rfl, rfl⟩
            go_wp2_with fail
            refine (rin_t a1 1 40 h1 _).mono ?_; rintro e w' ⟨rfl, rfl⟩
            go_wp2_with fail
            refine (rin_t a2 2 100000 h2 _).mono ?_; rintro e w' ⟨rfl, rfl⟩
            go_wp2_with fail
            refine (rin_t a3 0 1000000000 h3 _).mono ?_; rintro e w' ⟨rfl, rfl⟩
            go_wp2_with fail
            refine (rin_f a4 (-100000) 100000 h4 _).mono ?_; rintro e w' ⟨rfl, rfl⟩
            go_wp2
            go_ret
            exact ⟨rfl, rfl⟩
        · clear h
          go_enter Try.func26, Try.ntmps26
          go_wp2_with fail
          refine (rin_t a0 1 64 h0 _).mono ?_; rintro e w' ⟨rfl, rfl⟩
          go_wp2_with fail
          refine (rin_t a1 1 40 h1 _).mono ?_; rintro e w' ⟨rfl, rfl⟩
          go_wp2_with fail
          refine (rin_t a2 2 100000 h2 _).mono ?_; rintro e w' ⟨rfl, rfl⟩
          go_wp2_with fail
          refine (rin_f a3 0 1000000000 h3 _).mono ?_; rintro e w' ⟨rfl, rfl⟩
          go_wp2
          go_ret
          exact ⟨rfl, rfl⟩
      · clear h
        go_enter Try.func26, Try.ntmps26
        go_wp2_with fail
        refine (rin_t a0 1 64 h0 _).mono ?_; rintro e w' ⟨rfl, rfl⟩
        go_wp2_with fail
        refine (rin_t a1 1 40 h1 _).mono ?_; rintro e w' ⟨rfl, rfl⟩
        go_wp2_with fail
        refine (rin_f a2 2 100000 h2 _).mono ?_; rintro e w' ⟨rfl, rfl⟩
        go_wp2
        go_ret
        exact ⟨rfl, rfl⟩
    · clear h
      go_enter Try.func26, Try.ntmps26
      go_wp2_with fail
      refine (rin_t a0 1 64 h0 _).mono ?_; rintro e w' ⟨rfl, rfl⟩
      go_wp2_with fail
      refine (rin_f a1 1 40 h1 _).mono ?_; rintro e w' ⟨rfl, rfl⟩
      go_wp2
      go_ret
      exact ⟨rfl, rfl⟩
  · clear h
    go_enter Try.func26, Try.ntmps26
    go_wp2_with fail
    refine (rin_f a0 1 64 h0 _).mono ?_; rintro e w' ⟨rfl, rfl⟩
    go_wp2
    go_ret
    exact ⟨rfl, rfl⟩

theorem rtemp_any (x : Int) (w : World) : Calls Try.prog 47 #[.int .i64 x] w fun e w' => e = .returned (.bool (decide (-500 ≤ x) && decide (x ≤ 1000))) ∧ w' = w := by
  go_enter Try.func47, Try.ntmps47
  go_wp2_with fail
  refine (rin_any x (-500) 1000 _).mono ?_; rintro e w' ⟨rfl, rfl⟩
  go_wp2
  go_ret
  exact ⟨rfl, rfl⟩
theorem temp_any (x : Int) (w : World) : Calls Try.prog 56 #[.int .i64 x] w fun e w' => e = .returned (.bool (decide (-500 ≤ x) && decide (x ≤ 1000))) ∧ w' = w := by
  go_enter Try.func56, Try.ntmps56
  go_wp2_with fail
  refine (within_any x (-500) 1000 _).mono ?_; rintro e w' ⟨rfl, rfl⟩
  go_wp2
  go_ret
  exact ⟨rfl, rfl⟩
end Go.Proofs.Ytplipfcnjmgicaa
