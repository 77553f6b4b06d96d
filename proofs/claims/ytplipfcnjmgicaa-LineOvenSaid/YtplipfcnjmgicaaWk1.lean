/-
  CONTRACTS OF SMALL FUNCTIONS OF A LINE: within, modulo, beats, Check. No statement is proved here.
-/
import Derived.Test.YtplipfcnjmgicaaRows
import Derived.WalkKit
import Derived.WalkSpells
import Derived.ProofKit
import Derived.OpenShut
import Derived.Below
import Derived.Handy
namespace Go.Proofs.Ytplipfcnjmgicaa
open Go.RowKit
set_option linter.unusedVariables false
set_option linter.unusedSimpArgs false

theorem within_any (x lo hi : Int) (w : World) : Calls Try.prog 59 #[.int .i64 x, .int .i64 lo, .int .i64 hi] w fun e w' => e = .returned (.bool (decide (lo ≤ x) && decide (x ≤ hi))) ∧ w' = w := by
  by_cases h : lo ≤ x
  · go_enter Try.func59, Try.ntmps59
    go_wp2
    go_ret
    simp [h]
  · go_enter Try.func59, Try.ntmps59
    go_wp2
    go_ret
    refine ⟨?_, rfl⟩
    simp [h]
    intro h1
    omega
theorem within_t (x lo hi : Int) (h : lo ≤ x ∧ x ≤ hi) (w : World) : Calls Try.prog 59 #[.int .i64 x, .int .i64 lo, .int .i64 hi] w fun e w' => e = .returned (.bool true) ∧ w' = w :=
  Calls.mono (within_any x lo hi w) fun e w' h' => by rw [h'.1]; simp [h.1, h.2, h'.2]
theorem within_f (x lo hi : Int) (h : ¬ (lo ≤ x ∧ x ≤ hi)) (w : World) : Calls Try.prog 59 #[.int .i64 x, .int .i64 lo, .int .i64 hi] w fun e w' => e = .returned (.bool false) ∧ w' = w :=
  Calls.mono (within_any x lo hi w) fun e w' h' => by
    refine ⟨?_, h'.2⟩
    rw [h'.1]
    have : (decide (lo ≤ x) && decide (x ≤ hi)) = false := by simp; omega
    rw [this]

theorem emod_of_tmod {x n : Int} (hn : 0 < n) : x % n = if x.tmod n < 0 then x.tmod n + n else x.tmod n := by
  have h0 := Int.emod_nonneg x (by omega : n ≠ 0)
  have h1 := Int.emod_lt_of_pos x hn
  have h2 := Int.tmod_eq_emod (a := x) (b := n)
  have h3 : (n.natAbs : Int) = n := Int.natAbs_of_nonneg (by omega)
  by_cases hc : 0 ≤ x ∨ n ∣ x
  · rw [if_pos hc] at h2
    have h4 : x.tmod n = x % n := by simpa using h2
    rw [if_neg (by omega)]
    omega
  · rw [if_neg hc, h3] at h2
    rw [if_pos (by omega)]
    omega

theorem wrap_in {x : Int} (h1 : -9223372036854775808 ≤ x) (h2 : x ≤ 9223372036854775807) : wrap64 x = x := by unfold wrap64; omega

theorem modulo_any (x n : Int) (hn : 0 < n) (hn2 : n < 9223372036854775808) (w : World) :
    Calls Try.prog 74 #[.int .i64 x, .int .i64 n] w fun e w' => e = .returned (.int .i64 (x % n)) ∧ w' = w := by
  have hz : (n == 0) = false := by simp; omega
  have hm := emod_of_tmod (x := x) hn
  have h0 := Int.emod_nonneg x (by omega : n ≠ 0)
  have h1 := Int.emod_lt_of_pos x hn
  by_cases h : x.tmod n < 0
  · rw [if_pos h] at hm
    have hw : wrap64 (x.tmod n + n) = x % n := by rw [← hm]; exact wrap_in (by omega) (by omega)
    have HW : Hid (wrap64 (x.tmod n + n) = x % n) := hw
    clear hw hm h0 h1
    go_enter Try.func74, Try.ntmps74
    go_wp2
    go_ret
    exact ⟨by show Ending.returned (.int .i64 (wrap64 (x.tmod n + n))) = _; rw [HW.out], rfl⟩
  · rw [if_neg h] at hm
    have HM : Hid (x % n = x.tmod n) := hm
    clear hm h0 h1
    go_enter Try.func74, Try.ntmps74
    go_wp2
    go_ret
    exact ⟨by rw [HM.out]; rfl, rfl⟩

theorem mul_bound {a b : Int} (h : (1 ≤ a ∧ a ≤ 64) ∧ 1 ≤ b ∧ b ≤ 40) : 1 ≤ a * b ∧ a * b ≤ 2560 := by
  obtain ⟨⟨h1, h2⟩, h3, h4⟩ := h
  constructor
  · have := Int.mul_le_mul h1 h3 (by omega) (by omega : (0 : Int) ≤ a)
    omega
  · have := Int.mul_le_mul h2 h4 (by omega : (0 : Int) ≤ b) (by omega)
    omega

def lnv (a0 a1 a2 a3 a4 a5 : Int) : Array Value := #[.int .i64 a0, .int .i64 a1, .int .i64 a2, .int .i64 a3, .int .i64 a4, .int .i64 a5]

theorem beats_any (a0 a1 a2 a3 a4 a5 : Int) (h : (1 ≤ a0 ∧ a0 ≤ 64) ∧ 1 ≤ a1 ∧ a1 ≤ 40) (w : World) :
    Calls Try.prog 70 #[.agg #[.int .i64 a0, .int .i64 a1, .int .i64 a2, .int .i64 a3, .int .i64 a4, .int .i64 a5]] w fun e w' => e = .returned (.int .i64 (a0 * a1)) ∧ w' = w.alloc (.cells #[.int .i64 a0, .int .i64 a1, .int .i64 a2, .int .i64 a3, .int .i64 a4, .int .i64 a5] 25) := by
  have hb := mul_bound h
  have HW : Hid (wrap64 (a0 * a1) = a0 * a1) := wrap_in (by omega) (by omega)
  clear hb
  go_enter Try.func70, Try.ntmps70
  go_wp2
  go_ret
  exact ⟨by show Ending.returned (.int .i64 (wrap64 (a0 * a1))) = _; rw [HW.out], rfl⟩

/-- A line that Check takes. -/
structure OkLine (a0 a1 a2 a3 a4 a5 : Int) : Prop where
  h0 : 1 ≤ a0 ∧ a0 ≤ 64
  h1 : 1 ≤ a1 ∧ a1 ≤ 40
  h2 : 2 ≤ a2 ∧ a2 ≤ 100000
  h3 : 0 ≤ a3 ∧ a3 ≤ 1000000000
  h4 : -100000 ≤ a4 ∧ a4 ≤ 100000
  h5 : 0 ≤ a5 ∧ a5 ≤ (a2 - 1) / 2

theorem check_ok (a0 a1 a2 a3 a4 a5 : Int) (h : OkLine a0 a1 a2 a3 a4 a5) (w : World) :
    Calls Try.prog 25 #[.agg #[.int .i64 a0, .int .i64 a1, .int .i64 a2, .int .i64 a3, .int .i64 a4, .int .i64 a5]] w fun e w' => e = .returned (.int .i64 0) ∧ w' = w.alloc (.cells #[.int .i64 a0, .int .i64 a1, .int .i64 a2, .int .i64 a3, .int .i64 a4, .int .i64 a5] 25) := by
  obtain ⟨h0, h1, h2, h3, h4, h5⟩ := h
  have hw : wrap64 (a2 - 1) = a2 - 1 := wrap_in (by omega) (by omega)
  go_enter Try.func25, Try.ntmps25
  go_wp2_with fail
  refine (within_t a0 1 64 h0 _).mono ?_; rintro e w' ⟨rfl, rfl⟩
  go_wp2_with fail
  refine (within_t a1 1 40 h1 _).mono ?_; rintro e w' ⟨rfl, rfl⟩
  go_wp2_with fail
  refine (within_t a2 2 100000 h2 _).mono ?_; rintro e w' ⟨rfl, rfl⟩
  go_wp2_with fail
  refine (within_t a3 0 1000000000 h3 _).mono ?_; rintro e w' ⟨rfl, rfl⟩
  go_wp2_with fail
  refine (within_t a4 (-100000) 100000 h4 _).mono ?_; rintro e w' ⟨rfl, rfl⟩
  go_wp2_with fail
  refine (within_t a5 0 ((a2 - 1) / 2) h5 _).mono ?_; rintro e w' ⟨rfl, rfl⟩
  go_wp2
  go_ret
  exact ⟨rfl, rfl⟩

set_option maxHeartbeats 4000000 in
theorem check_bad (a0 a1 a2 a3 a4 a5 : Int) (h : ¬ OkLine a0 a1 a2 a3 a4 a5) (w : World) :
    Calls Try.prog 25 #[.agg #[.int .i64 a0, .int .i64 a1, .int .i64 a2, .int .i64 a3, .int .i64 a4, .int .i64 a5]] w fun e w' => e = .returned (.int .i64 7) ∧ w' = w.alloc (.cells #[.int .i64 a0, .int .i64 a1, .int .i64 a2, .int .i64 a3, .int .i64 a4, .int .i64 a5] 25) := by
  by_cases h0 : 1 ≤ a0 ∧ a0 ≤ 64
  · by_cases h1 : 1 ≤ a1 ∧ a1 ≤ 40
    · by_cases h2 : 2 ≤ a2 ∧ a2 ≤ 100000
      · have hw : wrap64 (a2 - 1) = a2 - 1 := wrap_in (by omega) (by omega)
        by_cases h3 : 0 ≤ a3 ∧ a3 ≤ 1000000000
        · by_cases h4 : -100000 ≤ a4 ∧ a4 ≤ 100000
          · by_cases h5 : 0 ≤ a5 ∧ a5 ≤ (a2 - 1) / 2
            · exact absurd ⟨h0, h1, h2, h3, h4, h5⟩ h
            · clear h
              go_enter Try.func25, Try.ntmps25
              go_wp2_with fail
              refine (within_t a0 1 64 h0 _).mono ?_; rintro e w' ⟨rfl, rfl⟩
              go_wp2_with fail
              refine (within_t a1 1 40 h1 _).mono ?_; rintro e w' ⟨rfl, rfl⟩
              go_wp2_with fail
              refine (within_t a2 2 100000 h2 _).mono ?_; rintro e w' ⟨rfl, rfl⟩
              go_wp2_with fail
              refine (within_t a3 0 1000000000 h3 _).mono ?_; rintro e w' ⟨rfl, rfl⟩
              go_wp2_with fail
              refine (within_t a4 (-100000) 100000 h4 _).mono ?_; rintro e w' ⟨rfl, rfl⟩
              go_wp2_with fail
              refine (within_f a5 0 ((a2 - 1) / 2) h5 _).mono ?_; rintro e w' ⟨rfl, rfl⟩
              go_wp2
              go_ret
              exact ⟨rfl, rfl⟩
          · clear h
            go_enter Try.func25, Try.ntmps25
            go_wp2_with fail
            refine (within_t a0 1 64 h0 _).mono ?_; rintro e w' ⟨rfl, rfl⟩
            go_wp2_with fail
            refine (within_t a1 1 40 h1 _).mono ?_; rintro e w' ⟨rfl, rfl⟩
            go_wp2_with fail
            refine (within_t a2 2 100000 h2 _).mono ?_; rintro e w' ⟨rfl, rfl⟩
            go_wp2_with fail
            refine (within_t a3 0 1000000000 h3 _).mono ?_; rintro e w' ⟨rfl, rfl⟩
            go_wp2_with fail
            refine (within_f a4 (-100000) 100000 h4 _).mono ?_; rintro e w' ⟨rfl, rfl⟩
            go_wp2
            go_ret
            exact ⟨rfl, rfl⟩
        · clear h
          go_enter Try.func25, Try.ntmps25
          go_wp2_with fail
          refine (within_t a0 1 64 h0 _).mono ?_; rintro e w' ⟨rfl, rfl⟩
          go_wp2_with fail
          refine (within_t a1 1 40 h1 _).mono ?_; rintro e w' ⟨rfl, rfl⟩
          go_wp2_with fail
          refine (within_t a2 2 100000 h2 _).mono ?_; rintro e w' ⟨rfl, rfl⟩
          go_wp2_with fail
          refine (within_f a3 0 1000000000 h3 _).mono ?_; rintro e w' ⟨rfl, rfl⟩
          go_wp2
          go_ret
          exact ⟨rfl, rfl⟩
      · clear h
        go_enter Try.func25, Try.ntmps25
        go_wp2_with fail
        refine (within_t a0 1 64 h0 _).mono ?_; rintro e w' ⟨rfl, rfl⟩
        go_wp2_with fail
        refine (within_t a1 1 40 h1 _).mono ?_; rintro e w' ⟨rfl, rfl⟩
        go_wp2_with fail
        refine (within_f a2 2 100000 h2 _).mono ?_; rintro e w' ⟨rfl, rfl⟩
        go_wp2
        go_ret
        exact ⟨rfl, rfl⟩
    · clear h
      go_enter Try.func25, Try.ntmps25
      go_wp2_with fail
      refine (within_t a0 1 64 h0 _).mono ?_; rintro e w' ⟨rfl, rfl⟩
      go_wp2_with fail
      refine (within_f a1 1 40 h1 _).mono ?_; rintro e w' ⟨rfl, rfl⟩
      go_wp2
      go_ret
      exact ⟨rfl, rfl⟩
  · clear h
    go_enter Try.func25, Try.ntmps25
    go_wp2_with fail
    refine (within_f a0 1 64 h0 _).mono ?_; rintro e w' ⟨rfl, rfl⟩
    go_wp2
    go_ret
    exact ⟨rfl, rfl⟩

end Go.Proofs.Ytplipfcnjmgicaa
