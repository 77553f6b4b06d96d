/-
  CONTRACTS OF THE REFERENCE: Next. No statement is proved here.
-/
import Derived.Test.YtplipfcnjmgicaaRf1
import Derived.Test.YtplipfcnjmgicaaWk5
import Derived.BigQuiet
import Derived.Lib.QuietBelow
import Derived.Lib.Hide
namespace Go.Proofs.Ytplipfcnjmgicaa
open Go.RowKit Go.Sort
set_option linter.unusedVariables false
set_option linter.unusedSimpArgs false

theorem next_not {t q m n : Int} (hm : 0 < m) (h1 : t + 1 ≤ n) (h2 : n < t + 1 + (q - (t + 1)) % m) : n % m ≠ q := by
  intro h
  have h3 := Int.emod_lt_of_pos (q - (t + 1)) hm
  have h4 : (q - (t + 1)) % m = (n - (t + 1)) % m := by rw [← h, Int.emod_sub_emod]
  have h5 := Int.emod_eq_of_lt (a := n - (t + 1)) (b := m) (by omega) (by omega)
  omega

set_option maxHeartbeats 2000000 in
theorem rnext_bad (a0 a1 a2 a3 a4 a5 p t : Int) (h : ¬ OkLine a0 a1 a2 a3 a4 a5) (w : World) :
    Calls Try.prog 35 #[.agg #[.int .i64 a0, .int .i64 a1, .int .i64 a2, .int .i64 a3, .int .i64 a4, .int .i64 a5], .int .i64 p, .int .i64 t] w fun e w' => e = .returned (.tuple #[.int .i64 0, .int .i64 7]) ∧ Below w.heap.size w w' := by
  go_enter Try.func35, Try.ntmps35
  go_wp2_with fail
  refine (rcheck_bad a0 a1 a2 a3 a4 a5 h _).mono ?_; rintro e w' ⟨rfl, rfl⟩
  go_wp2
  go_returns
  exact ⟨rfl, by go_grown⟩

set_option maxHeartbeats 2000000 in
theorem rnext_far (a0 a1 a2 a3 a4 a5 p t : Int) (h : OkLine a0 a1 a2 a3 a4 a5) (hpt : ¬ ((0 ≤ p ∧ p ≤ a0 - 1) ∧ 0 ≤ t ∧ t ≤ 1000000000)) (w : World) :
    Calls Try.prog 35 #[.agg #[.int .i64 a0, .int .i64 a1, .int .i64 a2, .int .i64 a3, .int .i64 a4, .int .i64 a5], .int .i64 p, .int .i64 t] w fun e w' => e = .returned (.tuple #[.int .i64 0, .int .i64 7]) ∧ Below w.heap.size w w' := by
  have g0 := h.h0
  have g1 := h.h1
  by_cases hp : 0 ≤ p ∧ p ≤ a0 - 1
  · have ht : ¬ (0 ≤ t ∧ t ≤ 1000000000) := fun ht => hpt ⟨hp, ht⟩
    clear hpt
    go_enter Try.func35, Try.ntmps35
    go_wp2_with fail
    refine (rcheck_ok a0 a1 a2 a3 a4 a5 h _).mono ?_; rintro e w' ⟨rfl, rfl⟩
    go_wp2_with fail
    refine (rin_t p 0 (a0 - 1) hp _).mono ?_; rintro e w' ⟨rfl, rfl⟩
    go_wp2_with fail
    refine (rin_f t 0 1000000000 ht _).mono ?_; rintro e w' ⟨rfl, rfl⟩
    go_wp2
    go_returns
    exact ⟨rfl, by go_grown⟩
  · clear hpt
    go_enter Try.func35, Try.ntmps35
    go_wp2_with fail
    refine (rcheck_ok a0 a1 a2 a3 a4 a5 h _).mono ?_; rintro e w' ⟨rfl, rfl⟩
    go_wp2_with fail
    refine (rin_f p 0 (a0 - 1) hp _).mono ?_; rintro e w' ⟨rfl, rfl⟩
    go_wp2
    go_returns
    exact ⟨rfl, by go_grown⟩

set_option maxHeartbeats 2000000 in
theorem rnext_ok (a0 a1 a2 a3 a4 a5 p t : Int) (h : OkLine a0 a1 a2 a3 a4 a5) (hp : 0 ≤ p ∧ p ≤ a0 - 1) (ht : 0 ≤ t ∧ t ≤ 1000000000) (w : World) :
    Calls Try.prog 35 #[.agg #[.int .i64 a0, .int .i64 a1, .int .i64 a2, .int .i64 a3, .int .i64 a4, .int .i64 a5], .int .i64 p, .int .i64 t] w fun e w' => e = .returned (.tuple #[.int .i64 (t + 1 + (p * a1 - (t + 1)) % (a0 * a1)), .int .i64 0]) ∧ Below w.heap.size w w' := by
  have g0 := h.h0
  have g1 := h.h1
  have q2 := mul_bound ⟨g0, g1⟩
  have q1 : 0 ≤ p * a1 ∧ p * a1 < a0 * a1 := by
    constructor
    · exact Int.mul_nonneg hp.1 (by omega)
    · exact Int.mul_lt_mul_of_pos_right (by omega) (by omega)
  obtain ⟨N, hN⟩ : ∃ N, N = t + 1 + (p * a1 - (t + 1)) % (a0 * a1) := ⟨_, rfl⟩
  have n1 := next_range (t := t) (q := p * a1) (m := a0 * a1) (by omega)
  have n2 := next_emod (t := t) q1
  rw [← hN] at n1 n2
  rw [← hN]
  have N2 : Hid (N % (a0 * a1) = p * a1) := n2
  have NN : Hid (∀ n, t + 1 ≤ n → n < N → n % (a0 * a1) ≠ p * a1) := fun n h1 h2 => next_not (by omega) h1 (by rw [← hN]; exact h2)
  clear n2 hN
  go_enter Try.func35, Try.ntmps35
  go_wp2_with fail
  refine (rcheck_ok a0 a1 a2 a3 a4 a5 h _).mono ?_; rintro e w' ⟨rfl, rfl⟩
  go_wp2_with fail
  refine (rin_t p 0 (a0 - 1) hp _).mono ?_; rintro e w' ⟨rfl, rfl⟩
  go_wp2_with fail
  refine (rin_t t 0 1000000000 ht _).mono ?_; rintro e w' ⟨rfl, rfl⟩
  go_wp2_with fail
  generalize hW : ((w.alloc (.cells #[.int .i64 a0, .int .i64 a1, .int .i64 a2, .int .i64 a3, .int .i64 a4, .int .i64 a5] 25)).alloc (.cells #[.int .i64 a0, .int .i64 a1, .int .i64 a2, .int .i64 a3, .int .i64 a4, .int .i64 a5] 25)) = W
  have bW : Below w.heap.size w W := by rw [← hW]; clear hW; go_grown
  have c0 : W.cell? ⟨w.heap.size, 0, none⟩ = some (.int .i64 a0) := by rw [← hW]; clear hW; simp [go_sem]
  have c1 : W.cell? ⟨w.heap.size, 1, none⟩ = some (.int .i64 a1) := by rw [← hW]; clear hW; simp [go_sem]
  clear hW
  go_loopw [9] (fun v U => ∃ n : Int, v = .int .i64 n ∧ t + 1 ≤ n ∧ n ≤ N ∧ U.cell? ⟨w.heap.size, 0, none⟩ = some (.int .i64 a0) ∧ U.cell? ⟨w.heap.size, 1, none⟩ = some (.int .i64 a1) ∧ Below w.heap.size w U) (fun v U => (N - intOf v).toNat)
  case atStart => exact ⟨t + 1, rfl, by omega, by omega, c0, c1, bW⟩
  case round =>
    clear c0 c1 bW
    obtain ⟨n, rfl, hn1, hn2, c0, c1, bU⟩ := hrel
    obtain ⟨r, hr⟩ : ∃ r, r = n % (a0 * a1) := ⟨_, rfl⟩
    have hz : (a0 * a1 == 0) = false := by simp; omega
    have hmod2 : n % (a0 * a1) = r := hr.symm
    have hmod : n.tmod (a0 * a1) = r := by rw [Int.tmod_eq_emod_of_nonneg (by omega), hmod2]
    have wp1 : IntKind.i64.wrap (p * a1) = p * a1 := by rw [IntKind.wrap_i64]; omega
    have wp2 : wrap64 (p * a1) = p * a1 := wrap_in (by omega) (by omega)
    have wm : wrap64 (a0 * a1) = a0 * a1 := wrap_in (by omega) (by omega)
    by_cases hlt : n < N
    · have ne : (r != p * a1) = true := by rw [hr]; simpa using NN.out n hn1 hlt
      clear hr
      go_wp2
      go_quiet (fail)
      clear hmod hmod2 wp1 wp2 wm ne hz
      go_wp2
      go_roundw
      case rel => exact ⟨n + 1, rfl, by omega, by omega, c0, c1, bU.trans ⟨rfl, rfl, rfl, Nat.le_refl _, fun _ _ => rfl⟩⟩
      case measure => simp [intOf]; omega
    · obtain rfl : n = N := by omega
      have ne : (r != p * a1) = false := by rw [hr]; simpa using N2.out
      clear hr
      go_wp2
      go_quiet (fail)
      clear hmod hmod2 wp1 wp2 wm ne hz
      go_wp2
      go_returns
      exact ⟨rfl, bU.trans ⟨rfl, rfl, rfl, Nat.le_refl _, fun _ _ => rfl⟩⟩
end Go.Proofs.Ytplipfcnjmgicaa
