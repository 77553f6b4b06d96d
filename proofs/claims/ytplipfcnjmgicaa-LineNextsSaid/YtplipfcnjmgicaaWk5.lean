/-
  ARITHMETIC OF Next: what its answer is by the beats of a line. No statement is proved here.
-/
import Derived.Test.YtplipfcnjmgicaaRows
namespace Go.Proofs.Ytplipfcnjmgicaa

theorem next_emod {t q m : Int} (h : 0 ≤ q ∧ q < m) : (t + 1 + (q - (t + 1)) % m) % m = q := by
  rw [Int.add_emod, Int.emod_emod, ← Int.add_emod, show t + 1 + (q - (t + 1)) = q by omega]
  exact Int.emod_eq_of_lt h.1 h.2

theorem next_range {t q m : Int} (hm : 0 < m) : t < t + 1 + (q - (t + 1)) % m ∧ t + 1 + (q - (t + 1)) % m - t ≤ m := by
  have h0 := Int.emod_nonneg (q - (t + 1)) (by omega : m ≠ 0)
  have h1 := Int.emod_lt_of_pos (q - (t + 1)) hm
  omega

/-- A round later. -/
theorem again_eq {n q m : Int} (h : 0 ≤ q ∧ q < m) (hn : n % m = q) : n + 1 + (q - (n + 1)) % m - n = m := by
  have h1 := Int.emod_add_mul_ediv n m
  have h2 : q - (n + 1) = (m - 1) + m * (-(n / m) - 1) := by
    rw [Int.mul_sub, Int.mul_neg]
    omega
  have h3 : (q - (n + 1)) % m = m - 1 := by
    rw [h2, Int.add_mul_emod_self_left]
    exact Int.emod_eq_of_lt (by omega) (by omega)
  omega

/-- The next place. -/
theorem onward_eq {n q r b m : Int} (hb : 1 ≤ b ∧ b ≤ m) (hn : n % m = q) (hr : r = q + b ∨ r = q + b - m) : n + 1 + (r - (n + 1)) % m - n = b := by
  have h1 := Int.emod_add_mul_ediv n m
  have h3 : (r - (n + 1)) % m = b - 1 := by
    rcases hr with hr | hr
    · have h2 : r - (n + 1) = (b - 1) + m * (-(n / m)) := by rw [Int.mul_neg]; omega
      rw [h2, Int.add_mul_emod_self_left]
      exact Int.emod_eq_of_lt (by omega) (by omega)
    · have h2 : r - (n + 1) = (b - 1) + m * (-(n / m) - 1) := by rw [Int.mul_sub, Int.mul_neg]; omega
      rw [h2, Int.add_mul_emod_self_left]
      exact Int.emod_eq_of_lt (by omega) (by omega)
  omega

theorem place_eq {p a0 a1 : Int} (hp : 0 ≤ p ∧ p ≤ a0 - 1) : (p + 1) % a0 * a1 = p * a1 + a1 ∨ (p + 1) % a0 * a1 = p * a1 + a1 - a0 * a1 := by
  by_cases h : p + 1 < a0
  · left
    rw [Int.emod_eq_of_lt (by omega) h, Int.add_mul]
    omega
  · right
    have e : p + 1 = a0 := by omega
    rw [e, Int.emod_self, Int.zero_mul, ← e, Int.add_mul]
    omega
theorem place_in {p a0 : Int} (hp : 0 ≤ p ∧ p ≤ a0 - 1) : 0 ≤ (p + 1) % a0 ∧ (p + 1) % a0 ≤ a0 - 1 := by
  have h0 := Int.emod_nonneg (p + 1) (by omega : a0 ≠ 0)
  have h1 := Int.emod_lt_of_pos (p + 1) (by omega : 0 < a0)
  omega
end Go.Proofs.Ytplipfcnjmgicaa
