/-
  ARITHMETIC OF ROUNDS: turns add up; words are read back from their pulses. No statement is proved here.
-/
import Derived.Test.YtplipfcnjmgicaaPs14
namespace Go.Proofs.Ytplipfcnjmgicaa
set_option linter.unusedVariables false
set_option linter.unusedSimpArgs false

theorem rot_zero {α : Type} (l : List α) : rot 0 l = l := by simp [rot]
theorem rot_rot {α : Type} (a b : Nat) (l : List α) (ha : a < l.length) (hb : b < l.length) : rot a (rot b l) = rot ((a + b) % l.length) l := by
  have hn : 0 < l.length := by omega
  have hab : (a + b) % l.length < l.length := Nat.mod_lt _ hn
  have hl : (rot b l).length = l.length := rot_length b l
  apply List.ext_getElem?
  intro p
  by_cases hp : p < l.length
  · have h1 : (p + l.length - a) % l.length < l.length := Nat.mod_lt _ hn
    rw [rot_get a (rot b l) (by omega) p (by omega), hl, rot_get b l hb _ h1, rot_get _ l hab p hp]
    congr 1
    rw [mod_two (by omega : a + b < 2 * l.length), mod_two (by omega : p + l.length - a < 2 * l.length)]
    split <;> split
    all_goals
      rw [mod_two (by omega), mod_two (by omega)]
      split <;> split <;> omega
  · rw [List.getElem?_eq_none (by rw [rot_length, rot_length]; omega), List.getElem?_eq_none (by rw [rot_length]; omega)]
theorem toNat_mod {s : Int} {n : Nat} (hn : 0 < n) : (s % (n : Int)).toNat < n := by
  have h1 := Int.emod_lt_of_pos s (by omega : (0 : Int) < n)
  have h2 := Int.emod_nonneg s (by omega : (n : Int) ≠ 0)
  omega
theorem mod_add {s t : Int} {n : Nat} (hn : 0 < n) : ((t % (n : Int)).toNat + (s % (n : Int)).toNat) % n = ((s + t) % (n : Int)).toNat := by
  have h1 := Int.emod_nonneg s (by omega : (n : Int) ≠ 0)
  have h2 := Int.emod_nonneg t (by omega : (n : Int) ≠ 0)
  have h3 := Int.emod_nonneg (s + t) (by omega : (n : Int) ≠ 0)
  have e : (((t % (n : Int)).toNat + (s % (n : Int)).toNat) % n : Nat) = (((s + t) % (n : Int)).toNat : Nat) ↔ ((((t % (n : Int)).toNat + (s % (n : Int)).toNat) % n : Nat) : Int) = (((s + t) % (n : Int)).toNat : Int) := by omega
  rw [e, Int.natCast_emod, Int.natCast_add, Int.toNat_of_nonneg h1, Int.toNat_of_nonneg h2, Int.toNat_of_nonneg h3, ← Int.add_emod, Int.add_comm]

def sumOf (xs : List (Int × Bool)) : Int := (xs.map (·.1)).sum
theorem rotAll_sum (bs : List Bool) (hb : 0 < bs.length) : ∀ xs : List (Int × Bool), rotAll xs bs = rot (sumOf xs % (bs.length : Int)).toNat bs := by
  intro xs
  have go : ∀ (xs : List (Int × Bool)) (acc : Int), xs.foldl (fun l x => rot (x.1 % (l.length : Int)).toNat l) (rot (acc % (bs.length : Int)).toNat bs) = rot ((acc + sumOf xs) % (bs.length : Int)).toNat bs := by
    intro xs
    induction xs with
    | nil => intro acc; simp [sumOf]
    | cons x xs ih =>
      intro acc
      rw [List.foldl_cons, rot_length, rot_rot _ _ bs (toNat_mod hb) (toNat_mod hb), mod_add hb, ih (acc + x.1)]
      simp [sumOf, Int.add_assoc]
  have := go xs 0
  simp only [Int.zero_emod, Int.toNat_zero, rot_zero, Int.zero_add] at this
  exact this

/-- A word is read back from its bits. -/
theorem valOf_bits : ∀ (b : Nat) (z : Int), 0 ≤ z → (valOf (bitsOf b z) : Int) = z % 2 ^ b
  | 0, z, h => by simp [bitsOf, valOf]
  | b + 1, z, h => by
    rw [bitsOf_succ, valOf_snoc, bitsOf_length, Int.natCast_add, valOf_bits b z h, Int.natCast_mul, Int.natCast_pow]
    have hbit : ((bitN (decide (z / 2 ^ b % 2 = 1)) : Nat) : Int) = z / 2 ^ b % 2 := by
      have h2 := Int.emod_two_eq (z / 2 ^ b)
      rcases h2 with h2 | h2 <;> rw [h2] <;> rfl
    rw [hbit]
    show z % 2 ^ b + 2 ^ b * (z / 2 ^ b % 2) = z % 2 ^ (b + 1)
    have hp : (0 : Int) < 2 ^ b := Int.pow_pos (by decide)
    have e1 := Int.emod_add_mul_ediv z (2 ^ b)
    have e2 := Int.emod_add_mul_ediv (z / 2 ^ b) 2
    have e3 := Int.emod_add_mul_ediv z (2 ^ (b + 1))
    have e4 : z / 2 ^ b / 2 = z / 2 ^ (b + 1) := half z b
    rw [e4] at e2
    have e5 : (2 : Int) ^ (b + 1) = 2 ^ b * 2 := Int.pow_succ 2 b
    rw [e5] at e3 ⊢
    rw [e5] at e2
    generalize z / (2 ^ b * 2) = q at *
    generalize z / 2 ^ b % 2 = r at *
    generalize z / 2 ^ b = y at *
    subst e2
    rw [Int.mul_add, ← Int.mul_assoc] at e1
    omega
theorem wordAt_pulses (b : Nat) (hb : 0 < b) : ∀ (zs : List Int) (i : Nat) (h : i < zs.length), wordAt b (pulsesOf b zs) i = bitsOf b zs[i]
  | z :: zs, 0, _ => by
    unfold wordAt pulsesOf
    rw [List.flatMap_cons, Nat.zero_mul, List.drop_zero, List.take_append_of_le_length (by rw [bitsOf_length]; exact Nat.le_refl _), List.take_of_length_le (by rw [bitsOf_length]; exact Nat.le_refl _)]
    rfl
  | z :: zs, i + 1, h => by
    have ih := wordAt_pulses b hb zs i (by simpa using h)
    unfold wordAt pulsesOf at ih ⊢
    rw [List.flatMap_cons, Nat.add_mul, Nat.one_mul, Nat.add_comm (i * b) b, ← List.drop_drop]
    have e : (bitsOf b z ++ zs.flatMap (bitsOf b)).drop b = zs.flatMap (bitsOf b) := by
      rw [List.drop_append_of_le_length (by rw [bitsOf_length]; exact Nat.le_refl _), List.drop_of_length_le (by rw [bitsOf_length]; exact Nat.le_refl _), List.nil_append]
    rw [e, ih]
    rfl
theorem words_back (b : Nat) (hb : 0 < b) (zs : List Int) (hv : ∀ z ∈ zs, 0 ≤ z ∧ z < 2 ^ b) : wordsOf b zs.length (pulsesOf b zs) = zs := by
  apply List.ext_getElem?
  intro i
  by_cases h : i < zs.length
  · rw [wordsOf_get b zs.length _ i h, wordAt_pulses b hb zs i h, List.getElem?_eq_getElem h]
    have hz := hv zs[i] (List.getElem_mem h)
    rw [valOf_bits b _ hz.1, Int.emod_eq_of_lt hz.1 hz.2]
  · rw [List.getElem?_eq_none (by rw [wordsOf_length]; omega), List.getElem?_eq_none (by omega)]
end Go.Proofs.Ytplipfcnjmgicaa
