/-
  ARITHMETIC OF Late: a list turned, one element after the other. No statement is proved here.
-/
import Derived.Test.YtplipfcnjmgicaaPs6
namespace Go.Proofs.Ytplipfcnjmgicaa
set_option linter.unusedVariables false
set_option linter.unusedSimpArgs false

/-- A list turned by y places, as far as its first k elements are laid. -/
def lateTo (y : Nat) (xs : List Int) (k : Nat) : List Int := (List.range xs.length).map fun p => if (p + xs.length - y) % xs.length < k then xs.getD ((p + xs.length - y) % xs.length) 0 else 0
theorem lateTo_length (y : Nat) (xs : List Int) (k : Nat) : (lateTo y xs k).length = xs.length := by simp [lateTo]
theorem lateTo_zero (y : Nat) (xs : List Int) : lateTo y xs 0 = List.replicate xs.length 0 := by
  apply List.ext_getElem?
  intro i
  unfold lateTo
  simp only [List.getElem?_map, List.getElem?_replicate]
  by_cases h : i < xs.length
  · rw [List.getElem?_range h, if_pos h]; simp
  · rw [List.getElem?_eq_none (by simpa using h), if_neg h]; rfl
theorem mod_two {a n : Nat} (h : a < 2 * n) : a % n = if a < n then a else a - n := by
  split
  · exact Nat.mod_eq_of_lt (by assumption)
  · rw [Nat.mod_eq_sub_mod (by omega), Nat.mod_eq_of_lt (by omega)]
theorem back_iff {p k y n : Nat} (hp : p < n) (hk : k < n) (hy : y < n) : (p + n - y) % n = k ↔ (k + y) % n = p := by
  rw [mod_two (by omega : p + n - y < 2 * n), mod_two (by omega : k + y < 2 * n)]
  split <;> split <;> omega
theorem lateTo_succ (y : Nat) (xs : List Int) (k : Nat) (hk : k < xs.length) (hy : y < xs.length) : lateTo y xs (k + 1) = (lateTo y xs k).set ((k + y) % xs.length) xs[k] := by
  apply List.ext_getElem?
  intro i
  rw [List.getElem?_set]
  have hq : (k + y) % xs.length < xs.length := Nat.mod_lt _ (by omega)
  unfold lateTo
  simp only [List.getElem?_map, List.length_map, List.length_range, hq, if_true]
  by_cases hi : (k + y) % xs.length = i
  · rw [if_pos hi]
    have hil : i < xs.length := by omega
    rw [List.getElem?_range hil]
    have hb := (back_iff hil hk hy).2 hi
    simp only [Option.map_some, hb]
    rw [if_pos (by omega)]
    simp [List.getD, hk]
  · rw [if_neg hi]
    by_cases h : i < xs.length
    · rw [List.getElem?_range h]
      simp only [Option.map_some]
      have hb : (i + xs.length - y) % xs.length ≠ k := fun e => hi ((back_iff h hk hy).1 e)
      by_cases h1 : (i + xs.length - y) % xs.length < k
      · rw [if_pos (by omega), if_pos h1]
      · rw [if_neg (by omega), if_neg h1]
    · rw [List.getElem?_eq_none (by simpa using h)]; rfl
theorem rot_get {α : Type} (y : Nat) (xs : List α) (hy : y < xs.length) (p : Nat) (hp : p < xs.length) : (rot y xs)[p]? = xs[(p + xs.length - y) % xs.length]? := by
  unfold rot
  rw [mod_two (by omega : p + xs.length - y < 2 * xs.length), List.getElem?_append, List.length_drop]
  by_cases h : p < y
  · rw [if_pos (by omega), if_pos (by omega), List.getElem?_drop]
    congr 1; omega
  · rw [if_neg (by omega), if_neg (by omega), List.getElem?_take, if_pos (by omega)]
    congr 1; omega
theorem lateTo_end (y : Nat) (xs : List Int) (hy : y < xs.length) : lateTo y xs xs.length = rot y xs := by
  apply List.ext_getElem?
  intro i
  by_cases h : i < xs.length
  · rw [rot_get y xs hy i h]
    unfold lateTo
    have hm : (i + xs.length - y) % xs.length < xs.length := Nat.mod_lt _ (by omega)
    simp only [List.getElem?_map, List.getElem?_range h, Option.map_some, hm, if_true]
    simp [List.getD, hm]
  · rw [List.getElem?_eq_none (by rw [lateTo_length]; omega), List.getElem?_eq_none (by rw [rot_length]; omega)]
theorem rot_map {α β : Type} (f : α → β) (y : Nat) (xs : List α) : rot y (xs.map f) = (rot y xs).map f := by simp [rot]
theorem bi_rot (y : Nat) (bs : List Bool) : bi (rot y bs) = rot y (bi bs) := (rot_map _ y bs).symm

/-- The place of a pulse, as the reference reckons it. -/
theorem late_place {k n : Nat} {s : Int} (hn : 0 < n) : (((k : Int) + s).tmod n + n).tmod n = (((k + (s % n).toNat) % n : Nat) : Int) := by
  have h1 : 0 ≤ ((k : Int) + s).tmod n + n := by
    have := Int.tmod_lt_of_pos (-((k : Int) + s)) (by omega : (0 : Int) < n)
    rw [Int.neg_tmod] at this
    omega
  rw [Int.tmod_eq_emod_of_nonneg h1, Int.add_emod_right]
  have h2 : ((k : Int) + s).tmod n % n = ((k : Int) + s) % n := by
    rw [Int.tmod_eq_emod]
    split
    · simp
    · rw [Int.natAbs_natCast, Int.sub_emod_right, Int.emod_emod]
  rw [h2, Int.natCast_emod, Int.natCast_add, Int.toNat_of_nonneg (Int.emod_nonneg _ (by omega)), Int.add_emod_emod]
end Go.Proofs.Ytplipfcnjmgicaa
