/-
  ARITHMETIC OF LineRounds. No statement is proved here.
-/
import Derived.Test.YtplipfcnjmgicaaSafeM
import Derived.Test.YtplipfcnjmgicaaOnes
namespace Go.Proofs.Ytplipfcnjmgicaa
open Go.RowKit
set_option linter.unusedVariables false
set_option linter.unusedSimpArgs false

theorem sumOf_append (a b : List (Int × Bool)) : sumOf (a ++ b) = sumOf a + sumOf b := by simp [sumOf]
theorem sumOf_reverse (xs : List (Int × Bool)) : sumOf xs.reverse = sumOf xs := by
  induction xs with
  | nil => rfl
  | cons x xs ih => rw [List.reverse_cons, sumOf_append, ih]; simp [sumOf, Int.add_comm]
theorem sumOf_bound (xs : List (Int × Bool)) (h : ∀ x ∈ xs, -2000000000 ≤ x.1 ∧ x.1 ≤ 2000000000) : -(2000000000 * (xs.length : Int)) ≤ sumOf xs ∧ sumOf xs ≤ 2000000000 * (xs.length : Int) := by
  induction xs with
  | nil => simp [sumOf]
  | cons x xs ih =>
    have h1 := h x (by simp)
    have h2 := ih fun y hy => h y (by simp [hy])
    have e : sumOf (x :: xs) = x.1 + sumOf xs := rfl
    rw [e, List.length_cons]
    omega
/-- Where nothing is lost the number is -1, else that of the first round that loses. -/
theorem atOf_cases (xs : List (Int × Bool)) : (atOf xs = -1 ∧ xs.all (fun x => !x.2) = true) ∨ ∃ k : Nat, k < xs.length ∧ atOf xs = (k : Int) ∧ (∀ j : Nat, j < k → ∀ x, xs[j]? = some x → x.2 = false) ∧ (∀ x, xs[k]? = some x → x.2 = true) := by
  unfold atOf
  cases h : xs.findIdx? (·.2) with
  | none =>
    left
    refine ⟨rfl, ?_⟩
    rw [List.findIdx?_eq_none_iff] at h
    rw [List.all_eq_true]
    intro x hx
    simp [h x hx]
  | some k =>
    right
    rw [List.findIdx?_eq_some_iff_getElem] at h
    obtain ⟨hk, h1, h2⟩ := h
    refine ⟨k, hk, rfl, fun j hj x hx => ?_, fun x hx => ?_⟩
    · rw [List.getElem?_eq_getElem (by omega)] at hx
      cases hx
      have := h2 j hj
      simpa using this
    · rw [List.getElem?_eq_getElem hk] at hx
      cases hx
      exact h1
theorem at_lost (xs : List (Int × Bool)) (k : Nat) (x : Int × Bool) (h : xs[k]? = some x) (hx : x.2 = true) : 0 ≤ atOf xs ∧ atOf xs ≤ k := by
  have hk : k < xs.length := (List.getElem?_eq_some_iff.1 h).1
  rcases atOf_cases xs with ⟨h1, h2⟩ | ⟨j, hj, h1, h2, h3⟩
  · rw [List.all_eq_true] at h2
    have := h2 x (List.mem_of_getElem? h)
    rw [hx] at this
    cases this
  · rw [h1]
    refine ⟨by omega, ?_⟩
    by_cases hjk : j ≤ k
    · omega
    · have := h2 k (by omega) x h
      rw [hx] at this
      cases this
theorem at_kept (xs : List (Int × Bool)) (k : Nat) (x : Int × Bool) (h : xs[k]? = some x) (hx : x.2 = false) : atOf xs ≠ k := by
  rcases atOf_cases xs with ⟨h1, h2⟩ | ⟨j, hj, h1, h2, h3⟩
  · omega
  · intro e
    have : j = k := by omega
    subst this
    rw [h3 x h] at hx
    cases hx
theorem at_range (xs : List (Int × Bool)) : -1 ≤ atOf xs ∧ (atOf xs < xs.length) := by
  rcases atOf_cases xs with ⟨h1, h2⟩ | ⟨j, hj, h1, h2, h3⟩ <;> omega
theorem none_lost {xs : List (Int × Bool)} (h : xs.all (fun x => !x.2) = true) : xs.findIdx? (·.2) = none := findIdx_none xs h
theorem pass_kept (b W : Nat) (xs : List (Int × Bool)) (bs : List Bool) (hb : 0 < bs.length) (h : atOf xs < 0) : (passOf b W xs bs).1 = wordsOf b W (rot (sumOf xs % (bs.length : Int)).toNat bs) := by
  rcases atOf_cases xs with ⟨h1, h2⟩ | ⟨j, hj, h1, h2, h3⟩
  · unfold passOf
    rw [none_lost h2]
    simp only
    rw [rotAll_sum _ hb]
  · omega
theorem pass_gone (b W : Nat) (xs : List (Int × Bool)) (bs : List Bool) (h : 0 ≤ atOf xs) : (passOf b W xs bs).1 = List.replicate W 0 := by
  unfold passOf
  unfold atOf at h
  cases e : xs.findIdx? (·.2) with
  | none => rw [e] at h; simp at h
  | some k => rfl
theorem pass_turned (b W : Nat) (xs : List (Int × Bool)) (bs : List Bool) (hb : 0 < bs.length) : (passOf b W xs.reverse bs).1 = (passOf b W xs bs).1 := by
  rcases atOf_cases xs with ⟨h1, h2⟩ | ⟨j, hj, h1, h2, h3⟩
  · have h4 : xs.reverse.all (fun x => !x.2) = true := by rw [List.all_reverse]; exact h2
    have e : atOf xs.reverse = -1 := by unfold atOf; rw [none_lost h4]
    rw [pass_kept b W _ bs hb (by omega), pass_kept b W _ bs hb (by omega), sumOf_reverse]
  · have e : ¬ atOf xs.reverse < 0 := by
      intro hlt
      rcases atOf_cases xs.reverse with ⟨g1, g2⟩ | ⟨i, hi, g1, g2, g3⟩
      · rw [List.all_reverse, List.all_eq_true] at g2
        have hx := h3 xs[j] (List.getElem?_eq_getElem hj)
        have := g2 xs[j] (List.getElem_mem hj)
        rw [hx] at this
        cases this
      · omega
    rw [pass_gone b W _ bs (by omega), pass_gone b W _ bs (by omega)]
theorem cnt_zeros (b W : Nat) : cnt (pulsesOf b (List.replicate W 0)) = 0 := by rw [pulses_zeros, cnt_false]

/-- A row of the call's own under calls that write nothing old. -/
theorem ownsRow_below {U V : World} {base n size : Nat} {e : TypeId} {v : Value} {xs : List Value} (h : U.ownsRow base e size v n xs) (hb : Below U.heap.size U V) : V.ownsRow base e size v n xs := by
  refine ⟨h.1, ?_⟩
  rcases h.2 with h2 | ⟨g, cap, cur, rfl, hbs, hg, h5, h6, h7, h8⟩
  · exact .inl h2
  · exact .inr ⟨g, cap, cur, rfl, hbs, (hb.block g (Array.getElem?_eq_some_iff.1 hg).1).trans hg, h5, h6, h7, h8⟩
theorem rev_take (ts : List Int) (k : Nat) (h : k < ts.length) : ts.reverse.take (k + 1) = ts.reverse.take k ++ [ts[ts.length - 1 - k]'(by omega)] := by
  rw [List.take_succ_eq_append_getElem (by simpa using h)]
  congr 1
  rw [List.getElem_reverse]
end Go.Proofs.Ytplipfcnjmgicaa
