/-
  Safe temperatures lie together. No statement is proved here.
-/
import Derived.Test.YtplipfcnjmgicaaSafe3
namespace Go.Proofs.Ytplipfcnjmgicaa
open Go.RowKit
set_option linter.unusedVariables false
set_option linter.unusedSimpArgs false

theorem safeAt_iff {a0 a1 a2 a3 a4 a5 T : Int} (h : OkLine a0 a1 a2 a3 a4 a5) : safeAt a0 a1 a2 a3 a4 a5 T = true ↔ (-a5 ≤ lateOf a0 a1 a2 a3 a4 T ∧ lateOf a0 a1 a2 a3 a4 T ≤ a5) := by
  have h2 := h.h2
  have h5 := h.h5
  have hw := in_window (a2 := a2) (a5 := a5) (L := lateOf a0 a1 a2 a3 a4 T) (s := 0) (by omega) (by omega)
  unfold safeAt shiftOf lostOf
  generalize lateOf a0 a1 a2 a3 a4 T = L at *
  rw [Int.zero_mul, Int.sub_zero] at hw
  rw [hw]
  simp only [Bool.and_eq_true, decide_eq_true_eq, Bool.not_eq_true', decide_eq_false_iff_not]
  constructor
  · rintro ⟨h1, h2⟩
    rw [if_neg h2] at h1
    exact ⟨by omega, h1.symm⟩
  · rintro ⟨h1, h2⟩
    exact ⟨by rw [if_neg (by omega)]; exact h2.symm, by omega⟩
theorem safe_between {a0 a1 a2 a3 a4 a5 S T U : Int} (h : OkLine a0 a1 a2 a3 a4 a5) (h1 : S ≤ T) (h2 : T ≤ U) (hS : safeAt a0 a1 a2 a3 a4 a5 S = true) (hU : safeAt a0 a1 a2 a3 a4 a5 U = true) : safeAt a0 a1 a2 a3 a4 a5 T = true := by
  rw [safeAt_iff h] at hS hU ⊢
  unfold lateOf at *
  rcases Int.le_total 0 a4 with ha | ha
  · have e1 := Int.mul_le_mul_of_nonneg_left h1 ha
    have e2 := Int.mul_le_mul_of_nonneg_left h2 ha
    omega
  · have e1 := Int.mul_le_mul_of_nonpos_left ha h1
    have e2 := Int.mul_le_mul_of_nonpos_left ha h2
    omega
theorem span_in (f : Int → Bool) : ∀ k : Nat, k ≤ 1501 → (∀ T : Int, -500 ≤ T → T < k - 500 → f T = true → (spanOf (upS f (k - 500))).1 ≤ T ∧ T ≤ (spanOf (upS f (k - 500))).2) ∧
    (spanOf (upS f (k - 500)) = (1001, -501) ∨ ((spanOf (upS f (k - 500))).1 < k - 500 ∧ f (spanOf (upS f (k - 500))).1 = true ∧ f (spanOf (upS f (k - 500))).2 = true))
  | 0, _ => ⟨fun T h1 h2 => by omega, .inl rfl⟩
  | k + 1, hk => by
    obtain ⟨i1, i2⟩ := span_in f k (by omega)
    have e : ((k + 1 : Nat) : Int) - 500 = ((k : Int) - 500) + 1 := by omega
    rw [e]
    have hu := upS_succ f (x := (k : Int) - 500) (by omega)
    cases hf : f ((k : Int) - 500) with
    | false =>
      rw [hf] at hu
      have hu' : upS f ((k : Int) - 500 + 1) = upS f ((k : Int) - 500) := by simpa using hu
      rw [hu']
      refine ⟨fun T h1 h2 h3 => ?_, ?_⟩
      · by_cases hT : T = (k : Int) - 500
        · rw [hT, hf] at h3; cases h3
        · exact i1 T h1 (by omega) h3
      · rcases i2 with i2 | ⟨j1, j2, j3⟩
        · exact .inl i2
        · exact .inr ⟨by omega, j2, j3⟩
    | true =>
      rw [hf] at hu
      have hu' : upS f ((k : Int) - 500 + 1) = upS f ((k : Int) - 500) ++ [(k : Int) - 500] := by simpa using hu
      rw [hu', spanOf_snoc]
      generalize spanOf (upS f ((k : Int) - 500)) = q at *
      obtain ⟨v, hv⟩ : ∃ v, v = (k : Int) - 500 := ⟨_, rfl⟩
      rw [← hv] at i1 i2 hf ⊢
      obtain ⟨a, b⟩ := q
      dsimp only at i1 i2 ⊢
      refine ⟨fun T h1 h2 h3 => ?_, .inr ?_⟩
      · by_cases hT : T = v
        · subst hT
          split <;> omega
        · have := i1 T h1 (by omega) h3
          split <;> omega
      · rcases i2 with i2 | ⟨j1, j2, j3⟩
        · cases i2
          have hlt : v < 1001 := by omega
          rw [if_pos hlt]
          exact ⟨by omega, hf, hf⟩
        · rw [if_neg (by omega)]
          exact ⟨by omega, j2, hf⟩
/-- What Safe answers: a span, an error; whether a temperature is within. -/
theorem safe_nums {a0 a1 a2 a3 a4 a5 : Int} (h : OkLine a0 a1 a2 a3 a4 a5) : ∃ lo hi e1 : Int, (e1 = 0 ∨ e1 = 9) ∧ (∀ T, -500 ≤ T → T ≤ 1000 → ((e1 = 0 ∧ lo ≤ T ∧ T ≤ hi) ↔ safeAt a0 a1 a2 a3 a4 a5 T = true)) ∧
    ∀ w e w', SafeIs (safeAt a0 a1 a2 a3 a4 a5) w e w' → e = .returned (.tuple #[.agg #[.int .i64 lo, .int .i64 hi], .int .i64 e1]) ∧ Below w.heap.size w w' := by
  have hs := span_in (safeAt a0 a1 a2 a3 a4 a5) 1501 (Nat.le_refl _)
  have e0 : ((1501 : Nat) : Int) - 500 = 1001 := by decide
  rw [e0] at hs
  unfold SafeIs
  generalize spanOf (upS (safeAt a0 a1 a2 a3 a4 a5) 1001) = p at *
  obtain ⟨lo, hi⟩ := p
  dsimp only at hs ⊢
  obtain ⟨i1, i2⟩ := hs
  by_cases hlt : lo > hi
  · refine ⟨0, 0, 9, .inr rfl, fun T h1 h2 => ⟨fun h => by omega, fun h => ?_⟩, fun w e w' he => ?_⟩
    · have := i1 T h1 (by omega) h
      omega
    · rw [if_pos hlt] at he; exact he
  · refine ⟨lo, hi, 0, .inl rfl, fun T h1 h2 => ⟨fun hT => ?_, fun hT => ⟨rfl, i1 T h1 (by omega) hT⟩⟩, fun w e w' he => ?_⟩
    · rcases i2 with i2 | ⟨j1, j2, j3⟩
      · cases i2; omega
      · exact safe_between h hT.2.1 hT.2.2 j2 j3
    · rw [if_neg hlt] at he; exact he
end Go.Proofs.Ytplipfcnjmgicaa
