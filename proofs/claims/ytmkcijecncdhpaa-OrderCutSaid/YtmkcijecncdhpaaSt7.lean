/-
  WHAT RUNS DO: how many orders, when, and from a later time on. No statement is proved here.
-/
import Derived.Test.YtmkcijecncdhpaaSt6
namespace Go.Proofs.Ytmkcijecncdhpaa
open Go.RowKit
set_option linter.unusedVariables false
set_option linter.unusedSimpArgs false

namespace MS
theorem ends_why {s : MS} (h : s.why ≠ 0) : s.ends = s.why := if_pos h
theorem run_why {n : Nat} {s : MS} (h : s.why ≠ 0) : run n s = s := by
  cases n with
  | zero => rfl
  | succ n =>
    unfold run
    rw [if_neg (by rw [ends_why h]; exact h)]
    unfold ended
    rw [ends_why h]
theorem run_counts (n : Nat) : ∀ {s : MS}, s.Ok → s.done ≤ (run n s).done ∧ (run n s).done - s.done ≤ n ∧ s.time ≤ (run n s).time ∧ ((run n s).why = 0 → (run n s).done - s.done = n) := by
  induction n with
  | zero => intro s _; exact ⟨Int.le_refl _, by simp [run], Int.le_refl _, fun _ => by simp [run]⟩
  | succ n ih =>
    intro s h
    unfold run
    split
    · rename_i he
      obtain ⟨h1, h2, h3, h4⟩ := ih (h.go he)
      have e1 : s.go.done = s.done + 1 := rfl
      have e2 : s.go.time = s.until_ := rfl
      have := h.until_
      rw [e1] at h1 h2 h4
      rw [e2] at h3
      refine ⟨by omega, by push_cast; omega, by omega, fun hw => ?_⟩
      have := h4 hw
      push_cast
      omega
    · rename_i he
      refine ⟨Int.le_refl _, ?_, Int.le_refl _, fun hw => ?_⟩
      · show s.done - s.done ≤ _
        push_cast
        omega
      · exact absurd hw he
/-- The same state, later. -/
def later (s : MS) (by_ : Int) : MS := { s with time := s.time + by_ }
theorem aft_later (t a k : Int) : aft (t + 16 * k) a = aft t a + 16 * k := by unfold aft; omega
theorem lastC_later (k : Int) : ∀ (l : List (Int × Int)) (t : Int), lastC (t + 16 * k) l = lastC t l + 16 * k
  | [], t => rfl
  | (a, b) :: l, t => by
    show lastC (aft (t + 16 * k + b) a) l = lastC (aft (t + b) a) l + 16 * k
    rw [← lastC_later k l]
    congr 1
    rw [← aft_later]
    congr 1
    omega
theorem until_later (s : MS) (k : Int) : (s.later (16 * k)).until_ = s.until_ + 16 * k := lastC_later k _ _
theorem go_later (s : MS) (k : Int) : (s.later (16 * k)).go = s.go.later (16 * k) := by
  have e : (s.later (16 * k)).go = { s.go with time := (s.later (16 * k)).until_ } := rfl
  rw [e, until_later]
  rfl
theorem ends_later {s : MS} {k : Int} (h1 : s.ends ≠ 4) (h2 : (s.later (16 * k)).ends ≠ 4) : (s.later (16 * k)).ends = s.ends := by
  have hu := until_later s k
  have e : (s.later (16 * k)).ends = if s.why ≠ 0 then s.why else if s.op = 0 then 1 else if s.op = 6 ∧ s.taken = s.tape.length then 2 else if s.op = 7 ∧ s.printed.length = 200 then 3 else if 1000000000 < (s.later (16 * k)).until_ then 4 else 0 := rfl
  rw [e] at h2 ⊢
  unfold ends at h1 ⊢
  by_cases a1 : s.why ≠ 0
  · simp only [if_pos a1]
  simp only [if_neg a1] at h1 h2 ⊢
  by_cases a2 : s.op = 0
  · simp only [if_pos a2]
  simp only [if_neg a2] at h1 h2 ⊢
  by_cases a3 : s.op = 6 ∧ s.taken = s.tape.length
  · simp only [if_pos a3]
  simp only [if_neg a3] at h1 h2 ⊢
  by_cases a4 : s.op = 7 ∧ s.printed.length = 200
  · simp only [if_pos a4]
  simp only [if_neg a4] at h1 h2 ⊢
  by_cases b1 : 1000000000 < (s.later (16 * k)).until_
  · rw [if_pos b1] at h2
    exact absurd rfl h2
  by_cases b2 : 1000000000 < s.until_
  · rw [if_pos b2] at h1
    exact absurd rfl h1
  rw [if_neg b1, if_neg b2]
/-- What a run leaves does not depend on when, unless the time is over. -/
theorem run_later (n : Nat) (k : Int) : ∀ {s : MS}, (run n s).why ≠ 4 → (run n (s.later (16 * k))).why ≠ 4 → run n (s.later (16 * k)) = (run n s).later (16 * k) := by
  induction n with
  | zero => intro s _ _; rfl
  | succ n ih =>
    intro s h1 h2
    have e1 : s.ends ≠ 4 := fun e => by
      unfold run at h1
      rw [if_neg (by rw [e]; decide)] at h1
      exact h1 e
    have e2 : (s.later (16 * k)).ends ≠ 4 := fun e => by
      unfold run at h2
      rw [if_neg (by rw [e]; decide)] at h2
      exact h2 e
    have e3 := ends_later e1 e2
    unfold run at h1 h2 ⊢
    rw [e3] at h2 ⊢
    by_cases h : s.ends = 0
    · rw [if_pos h] at h1 h2 ⊢
      rw [if_pos h, go_later] at *
      exact ih h1 h2
    · rw [if_neg h] at h1 h2 ⊢
      rw [if_neg h]
      show ended _ = later _ _
      unfold ended
      rw [e3]
      rfl
end MS
end Go.Proofs.Ytmkcijecncdhpaa
