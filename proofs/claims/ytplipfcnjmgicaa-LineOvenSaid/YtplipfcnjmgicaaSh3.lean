/-
  CONTRACTS OF both Shifts. No statement is proved here.
-/
import Derived.Test.YtplipfcnjmgicaaSh2
namespace Go.Proofs.Ytplipfcnjmgicaa
open Go.RowKit Go.Sort
set_option linter.unusedVariables false
set_option linter.unusedSimpArgs false

theorem below_down {n m : Nat} {w w' : World} (h : n ≤ m) (hb : Below m w w') : Below n w w' := ⟨hb.os, hb.tape, hb.output, hb.size, fun k hk => hb.block k (by omega)⟩

theorem temp_t (x : Int) (h : -500 ≤ x ∧ x ≤ 1000) (w : World) : Calls Try.prog 56 #[.int .i64 x] w fun e w' => e = .returned (.bool true) ∧ w' = w :=
  Calls.mono (temp_any x w) fun e w' h' => by rw [h'.1]; simp [h.1, h.2, h'.2]
theorem temp_f (x : Int) (h : ¬ (-500 ≤ x ∧ x ≤ 1000)) (w : World) : Calls Try.prog 56 #[.int .i64 x] w fun e w' => e = .returned (.bool false) ∧ w' = w :=
  Calls.mono (temp_any x w) fun e w' h' => by
    refine ⟨?_, h'.2⟩
    rw [h'.1]
    have : (decide (-500 ≤ x) && decide (x ≤ 1000)) = false := by simp; omega
    rw [this]
theorem rtemp_t (x : Int) (h : -500 ≤ x ∧ x ≤ 1000) (w : World) : Calls Try.prog 47 #[.int .i64 x] w fun e w' => e = .returned (.bool true) ∧ w' = w :=
  Calls.mono (rtemp_any x w) fun e w' h' => by rw [h'.1]; simp [h.1, h.2, h'.2]
theorem rtemp_f (x : Int) (h : ¬ (-500 ≤ x ∧ x ≤ 1000)) (w : World) : Calls Try.prog 47 #[.int .i64 x] w fun e w' => e = .returned (.bool false) ∧ w' = w :=
  Calls.mono (rtemp_any x w) fun e w' h' => by
    refine ⟨?_, h'.2⟩
    rw [h'.1]
    have : (decide (-500 ≤ x) && decide (x ≤ 1000)) = false := by simp; omega
    rw [this]

def Shifted (n : Int) (b : Bool) (c : Int) (w : World) (e : Ending) (w' : World) : Prop := e = .returned (.tuple #[.int .i64 n, .bool b, .int .i64 c]) ∧ Below w.heap.size w w'


set_option maxHeartbeats 2000000 in
theorem shift_bad (a0 a1 a2 a3 a4 a5 T : Int) (h : ¬ OkLine a0 a1 a2 a3 a4 a5) (w : World) :
    Calls Try.prog 23 #[.agg #[.int .i64 a0, .int .i64 a1, .int .i64 a2, .int .i64 a3, .int .i64 a4, .int .i64 a5], .int .i64 T] w (Shifted 0 false 7 w) := by
  go_enter Try.func23, Try.ntmps23
  go_wp2_with fail
  refine (check_bad a0 a1 a2 a3 a4 a5 h _).mono ?_; rintro e w' ⟨rfl, rfl⟩
  go_wp2
  go_returns
  exact ⟨rfl, by go_grown⟩

set_option maxHeartbeats 2000000 in
theorem shift_far (a0 a1 a2 a3 a4 a5 T : Int) (h : OkLine a0 a1 a2 a3 a4 a5) (hT : ¬ (-500 ≤ T ∧ T ≤ 1000)) (w : World) :
    Calls Try.prog 23 #[.agg #[.int .i64 a0, .int .i64 a1, .int .i64 a2, .int .i64 a3, .int .i64 a4, .int .i64 a5], .int .i64 T] w (Shifted 0 false 7 w) := by
  go_enter Try.func23, Try.ntmps23
  go_wp2_with fail
  refine (check_ok a0 a1 a2 a3 a4 a5 h _).mono ?_; rintro e w' ⟨rfl, rfl⟩
  go_wp2_with fail
  refine (temp_f T hT _).mono ?_; rintro e w' ⟨rfl, rfl⟩
  go_wp2
  go_returns
  exact ⟨rfl, by go_grown⟩

set_option maxHeartbeats 2000000 in
theorem shift_ok (a0 a1 a2 a3 a4 a5 T : Int) (h : OkLine a0 a1 a2 a3 a4 a5) (hT : -500 ≤ T ∧ T ≤ 1000) (w : World) :
    Calls Try.prog 23 #[.agg #[.int .i64 a0, .int .i64 a1, .int .i64 a2, .int .i64 a3, .int .i64 a4, .int .i64 a5], .int .i64 T] w (Shifted (shiftOf a2 a5 (lateOf a0 a1 a2 a3 a4 T)) (lostOf a2 a5 (lateOf a0 a1 a2 a3 a4 T)) 0 w) := by
  have K := shiftAt_any a0 a1 a2 a3 a4 a5 T h hT
  generalize shiftOf a2 a5 (lateOf a0 a1 a2 a3 a4 T) = S at *
  generalize lostOf a2 a5 (lateOf a0 a1 a2 a3 a4 T) = B at *
  have KH := Lib.hid K
  clear K
  go_enter Try.func23, Try.ntmps23
  go_wp2_with fail
  refine (check_ok a0 a1 a2 a3 a4 a5 h _).mono ?_; rintro e w' ⟨rfl, rfl⟩
  go_wp2_with fail
  refine (temp_t T hT _).mono ?_; rintro e w' ⟨rfl, rfl⟩
  go_wp2_with fail
  refine (KH.out _).mono ?_; rintro e w1 ⟨rfl, hb⟩
  go_wp2
  go_returns
  refine ⟨by simp, ?_⟩
  have hs := hb.size
  simp only [World.size_alloc] at hs hb
  exact (((Below.refl _ w).alloc (Nat.le_refl _) _).alloc (by simp) _).trans (below_down (by omega) hb)

set_option maxHeartbeats 2000000 in
theorem rshift_bad (a0 a1 a2 a3 a4 a5 T : Int) (h : ¬ OkLine a0 a1 a2 a3 a4 a5) (w : World) :
    Calls Try.prog 24 #[.agg #[.int .i64 a0, .int .i64 a1, .int .i64 a2, .int .i64 a3, .int .i64 a4, .int .i64 a5], .int .i64 T] w (Shifted 0 false 7 w) := by
  go_enter Try.func24, Try.ntmps24
  go_wp2_with fail
  refine (rcheck_bad a0 a1 a2 a3 a4 a5 h _).mono ?_; rintro e w' ⟨rfl, rfl⟩
  go_wp2
  go_returns
  exact ⟨rfl, by go_grown⟩

set_option maxHeartbeats 2000000 in
theorem rshift_far (a0 a1 a2 a3 a4 a5 T : Int) (h : OkLine a0 a1 a2 a3 a4 a5) (hT : ¬ (-500 ≤ T ∧ T ≤ 1000)) (w : World) :
    Calls Try.prog 24 #[.agg #[.int .i64 a0, .int .i64 a1, .int .i64 a2, .int .i64 a3, .int .i64 a4, .int .i64 a5], .int .i64 T] w (Shifted 0 false 7 w) := by
  go_enter Try.func24, Try.ntmps24
  go_wp2_with fail
  refine (rcheck_ok a0 a1 a2 a3 a4 a5 h _).mono ?_; rintro e w' ⟨rfl, rfl⟩
  go_wp2_with fail
  refine (rtemp_f T hT _).mono ?_; rintro e w' ⟨rfl, rfl⟩
  go_wp2
  go_returns
  exact ⟨rfl, by go_grown⟩

set_option maxHeartbeats 2000000 in
theorem rshift_ok (a0 a1 a2 a3 a4 a5 T : Int) (h : OkLine a0 a1 a2 a3 a4 a5) (hT : -500 ≤ T ∧ T ≤ 1000) (w : World) :
    Calls Try.prog 24 #[.agg #[.int .i64 a0, .int .i64 a1, .int .i64 a2, .int .i64 a3, .int .i64 a4, .int .i64 a5], .int .i64 T] w (Shifted (shiftOf a2 a5 (lateOf a0 a1 a2 a3 a4 T)) (lostOf a2 a5 (lateOf a0 a1 a2 a3 a4 T)) 0 w) := by
  have K := rshift_any a0 a1 a2 a3 a4 a5 T h hT
  generalize shiftOf a2 a5 (lateOf a0 a1 a2 a3 a4 T) = S at *
  generalize lostOf a2 a5 (lateOf a0 a1 a2 a3 a4 T) = B at *
  have KH := Lib.hid K
  clear K
  go_enter Try.func24, Try.ntmps24
  go_wp2_with fail
  refine (rcheck_ok a0 a1 a2 a3 a4 a5 h _).mono ?_; rintro e w' ⟨rfl, rfl⟩
  go_wp2_with fail
  refine (rtemp_t T hT _).mono ?_; rintro e w' ⟨rfl, rfl⟩
  go_wp2_with fail
  refine (KH.out _).mono ?_; rintro e w1 ⟨rfl, hb⟩
  go_wp2
  go_returns
  refine ⟨by simp, ?_⟩
  have hs := hb.size
  simp only [World.size_alloc] at hs hb
  exact (((Below.refl _ w).alloc (Nat.le_refl _) _).alloc (by simp) _).trans (below_down (by omega) hb)
end Go.Proofs.Ytplipfcnjmgicaa
