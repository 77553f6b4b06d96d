/-
  CONTRACTS OF the reference's shift, and of both Shifts. No statement is proved here.
-/
import Derived.Test.YtplipfcnjmgicaaSh1
import Derived.Test.YtplipfcnjmgicaaRf1
namespace Go.Proofs.Ytplipfcnjmgicaa
open Go.RowKit Go.Sort
set_option linter.unusedVariables false
set_option linter.unusedSimpArgs false

/-- The window around s beats holds L just if s is the shift, and nothing is lost. -/
theorem in_window {a2 a5 L s : Int} (h2 : 0 < a2) (h5 : 0 ≤ a5 ∧ 2 * a5 < a2) : (-a5 ≤ L - s * a2 ∧ L - s * a2 ≤ a5) ↔ ((L + a5) % a2 ≤ 2 * a5 ∧ s = (L + a5) / a2) := by
  have e := Int.emod_add_mul_ediv (L + a5) a2
  have m0 := Int.emod_nonneg (L + a5) (by omega : a2 ≠ 0)
  have m1 := Int.emod_lt_of_pos (L + a5) h2
  constructor
  · intro ⟨h3, h4⟩
    have : L + a5 = (L + a5 - s * a2) + a2 * s := by rw [Int.mul_comm a2 s]; omega
    have hd : (L + a5) / a2 = s := by
      rw [this, Int.add_mul_ediv_left _ _ (by omega), Int.ediv_eq_zero_of_lt (by omega) (by omega)]; omega
    have hm : (L + a5) % a2 = L + a5 - s * a2 := by rw [hd, Int.mul_comm] at e; omega
    exact ⟨by omega, hd.symm⟩
  · rintro ⟨h3, rfl⟩
    rw [Int.mul_comm]
    omega

theorem near_shift {a2 a5 L : Int} (h2 : 0 < a2) (h5 : 0 ≤ a5 ∧ 2 * a5 < a2) : L.tdiv a2 - 1 ≤ (L + a5) / a2 ∧ (L + a5) / a2 ≤ L.tdiv a2 + 1 := by
  have e1 := Int.emod_add_mul_ediv (L + a5) a2
  have m0 := Int.emod_nonneg (L + a5) (by omega : a2 ≠ 0)
  have m1 := Int.emod_lt_of_pos (L + a5) h2
  have e2 := Int.tmod_add_mul_tdiv L a2
  have m2 : -a2 < L.tmod a2 ∧ L.tmod a2 < a2 := by
    have h := Int.tmod_lt_of_pos L h2
    have h' := Int.lt_tmod_of_pos L h2
    exact ⟨h', h⟩
  obtain ⟨Q, hQ⟩ : ∃ Q, Q = (L + a5) / a2 := ⟨_, rfl⟩
  obtain ⟨D, hD⟩ : ∃ D, D = L.tdiv a2 := ⟨_, rfl⟩
  rw [← hQ] at e1
  rw [← hD] at e2
  rw [← hQ, ← hD]
  constructor
  · refine Int.not_lt.1 fun hlt => ?_
    have := Int.mul_le_mul_of_nonneg_left (show Q ≤ D - 2 by omega) (show 0 ≤ a2 by omega)
    rw [Int.mul_sub] at this
    omega
  · refine Int.not_lt.1 fun hlt => ?_
    have := Int.mul_le_mul_of_nonneg_left (show D + 2 ≤ Q by omega) (show 0 ≤ a2 by omega)
    rw [Int.mul_add] at this
    omega

set_option maxHeartbeats 2000000 in
set_option maxRecDepth 1000000 in
theorem rshift_any (a0 a1 a2 a3 a4 a5 T : Int) (h : OkLine a0 a1 a2 a3 a4 a5) (hT : -500 ≤ T ∧ T ≤ 1000) (w : World) :
    Calls Try.prog 58 #[.agg #[.int .i64 a0, .int .i64 a1, .int .i64 a2, .int .i64 a3, .int .i64 a4, .int .i64 a5], .int .i64 T] w fun e w' =>
      e = .returned (.tuple #[.int .i64 (shiftOf a2 a5 (lateOf a0 a1 a2 a3 a4 T)), .bool (!lostOf a2 a5 (lateOf a0 a1 a2 a3 a4 T))]) ∧ Below w.heap.size w w' := by
  obtain ⟨b1, b2⟩ := late_bound h hT
  obtain ⟨m, hm⟩ : ∃ m, m = a4 * T := ⟨_, rfl⟩
  obtain ⟨q, hq⟩ : ∃ q, q = a0 * a1 * a2 := ⟨_, rfl⟩
  obtain ⟨L, hL⟩ : ∃ L, L = a3 + m - q := ⟨_, rfl⟩
  have eL : lateOf a0 a1 a2 a3 a4 T = L := by rw [hL, hm, hq]; rfl
  rw [eL]
  rw [← hm] at b1
  rw [← hq] at b2
  have g0 := h.h0
  have g1 := h.h1
  have g2 := h.h2
  have g3 := h.h3
  have g5 := h.h5
  have gm := mul_bound ⟨g0, g1⟩
  have w0 : wrap64 (a0 * a1) = a0 * a1 := wrap_in (by omega) (by omega)
  have w1 : wrap64 (a4 * T) = m := by rw [← hm]; exact wrap_in (by omega) (by omega)
  have w3 : wrap64 (a0 * a1 * a2) = q := by rw [← hq]; exact wrap_in (by omega) (by omega)
  have w4 : a3 + m - q = L := hL.symm
  have lb : -2000000000 ≤ L ∧ L ≤ 2000000000 := by omega
  have nb : L.tdiv a2 - 1 ≤ (L + a5) / a2 ∧ (L + a5) / a2 ≤ L.tdiv a2 + 1 := near_shift (by omega) ⟨by omega, by omega⟩
  have nd : (L.tdiv a2).natAbs ≤ L.natAbs := Int.natAbs_tdiv_le_natAbs L a2
  obtain ⟨D, hD⟩ : ∃ D, D = L.tdiv a2 := ⟨_, rfl⟩
  obtain ⟨Q, hQ⟩ : ∃ Q, Q = (L + a5) / a2 := ⟨_, rfl⟩
  obtain ⟨B, hB⟩ : ∃ B, B = (L + a5) % a2 := ⟨_, rfl⟩
  have EL : Hid (lostOf a2 a5 L = decide (2 * a5 < B)) := by rw [hB]; exact rfl
  have ES : Hid (shiftOf a2 a5 L = if 2 * a5 < B then 0 else Q) := by rw [hB, hQ]; exact rfl
  have IW : Hid (∀ s, (-a5 ≤ L - s * a2 ∧ L - s * a2 ≤ a5) ↔ (B ≤ 2 * a5 ∧ s = Q)) := fun s => by rw [hB, hQ]; exact in_window (by omega) ⟨by omega, by omega⟩
  have DD : L.tdiv a2 = D := hD.symm
  rw [← hD] at nb nd
  rw [← hQ] at nb
  have db : -2000000000 ≤ D ∧ D ≤ 2000000000 := by omega
  have hz : (a2 == 0) = false := by simp; omega
  clear hm hq hL eL hB hQ hD nd
  go_enter Try.func58, Try.ntmps58
  go_wp2
  clear w0 w1 w3 w4 DD hz
  go_loop [8] (fun v => ∃ s : Int, v = .int .i64 s ∧ D - 1 ≤ s ∧ s ≤ D + 2 ∧ (B ≤ 2 * a5 → s ≤ Q)) (fun v => (D + 2 - intOf v).toNat)
  case atStart => exact ⟨D - 1, rfl, by omega, by omega, fun _ => by omega⟩
  case round =>
    obtain ⟨s, rfl, hs1, hs2, hs3⟩ := hrel
    have HS3 : Hid (B ≤ 2 * a5 → s ≤ Q) := hs3
    clear hs3
    by_cases hend : s ≤ D + 1
    · have sb : -300000000000000 ≤ s * a2 ∧ s * a2 ≤ 300000000000000 := by
        have h1 : (s * a2).natAbs = s.natAbs * a2.natAbs := Int.natAbs_mul _ _
        have h2 : s.natAbs * a2.natAbs ≤ 2000000001 * 100000 := Nat.mul_le_mul (by omega) (by omega)
        omega
      obtain ⟨z, hz⟩ : ∃ z, z = s * a2 := ⟨_, rfl⟩
      have iw := IW.out s
      rw [← hz] at sb iw
      have wz : wrap64 (s * a2) = z := by rw [← hz]; exact wrap_in (by omega) (by omega)
      by_cases hin : -a5 ≤ L - z ∧ L - z ≤ a5
      · obtain ⟨j1, j2⟩ := iw.1 hin
        have J : Hid (B ≤ 2 * a5 ∧ s = Q) := ⟨j1, j2⟩
        have cI : Hid (∀ w, Calls Try.prog 55 #[.int .i64 (L - z), .int .i64 (-a5), .int .i64 a5] w fun e w' => e = .returned (.bool true) ∧ w' = w) := fun w => rin_t _ _ _ hin w
        clear j1 j2 iw hz
        go_wp2_with fail
        refine (cI.out _).mono ?_; rintro e w' ⟨rfl, rfl⟩
        go_wp2
        go_returns
        refine ⟨?_, by go_grown⟩
        rw [EL.out, ES.out, J.out.2]
        have := J.out.1
        simp [Int.not_lt.2 this]
      · have cI : Hid (∀ w, Calls Try.prog 55 #[.int .i64 (L - z), .int .i64 (-a5), .int .i64 a5] w fun e w' => e = .returned (.bool false) ∧ w' = w) := fun w => rin_f _ _ _ hin w
        have J : Hid (B ≤ 2 * a5 → s + 1 ≤ Q) := fun hb => by
          have h1 := HS3.out hb
          have h2 : s ≠ Q := fun e => hin (iw.2 ⟨hb, e⟩)
          omega
        clear iw hz hin
        go_wp2_with fail
        refine (cI.out _).mono ?_; rintro e w' ⟨rfl, rfl⟩
        go_wp2
        go_round
        case rel => exact ⟨s + 1, rfl, by omega, by omega, J.out⟩
        case measure => simp [intOf]; omega
    · have J : Hid (2 * a5 < B) := by
        show 2 * a5 < B
        refine Int.not_le.1 fun hb => ?_
        have := HS3.out hb
        omega
      go_wp2
      go_returns
      refine ⟨?_, by go_grown⟩
      rw [EL.out, ES.out, if_pos J.out]
      simp [J.out]
end Go.Proofs.Ytplipfcnjmgicaa
