/-
  CONTRACTS OF the minor cycles: after, the reference's After and when. No statement is proved here.
-/
import Derived.Test.YtmkcijecncdhpaaOw4
namespace Go.Proofs.Ytmkcijecncdhpaa
open Go.RowKit
set_option linter.unusedVariables false
set_option linter.unusedSimpArgs false

theorem after_any (t a : Int) (ht : 0 ≤ t ∧ t ≤ 2000000000) (ha : 0 ≤ a ∧ a ≤ 127) (w : World) :
    Calls Try.prog 81 #[.int .i64 t, .int .i64 a] w fun e w' => e = .returned (.int .i64 (aft t a)) ∧ w' = w := by
  have H := Lib.hid (placeOf_any (a - t - 1))
  have hb := aft_bd t a
  have HA : Hid (aft t a = t + 1 + (a - t - 1) % 16) := Lib.hid rfl
  have h0 : 0 ≤ (a - t - 1) % 16 := by omega
  have h1 : (a - t - 1) % 16 ≤ 15 := by omega
  obtain ⟨ht0, ht1⟩ := ht
  obtain ⟨ha0, ha1⟩ := ha
  clear hb
  go_enter Try.func81, Try.ntmps81
  go_wp2_with fail
  refine (H.out _).mono ?_; rintro e w' ⟨rfl, rfl⟩
  generalize (a - t - 1) % 16 = r at *
  go_wp2
  go_ret
  exact ⟨by rw [HA.out]; rfl, rfl⟩

theorem aft_least {t a x : Int} (h1 : t + 1 ≤ x) (h2 : x < aft t a) : x % 16 ≠ a % 16 := by unfold aft at h2; omega
set_option maxHeartbeats 2000000 in
theorem rafter_any (t a : Int) (ht : 0 ≤ t ∧ t ≤ 2000000000) (ha : 0 ≤ a ∧ a ≤ 127) (w : World) :
    Calls Try.prog 72 #[.int .i64 t, .int .i64 a] w fun e w' => e = .returned (.int .i64 (aft t a)) ∧ w' = w := by
  have hb := aft_bd t a
  have hm := aft_mod t a
  have HM := Lib.hid hm
  have HL : Hid (∀ x, t + 1 ≤ x → x < aft t a → x % 16 ≠ a % 16) := Lib.hid fun x => aft_least
  generalize aft t a = F at *
  obtain ⟨ht0, ht1⟩ := ht
  obtain ⟨ha0, ha1⟩ := ha
  obtain ⟨hb0, hb1⟩ := hb
  clear hm
  go_enter Try.func72, Try.ntmps72
  go_wp2
  go_loop [5] (fun x => ∃ n : Int, t + 1 ≤ n ∧ n ≤ F ∧ x = .int .i64 n) (fun x => (F - intOf x).toNat)
  case atStart => exact ⟨t + 1, by omega, by omega, rfl⟩
  case round =>
    obtain ⟨n, hn1, hn2, rfl⟩ := hrel
    by_cases he : n = F
    · have HE := Lib.hid he
      clear he
      have hq : (n % 16 != a % 16) = false := by rw [HE.out, HM.out]; simp
      go_wp2
      go_ret
      exact ⟨by rw [HE.out]; rfl, rfl⟩
    · have hq : (n % 16 != a % 16) = true := by have := HL.out n hn1 (by omega); simpa using this
      have hn3 : n < F := by omega
      clear he
      go_wp2
      go_round
      case rel => exact ⟨n + 1, by omega, by omega, rfl⟩
      case measure => simp [intOf]; omega
end Go.Proofs.Ytmkcijecncdhpaa
