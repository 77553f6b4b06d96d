/-
  CONTRACTS OF SMALL FUNCTIONS OF KINDS. No statement is proved here.
-/
import Derived.Test.YtgbignkkieoffaaMg1
import Derived.Deep.QuietTactic
import Derived.BigQuiet
import Derived.LoopTactic
import Derived.WalkLawsBesides
namespace Go.Proofs.Ytgbignkkieoffaa
open Go.RowKit Mg
set_option linter.unusedVariables false
set_option linter.unusedSimpArgs false

theorem numErr_bad {lo hi : Int} {zs : List Int} {k : Nat} (hk : k < zs.length) (h : inS lo hi zs[k] = false) : numErr lo hi zs = 7 := by
  unfold numErr
  rw [if_neg]
  rw [List.all_eq_true]
  intro h2
  have := h2 zs[k] (List.getElem_mem _)
  rw [h] at this
  exact absurd this (by decide)
theorem numErr_ok {lo hi : Int} {zs : List Int} (h : zs.all (inS lo hi) = true) : numErr lo hi zs = 0 := by
  unfold numErr
  rw [if_pos h]
set_option maxHeartbeats 2000000 in
theorem numbers_any (lo hi : Int) (A : Option Addr) (c : Nat) (zs : List Int) (hl : zs.length ≤ maxLen) (B : Nat) (w : World) (h : IntsAt w B A zs) :
    Calls Try.prog 25 #[.int .i64 lo, .int .i64 hi, .slice A zs.length c] w fun e w' => e = .returned (.int .i64 (numErr lo hi zs)) ∧ w' = w := by
  unfold maxLen at hl
  go_enter Try.func25, Try.ntmps25
  go_wp2
  go_loop [11] (fun i => ∃ k : Nat, k ≤ zs.length ∧ i = .int .i64 k ∧ (zs.take k).all (inS lo hi) = true) (fun i => zs.length - (intOf i).toNat)
  case atStart => exact ⟨0, by omega, rfl, rfl⟩
  case round =>
    obtain ⟨k, hk, rfl, hall⟩ := hrel
    have HA := Lib.hid hall
    clear hall
    by_cases hlt : k < zs.length
    · obtain ⟨ad, rfl, hlb, hc⟩ := h.at_ hlt
      have hall1 : (zs.take (k + 1)).all (inS lo hi) = inS lo hi zs[k] := by
        rw [List.take_succ_eq_append_getElem hlt, List.all_append, HA.out]
        simp
      have HN := Lib.hid hall1
      have HB := Lib.hid (fun hf => numErr_bad (lo := lo) (hi := hi) hlt hf)
      clear hall1
      generalize hz : zs[k] = z at *
      have HZ := Lib.hid hz
      clear hz
      by_cases h0 : z < lo
      · have HF := Lib.hid (HB.out (inS_not.2 (by omega)))
        go_wp2
        go_ret
        exact ⟨by rw [HF.out]; rfl, rfl⟩
      · by_cases h1 : hi < z
        · have HF := Lib.hid (HB.out (inS_not.2 (by omega)))
          go_wp2
          go_ret
          exact ⟨by rw [HF.out]; rfl, rfl⟩
        · have HT := Lib.hid (show inS lo hi z = true from inS_iff.2 (by omega))
          go_wp2
          go_round
          case rel => exact ⟨k + 1, by omega, by go_num, by rw [HN.out, HT.out]⟩
          case measure => simp [intOf]; omega
    · obtain rfl : k = zs.length := by omega
      rw [List.take_length] at HA
      have HF := Lib.hid (numErr_ok HA.out)
      go_wp2
      go_ret
      exact ⟨by rw [HF.out]; rfl, rfl⟩
theorem numbers_1 (lo hi x : Int) (ad : Addr) (w : World) (h : w.cell? ad = some (.int .i64 x)) :
    Calls Try.prog 25 #[.int .i64 lo, .int .i64 hi, .slice (some ad) 1 1] w fun e w' => e = .returned (.int .i64 (numErr lo hi [x])) ∧ w' = w :=
  numbers_any lo hi (some ad) 1 [x] (show 1 ≤ maxLen by decide) (ad.block + 1) w (fun _ => ⟨ad, rfl, by omega, fun j hj => by
    obtain rfl : j = 0 := by simpa using hj
    simpa [Addr.add] using h⟩)
theorem numbers_2 (lo hi x y : Int) (b : Nat) (w : World) (h0 : w.cell? ⟨b, 0, none⟩ = some (.int .i64 x)) (h1 : w.cell? ⟨b, 1, none⟩ = some (.int .i64 y)) :
    Calls Try.prog 25 #[.int .i64 lo, .int .i64 hi, .slice (some ⟨b, 0, none⟩) 2 2] w fun e w' => e = .returned (.int .i64 (numErr lo hi [x, y])) ∧ w' = w :=
  numbers_any lo hi (some ⟨b, 0, none⟩) 2 [x, y] (show 2 ≤ maxLen by decide) (b + 1) w (fun _ => ⟨⟨b, 0, none⟩, rfl, by show b < b + 1; omega, fun j hj => by
    obtain rfl | rfl : j = 0 ∨ j = 1 := by simp at hj; omega
    · simpa [Addr.add] using h0
    · simpa [Addr.add] using h1⟩)
theorem numErr_1 (lo hi x : Int) : numErr lo hi [x] = if inS lo hi x then 0 else 7 := by simp [numErr]
theorem numErr_2 (lo hi x y : Int) : numErr lo hi [x, y] = if inS lo hi x && inS lo hi y then 0 else 7 := by simp [numErr]
theorem rin_any (x lo hi : Int) (w : World) : Calls Try.prog 28 #[.int .i64 x, .int .i64 lo, .int .i64 hi] w fun e w' => e = .returned (.bool (inS lo hi x)) ∧ w' = w := by
  by_cases h : lo ≤ x
  · go_enter Try.func28, Try.ntmps28
    go_wp2
    go_ret
    simp [h, inS]
  · go_enter Try.func28, Try.ntmps28
    go_wp2
    go_ret
    refine ⟨?_, rfl⟩
    simp [h, inS]
    intro h1
    omega
end Go.Proofs.Ytgbignkkieoffaa
