/-
  CONTRACTS OF SMALL FUNCTIONS OF THE MACHINE. No statement is proved here.
-/
import Derived.Test.YtmkcijecncdhpaaOM
import Derived.Deep.QuietTactic
import Derived.BigQuiet
import Derived.WalkLawsBesides
namespace Go.Proofs.Ytmkcijecncdhpaa
open Go.RowKit
set_option linter.unusedVariables false
set_option linter.unusedSimpArgs false

set_option maxHeartbeats 2000000 in
theorem within_any (g : Int) (A : Option Addr) (c : Nat) (zs : List Int) (hl : zs.length ≤ maxLen) (B : Nat) (w : World) (h : IntsAt w B A zs) :
    Calls Try.prog 48 #[.int .i64 g, .slice A zs.length c] w fun e w' => e = .returned (.bool (zs.all (inB g))) ∧ w' = w := by
  unfold maxLen at hl
  go_enter Try.func48, Try.ntmps48
  go_wp2
  go_loop [9] (fun i => ∃ k : Nat, k ≤ zs.length ∧ i = .int .i64 k ∧ (zs.take k).all (inB g) = true) (fun i => zs.length - (intOf i).toNat)
  case atStart => exact ⟨0, by omega, rfl, rfl⟩
  case round =>
    obtain ⟨k, hk, rfl, hall⟩ := hrel
    have HA := Lib.hid hall
    clear hall
    by_cases hlt : k < zs.length
    · obtain ⟨ad, rfl, hlb, hc⟩ := h.at_ hlt
      have hall1 : (zs.take (k + 1)).all (inB g) = inB g zs[k] := by
        rw [List.take_succ_eq_append_getElem hlt, List.all_append, HA.out]
        simp
      have HN := Lib.hid hall1
      clear hall1
      generalize hz : zs[k] = z at *
      have HZ := Lib.hid hz
      clear hz
      by_cases h0 : z < 0
      · have hf : inB g z = false := inB_f (by omega)
        have HF := Lib.hid hf
        clear hf
        go_wp2
        go_ret
        refine ⟨?_, rfl⟩
        have : zs.all (inB g) = false := by
          rw [List.all_eq_false]
          exact ⟨z, by rw [← HZ.out]; exact List.getElem_mem _, by rw [HF.out]; decide⟩
        rw [this]; rfl
      · by_cases h1 : g < z
        · have hf : inB g z = false := inB_f (by omega)
          have HF := Lib.hid hf
          clear hf
          go_wp2
          go_ret
          refine ⟨?_, rfl⟩
          have : zs.all (inB g) = false := by
            rw [List.all_eq_false]
            exact ⟨z, by rw [← HZ.out]; exact List.getElem_mem _, by rw [HF.out]; decide⟩
          rw [this]; rfl
        · have HT := Lib.hid (inB_t (g := g) (z := z) (by omega))
          go_wp2
          go_round
          case rel => exact ⟨k + 1, by omega, by go_num, by rw [HN.out, HT.out]⟩
          case measure => simp [intOf]; omega
    · obtain rfl : k = zs.length := by omega
      rw [List.take_length] at HA
      go_wp2
      go_ret
      exact ⟨by rw [HA.out]; rfl, rfl⟩

theorem areWords_any (A : Option Addr) (c : Nat) (zs : List Int) (hl : zs.length ≤ maxLen) (B : Nat) (w : World) (h : IntsAt w B A zs) :
    Calls Try.prog 40 #[.slice A zs.length c] w fun e w' => e = .returned (.bool (zs.all (inB 16777215))) ∧ w' = w := by
  go_enter Try.func40, Try.ntmps40
  go_wp2_with fail
  refine (within_any 16777215 A c zs hl B _ h).mono ?_; rintro e w' ⟨rfl, rfl⟩
  go_wp2
  go_ret
  exact ⟨rfl, rfl⟩
theorem areAddr_any (A : Option Addr) (c : Nat) (zs : List Int) (hl : zs.length ≤ maxLen) (B : Nat) (w : World) (h : IntsAt w B A zs) :
    Calls Try.prog 41 #[.slice A zs.length c] w fun e w' => e = .returned (.bool (zs.all (inB 127))) ∧ w' = w := by
  go_enter Try.func41, Try.ntmps41
  go_wp2_with fail
  refine (within_any 127 A c zs hl B _ h).mono ?_; rintro e w' ⟨rfl, rfl⟩
  go_wp2
  go_ret
  exact ⟨rfl, rfl⟩

theorem placeOf_any (x : Int) (w : World) : Calls Try.prog 43 #[.int .i64 x] w fun e w' => e = .returned (.int .i64 (x % 16)) ∧ w' = w := by
  have H := Lib.hid (band_15 x)
  go_enter Try.func43, Try.ntmps43
  go_wp2
  go_ret
  exact ⟨by show Ending.returned (.int .i64 (bits .and .i64 x 15)) = _; rw [H.out], rfl⟩
theorem toWord_any (x : Int) (w : World) : Calls Try.prog 82 #[.int .i64 x] w fun e w' => e = .returned (.int .i64 (x % 16777216)) ∧ w' = w := by
  have H := Lib.hid (band_word x)
  go_enter Try.func82, Try.ntmps82
  go_wp2
  go_ret
  exact ⟨by show Ending.returned (.int .i64 (bits .and .i64 x 16777215)) = _; rw [H.out], rfl⟩
theorem signed_any (x : Int) (hx : 0 ≤ x ∧ x ≤ 16777215) (w : World) : Calls Try.prog 54 #[.int .i64 x] w fun e w' => e = .returned (.int .i64 (signO x)) ∧ w' = w := by
  by_cases h : 8388608 ≤ x
  · have H := Lib.hid (show signO x = x - 16777216 by unfold signO; rw [if_pos h])
    go_enter Try.func54, Try.ntmps54
    go_wp2
    go_ret
    exact ⟨by rw [H.out]; rfl, rfl⟩
  · have H := Lib.hid (show signO x = x by unfold signO; rw [if_neg h])
    go_enter Try.func54, Try.ntmps54
    go_wp2
    go_ret
    exact ⟨by rw [H.out]; rfl, rfl⟩
theorem rsign_any (x : Int) (hx : 0 ≤ x ∧ x ≤ 16777215) (w : World) : Calls Try.prog 55 #[.int .i64 x] w fun e w' => e = .returned (.int .i64 (signO x)) ∧ w' = w := by
  by_cases h : 8388608 ≤ x
  · have H := Lib.hid (show signO x = x - 16777216 by unfold signO; rw [if_pos h])
    go_enter Try.func55, Try.ntmps55
    go_wp2
    go_ret
    exact ⟨by rw [H.out]; rfl, rfl⟩
  · have H := Lib.hid (show signO x = x by unfold signO; rw [if_neg h])
    go_enter Try.func55, Try.ntmps55
    go_wp2
    go_ret
    exact ⟨by rw [H.out]; rfl, rfl⟩
theorem rin_any (x lo hi : Int) (w : World) : Calls Try.prog 56 #[.int .i64 x, .int .i64 lo, .int .i64 hi] w fun e w' => e = .returned (.bool (decide (lo ≤ x) && decide (x ≤ hi))) ∧ w' = w := by
  by_cases h : lo ≤ x
  · go_enter Try.func56, Try.ntmps56
    go_wp2
    go_ret
    simp [h]
  · go_enter Try.func56, Try.ntmps56
    go_wp2
    go_ret
    refine ⟨?_, rfl⟩
    simp [h]
    intro h1
    omega
theorem rword_any (x : Int) (w : World) : Calls Try.prog 30 #[.int .i64 x] w fun e w' => e = .returned (.bool (inB 16777215 x)) ∧ w' = w := by
  go_enter Try.func30, Try.ntmps30
  go_wp2_with fail
  refine (rin_any x 0 16777215 _).mono ?_; rintro e w' ⟨rfl, rfl⟩
  go_wp2
  go_ret
  exact ⟨rfl, rfl⟩
theorem raddr_any (x : Int) (w : World) : Calls Try.prog 61 #[.int .i64 x] w fun e w' => e = .returned (.bool (inB 127 x)) ∧ w' = w := by
  go_enter Try.func61, Try.ntmps61
  go_wp2_with fail
  refine (rin_any x 0 127 _).mono ?_; rintro e w' ⟨rfl, rfl⟩
  go_wp2
  go_ret
  exact ⟨rfl, rfl⟩

theorem unpack_any (x : Int) (hx : 0 ≤ x ∧ x ≤ 16777215) (i : Nat) (hi : i ≤ 3) (w : World) : Calls Try.prog 71 #[.int .i64 x, .int .i64 i] w fun e w' => e = .returned (.int .i64 (x / 2 ^ (i * 7) % 128)) ∧ w' = w := by
  have H := Lib.hid (band_127 (x / 2 ^ (i * 7)))
  have hs : Op.shift BinOp.shr IntKind.i64 x IntKind.i64 ((i : Int) * 7) = pure (.int .i64 (x / 2 ^ (i * 7))) := by
    rw [shift_shr .i64 .i64 x _ (by omega) (by show (i : Int) * 7 ≤ 64; omega)]
    congr 3
  go_enter Try.func71, Try.ntmps71
  go_wp2
  go_ret
  exact ⟨by show Ending.returned (.int .i64 (bits .and .i64 _ 127)) = _; rw [← H.out], rfl⟩
end Go.Proofs.Ytmkcijecncdhpaa
