/-
  CONTRACTS OF the reference's Power and Words. No statement is proved here.
-/
import Derived.Test.YtplipfcnjmgicaaPs1
import Derived.Deep.QuietTactic
import Derived.BigQuiet
namespace Go.Proofs.Ytplipfcnjmgicaa
open Go.RowKit
set_option linter.unusedVariables false
set_option linter.unusedSimpArgs false

set_option maxHeartbeats 2000000 in
theorem power_any (n : Int) (hn : 1 ≤ n ∧ n ≤ 40) (w : World) : Calls Try.prog 90 #[.int .i64 n] w fun e w' => e = .returned (.int .i64 (2 ^ n.toNat)) ∧ w' = w := by
  have pb := fun (k : Nat) (h : k < n.toNat) => show (2 : Int) ^ (k + 1) = 2 * 2 ^ k ∧ (2 : Int) ^ k ≤ 1099511627776 ∧ 0 ≤ (2 : Int) ^ k by
    refine ⟨by rw [Int.pow_succ]; omega, ?_, ?_⟩
    · have a2 : (2 : Nat) ^ k ≤ 2 ^ 40 := Nat.pow_le_pow_right (by decide) (by omega)
      have e : ((2 : Int) ^ k) = ((2 ^ k : Nat) : Int) := by simp
      rw [e]; omega
    · exact Int.le_of_lt (Int.pow_pos (by decide))
  have PB := Lib.hid pb
  clear pb
  go_enter Try.func90, Try.ntmps90
  go_wp2
  go_loop [3, 4] (fun x i => ∃ k : Nat, k ≤ n.toNat ∧ i = .int .i64 k ∧ x = .int .i64 (2 ^ k)) (fun _ i => n.toNat - (intOf i).toNat)
  case atStart => exact ⟨0, by omega, rfl, rfl⟩
  case round =>
    obtain ⟨k, hk, rfl, rfl⟩ := hrel
    by_cases hlt : k < n.toNat
    · obtain ⟨e1, e2, e3⟩ := PB.out k hlt
      obtain ⟨X, hX⟩ : ∃ X : Int, X = 2 ^ k := ⟨_, rfl⟩
      rw [← hX] at e1 e2 e3 ⊢
      have E1 := Lib.hid e1
      clear hX e1
      have hk2 : (k : Int) < n := by omega
      go_wp2
      go_round
      case rel => exact ⟨k + 1, by omega, by go_num, by rw [E1.out]⟩
      case measure => simp [intOf]; omega
    · obtain rfl : k = n.toNat := by omega
      have hk2 : ¬ ((n.toNat : Int) < n) := by omega
      go_wp2
      go_ret
      exact ⟨rfl, rfl⟩

set_option maxHeartbeats 2000000 in
theorem words_ok (a1 a2 a3 a4 a5 : Int) (hb : 1 ≤ a1 ∧ a1 ≤ 40) (A : Option Addr) (c : Nat) (zs : List Int) (hz : zs.length ≤ 64) (w : World) (hR : IntsAt w w.heap.size A zs) :
    Calls Try.prog 68 #[.agg #[.int .i64 zs.length, .int .i64 a1, .int .i64 a2, .int .i64 a3, .int .i64 a4, .int .i64 a5], .slice A zs.length c] w fun e w' => e = .returned (.int .i64 (wordsE a1 zs)) ∧ Below w.heap.size w w' := by
  go_enter Try.func68, Try.ntmps68
  go_wp2
  have c1 : (w.alloc (.cells #[.int .i64 zs.length, .int .i64 a1, .int .i64 a2, .int .i64 a3, .int .i64 a4, .int .i64 a5] 25)).cell? ⟨w.heap.size, 1, none⟩ = some (.int .i64 a1) := by simp [go_sem]
  have hB : Below w.heap.size w (w.alloc (.cells #[.int .i64 zs.length, .int .i64 a1, .int .i64 a2, .int .i64 a3, .int .i64 a4, .int .i64 a5] 25)) := by go_grown
  have hR1 := hR.below hB
  generalize (w.alloc (.cells #[.int .i64 zs.length, .int .i64 a1, .int .i64 a2, .int .i64 a3, .int .i64 a4, .int .i64 a5] 25)) = W at *
  have hsz := hB.size
  have KP := Lib.hid (fun w => power_any a1 hb w)
  go_loopw [5] (fun i U => ∃ k : Nat, k ≤ zs.length ∧ i = .int .i64 k ∧ (zs.take k).all (wordB a1) = true ∧ U.cell? ⟨w.heap.size, 1, none⟩ = some (.int .i64 a1) ∧ IntsAt U w.heap.size A zs ∧ Below w.heap.size w U) (fun i _ => zs.length - (intOf i).toNat)
  case atStart => exact ⟨0, by omega, rfl, rfl, c1, hR1, hB⟩
  case round =>
    clear c1 hR1 hB
    obtain ⟨k, hk, rfl, hall, c1, hR1, hB⟩ := hrel
    have HA := Lib.hid hall
    clear hall
    by_cases hlt : k < zs.length
    · obtain ⟨ad, rfl, hlb, hc⟩ := hR1.at_ hlt
      have hall1 : (zs.take (k + 1)).all (wordB a1) = (decide (0 ≤ zs[k]) && decide (zs[k] ≤ 2 ^ a1.toNat - 1)) := by
        rw [List.take_succ_eq_append_getElem hlt, List.all_append, HA.out]
        simp [wordB]
      have HN := Lib.hid hall1
      clear hall1
      have pb := pow_bound hb
      have hm : IntKind.i64.wrap (2 ^ a1.toNat - 1) = 2 ^ a1.toNat - 1 := by rw [IntKind.wrap_i64]; omega
      clear pb
      by_cases hw : 0 ≤ zs[k] ∧ zs[k] ≤ 2 ^ a1.toNat - 1
      · go_wp2_with fail
        go_quiet (first | (go_at_call 90; exact Calls.quiet_of_same (power_any a1 hb _)) | (go_at_call 55; exact Calls.quiet_of_same (rin_t zs[k] 0 (2 ^ a1.toNat - 1) hw _)))
        clear hm
        go_wp2
        go_roundw
        case rel => exact ⟨k + 1, by omega, by go_num, by rw [HN.out]; simp [hw], c1, hR1, hB.trans ⟨rfl, rfl, rfl, Nat.le_refl _, fun _ _ => rfl⟩⟩
        case measure => simp [intOf]; omega
      · go_wp2_with fail
        go_quiet (first | (go_at_call 90; exact Calls.quiet_of_same (power_any a1 hb _)) | (go_at_call 55; exact Calls.quiet_of_same (rin_f zs[k] 0 (2 ^ a1.toNat - 1) hw _)))
        clear hm
        go_wp2
        go_ret
        refine ⟨?_, hB.trans ⟨rfl, rfl, rfl, Nat.le_refl _, fun _ _ => rfl⟩⟩
        have hf : ¬ zs.all (wordB a1) = true := fun h => by
          have h1 : (zs.take (k + 1)).all (wordB a1) = true := by
            rw [List.all_eq_true] at h ⊢
            exact fun x hx => h x (List.mem_of_mem_take hx)
          rw [HN.out] at h1
          simp at h1
          exact hw h1
        unfold wordsE
        rw [if_neg hf]
        rfl
    · obtain rfl : k = zs.length := by omega
      rw [List.take_length] at HA
      go_wp2
      go_ret
      exact ⟨by unfold wordsE; rw [if_pos HA.out]; rfl, hB⟩

theorem words_len (a0 a1 a2 a3 a4 a5 : Int) (A : Option Addr) (c : Nat) (zs : List Int) (hl : (zs.length : Int) ≠ a0) (hz : zs.length ≤ maxLen) (w : World) :
    Calls Try.prog 68 #[.agg #[.int .i64 a0, .int .i64 a1, .int .i64 a2, .int .i64 a3, .int .i64 a4, .int .i64 a5], .slice A zs.length c] w fun e w' => e = .returned (.int .i64 3) ∧ Below w.heap.size w w' := by
  unfold maxLen at hz
  have hl1 : ((zs.length : Int) == a0) = false := by simpa using hl
  have hl2 : ((zs.length : Int) != a0) = true := by simpa using hl
  clear hl
  go_enter Try.func68, Try.ntmps68
  go_wp2
  go_ret
  exact ⟨rfl, by go_grown⟩

/-- Words of the reference, of a line that Check takes. -/
theorem words_any (a0 a1 a2 a3 a4 a5 : Int) (h : OkLine a0 a1 a2 a3 a4 a5) (A : Option Addr) (c : Nat) (zs : List Int) (hz : zs.length ≤ maxLen) (w : World) (hR : IntsAt w w.heap.size A zs) :
    Calls Try.prog 68 #[.agg #[.int .i64 a0, .int .i64 a1, .int .i64 a2, .int .i64 a3, .int .i64 a4, .int .i64 a5], .slice A zs.length c] w fun e w' => e = .returned (.int .i64 (wordsErr a0 a1 zs)) ∧ Below w.heap.size w w' := by
  have g0 := h.h0
  unfold wordsErr
  by_cases hl : (zs.length : Int) = a0
  · subst hl
    rw [if_pos rfl]
    exact words_ok a1 a2 a3 a4 a5 h.h1 A c zs (by omega) w hR
  · rw [if_neg hl]
    exact words_len a0 a1 a2 a3 a4 a5 A c zs hl hz w
end Go.Proofs.Ytplipfcnjmgicaa
