/-
  CONTRACTS OF errorOfWords, and of Words of the reference: a slice that reads as a list of ints. No statement is proved here.
-/
import Derived.Test.YtplipfcnjmgicaaRf1
import Derived.Test.YtplipfcnjmgicaaMem
import Derived.Laws.OwnMore
import Derived.Deep.AppendLies
import Derived.Deep.Draws
import Derived.Lib.Hide
namespace Go.Proofs.Ytplipfcnjmgicaa
open Go.RowKit
set_option linter.unusedVariables false
set_option linter.unusedSimpArgs false

/-- A word of b bits. -/
def wordB (b z : Int) : Bool := decide (0 ≤ z) && decide (z ≤ 2 ^ b.toNat - 1)
/-- The error of words of the right number. -/
def wordsE (b : Int) (zs : List Int) : Int := if zs.all (wordB b) = true then 0 else 7
/-- The error of words. -/
def wordsErr (a0 a1 : Int) (zs : List Int) : Int := if (zs.length : Int) = a0 then wordsE a1 zs else 3

theorem pow_bound {b : Int} (h : 1 ≤ b ∧ b ≤ 40) : 2 ≤ (2 : Int) ^ b.toNat ∧ (2 : Int) ^ b.toNat ≤ 1099511627776 := by
  obtain ⟨n, hn⟩ : ∃ n : Nat, b.toNat = n := ⟨_, rfl⟩
  have h1 : 1 ≤ n ∧ n ≤ 40 := by omega
  rw [hn]
  have a1 : (2 : Nat) ^ 1 ≤ 2 ^ n := Nat.pow_le_pow_right (by decide) h1.1
  have a2 : (2 : Nat) ^ n ≤ 2 ^ 40 := Nat.pow_le_pow_right (by decide) h1.2
  have e : ((2 : Int) ^ n) = ((2 ^ n : Nat) : Int) := by simp
  rw [e]
  omega

set_option maxHeartbeats 2000000 in
theorem errorOfWords_ok (a1 a2 a3 a4 a5 : Int) (hb : 1 ≤ a1 ∧ a1 ≤ 40) (A : Option Addr) (c : Nat) (zs : List Int) (hz : zs.length ≤ 64) (w : World) (hR : IntsAt w w.heap.size A zs) :
    Calls Try.prog 63 #[.agg #[.int .i64 zs.length, .int .i64 a1, .int .i64 a2, .int .i64 a3, .int .i64 a4, .int .i64 a5], .slice A zs.length c] w fun e w' => e = .returned (.int .i64 (wordsE a1 zs)) ∧ Below w.heap.size w w' := by
  obtain ⟨P, hP⟩ : ∃ P : Int, P = 2 ^ a1.toNat := ⟨_, rfl⟩
  have pb := pow_bound hb
  rw [← hP] at pb
  go_enter Try.func63, Try.ntmps63
  go_wp2
  have c1 : (w.alloc (.cells #[.int .i64 zs.length, .int .i64 a1, .int .i64 a2, .int .i64 a3, .int .i64 a4, .int .i64 a5] 25)).cell? ⟨w.heap.size, 1, none⟩ = some (.int .i64 a1) := by simp [go_sem]
  have hB : Below w.heap.size w (w.alloc (.cells #[.int .i64 zs.length, .int .i64 a1, .int .i64 a2, .int .i64 a3, .int .i64 a4, .int .i64 a5] 25)) := by go_grown
  have hR1 := hR.below hB
  generalize (w.alloc (.cells #[.int .i64 zs.length, .int .i64 a1, .int .i64 a2, .int .i64 a3, .int .i64 a4, .int .i64 a5] 25)) = W at *
  go_loop [14] (fun i => ∃ k : Nat, k ≤ zs.length ∧ i = .int .i64 k ∧ (zs.take k).all (wordB a1) = true) (fun i => zs.length - (intOf i).toNat)
  case atStart => exact ⟨0, by omega, rfl, rfl⟩
  case round =>
    obtain ⟨k, hk, rfl, hall⟩ := hrel
    have HA := Lib.hid hall
    clear hall
    by_cases hlt : k < zs.length
    · obtain ⟨ad, rfl, hlb, hc⟩ := hR1.at_ hlt
      have hall1 : (zs.take (k + 1)).all (wordB a1) = (decide (0 ≤ zs[k]) && decide (zs[k] ≤ P - 1)) := by
        rw [List.take_succ_eq_append_getElem hlt, List.all_append, HA.out, hP]
        simp [wordB]
      have hE : wrap64 (wrap64 (2 ^ a1.toNat) - 1) = P - 1 := by have h1 : wrap64 P = P := wrap_in (by omega) (by omega); rw [← hP, h1]; exact wrap_in (by omega) (by omega)
      have HE := Lib.hid hE
      have HN := Lib.hid hall1
      clear hP hE hall1
      go_wp2_with fail
      rw [HE.out]
      by_cases hw : 0 ≤ zs[k] ∧ zs[k] ≤ P - 1
      · refine (within_t zs[k] 0 (P - 1) hw _).mono ?_; rintro e w' ⟨rfl, rfl⟩
        go_wp2
        go_round
        case rel => exact ⟨k + 1, by omega, by go_num, by rw [HN.out]; simp [hw]⟩
        case measure => simp [intOf]; omega
      · refine (within_f zs[k] 0 (P - 1) hw _).mono ?_; rintro e w' ⟨rfl, rfl⟩
        go_wp2
        go_ret
        refine ⟨?_, hB⟩
        have hf : ¬ zs.all (wordB a1) = true := fun h => by
          have h1 : (zs.take (k + 1)).all (wordB a1) = true := by
            rw [List.all_eq_true] at h ⊢
            exact fun x hx => h x (List.mem_of_mem_take hx)
          rw [HN.out] at h1
          simp at h1
          exact hw h1
        unfold wordsE
        rw [if_neg hf]
        rfl
    · obtain rfl : k = zs.length := by omega
      rw [List.take_length] at HA
      go_wp2
      go_ret
      exact ⟨by unfold wordsE; rw [if_pos HA.out]; rfl, hB⟩

theorem errorOfWords_len (a0 a1 a2 a3 a4 a5 : Int) (A : Option Addr) (c : Nat) (zs : List Int) (hl : (zs.length : Int) ≠ a0) (hz : zs.length ≤ maxLen) (w : World) :
    Calls Try.prog 63 #[.agg #[.int .i64 a0, .int .i64 a1, .int .i64 a2, .int .i64 a3, .int .i64 a4, .int .i64 a5], .slice A zs.length c] w fun e w' => e = .returned (.int .i64 3) ∧ Below w.heap.size w w' := by
  unfold maxLen at hz
  have hl1 : ((zs.length : Int) == a0) = false := by simpa using hl
  have hl2 : ((zs.length : Int) != a0) = true := by simpa using hl
  clear hl
  go_enter Try.func63, Try.ntmps63
  go_wp2
  go_ret
  exact ⟨rfl, by go_grown⟩

/-- errorOfWords, of a line that Check takes. -/
theorem errorOfWords_any (a0 a1 a2 a3 a4 a5 : Int) (h : OkLine a0 a1 a2 a3 a4 a5) (A : Option Addr) (c : Nat) (zs : List Int) (hz : zs.length ≤ maxLen) (w : World) (hR : IntsAt w w.heap.size A zs) :
    Calls Try.prog 63 #[.agg #[.int .i64 a0, .int .i64 a1, .int .i64 a2, .int .i64 a3, .int .i64 a4, .int .i64 a5], .slice A zs.length c] w fun e w' => e = .returned (.int .i64 (wordsErr a0 a1 zs)) ∧ Below w.heap.size w w' := by
  have g0 := h.h0
  unfold wordsErr
  by_cases hl : (zs.length : Int) = a0
  · subst hl
    rw [if_pos rfl]
    exact errorOfWords_ok a1 a2 a3 a4 a5 h.h1 A c zs (by omega) w hR
  · rw [if_neg hl]
    exact errorOfWords_len a0 a1 a2 a3 a4 a5 A c zs hl hz w
end Go.Proofs.Ytplipfcnjmgicaa
