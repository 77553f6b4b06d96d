/-
  CONTRACTS OF SMALL FUNCTIONS OF NAMES: isLetter, isDigit, in; the loops of Name. No statement is proved here.
-/
import Derived.Test.YtplipfcnjmgicaaRows
import Derived.WalkKit
import Derived.WalkSpells
import Derived.ProofKit
import Derived.OpenShut
import Derived.Below
import Derived.Handy
import Derived.BigQuiet
namespace Go.Proofs.Ytplipfcnjmgicaa
open Go.RowKit
set_option linter.unusedVariables false

def letter (b : Int) : Bool := decide (97 ≤ b) && decide (b ≤ 122)
def digit (b : Int) : Bool := decide (48 ≤ b) && decide (b ≤ 57)

theorem isLetter_any (b : Int) (w : World) : Calls Try.prog 53 #[.int .u8 b] w fun e w' => e = .returned (.bool (letter b)) ∧ w' = w := by
  unfold letter
  by_cases h : 97 ≤ b
  · go_enter Try.func53, Try.ntmps53
    go_wp2
    go_ret
    simp [h]
  · go_enter Try.func53, Try.ntmps53
    go_wp2
    go_ret
    refine ⟨?_, rfl⟩
    simp [h]
    intro h1
    omega
theorem isDigit_any (b : Int) (w : World) : Calls Try.prog 54 #[.int .u8 b] w fun e w' => e = .returned (.bool (digit b)) ∧ w' = w := by
  unfold digit
  by_cases h : 48 ≤ b
  · go_enter Try.func54, Try.ntmps54
    go_wp2
    go_ret
    simp [h]
  · go_enter Try.func54, Try.ntmps54
    go_wp2
    go_ret
    refine ⟨?_, rfl⟩
    simp [h]
    intro h1
    omega
theorem in_any (x lo hi : Int) (w : World) : Calls Try.prog 55 #[.int .i64 x, .int .i64 lo, .int .i64 hi] w fun e w' => e = .returned (.bool (decide (lo ≤ x) && decide (x ≤ hi))) ∧ w' = w := by
  by_cases h : lo ≤ x
  · go_enter Try.func55, Try.ntmps55
    go_wp2
    go_ret
    simp [h]
  · go_enter Try.func55, Try.ntmps55
    go_wp2
    go_ret
    refine ⟨?_, rfl⟩
    simp [h]
    try (intro h1; omega)

/-! ### What a name is -/
def bt (s : ByteArray) (k : Nat) : Int := if h : k < s.size then (s[k].toNat : Int) else 0
theorem bt_eq {s : ByteArray} {k : Nat} (h : k < s.size) : ((s[k]'h).toNat : Int) = bt s k := by simp [bt, h]
def okc (b : Int) : Bool := letter b || digit b || decide (b = 95)
def okFrom (s : ByteArray) (k : Nat) : Bool := if k < s.size then okc (bt s k) && okFrom s (k + 1) else true
termination_by s.size - k
theorem okFrom_step {s : ByteArray} {k : Nat} (h : k < s.size) : okFrom s k = (okc (bt s k) && okFrom s (k + 1)) := by rw [okFrom, if_pos h]
theorem okFrom_end {s : ByteArray} {k : Nat} (h : ¬ k < s.size) : okFrom s k = true := by rw [okFrom, if_neg h]
def nm (s : ByteArray) : Bool := decide (1 ≤ s.size) && decide (s.size ≤ 20) && letter (bt s 0) && okFrom s 1 && !decide (bt s (s.size - 1) = 95)

theorem name_any (s : ByteArray) (hs : s.size < 9223372036854775808) (w : World) : Calls Try.prog 20 #[.string s] w fun e w' => e = .returned (.bool (nm s)) ∧ w' = w := by
  by_cases h1 : 1 ≤ s.size
  · by_cases h2 : s.size ≤ 20
    · cases h3 : letter (bt s 0) with
      | false =>
        have h4 : letter ((s[0]'(by omega)).toNat : Int) = false := by rw [bt_eq]; exact h3
        have hn : nm s = false := by simp [nm, h3]
        rw [hn]
        clear hn h3
        go_enter Try.func20, Try.ntmps20
        go_wp2_with (first | (go_call isLetter_any as e w' ⟨rfl, rfl⟩; rw [h4]))
        go_ret
        exact ⟨rfl, rfl⟩
      | true =>
        have h4 : letter ((s[0]'(by omega)).toNat : Int) = true := by rw [bt_eq]; exact h3
        have hn : nm s = (okFrom s 1 && !decide (bt s (s.size - 1) = 95)) := by simp [nm, h1, h2, h3]
        rw [hn]
        clear hn h3
        go_enter Try.func20, Try.ntmps20
        go_wp2_with (first | (go_call isLetter_any as e w' ⟨rfl, rfl⟩; rw [h4]))
        clear h4
        go_loop [3] (fun i => ∃ k : Nat, 1 ≤ k ∧ k ≤ s.size ∧ i = .int .i64 k ∧ okFrom s 1 = okFrom s k) (fun i => s.size - (intOf i).toNat)
        case atStart => exact ⟨1, by omega, h1, rfl, rfl⟩
        case round =>
          obtain ⟨k, hk1, hk2, rfl, hok⟩ := hrel
          have HD : Hid (okFrom s 1 = okFrom s k) := hok
          clear hok
          by_cases hlt : k < s.size
          · have hs1 : k + 1 ≤ s.size := hlt
            cases hl : letter ((s[k]'hlt).toNat : Int) with
            | true =>
              go_wp2_with (first | (go_call isLetter_any as e w' ⟨rfl, rfl⟩; rw [hl]) | (go_call isDigit_any as e w' ⟨rfl, rfl⟩))
              go_round
              case rel => exact ⟨k + 1, by omega, by omega, by go_num, by rw [HD.out, okFrom_step hlt, ← bt_eq hlt]; simp [okc, hl]⟩
              case measure => simp [intOf]; omega
            | false =>
              cases hdg : digit ((s[k]'hlt).toNat : Int) with
              | true =>
                go_wp2_with (first | (go_call isLetter_any as e w' ⟨rfl, rfl⟩; rw [hl]) | (go_call isDigit_any as e w' ⟨rfl, rfl⟩; rw [hdg]))
                go_round
                case rel => exact ⟨k + 1, by omega, by omega, by go_num, by rw [HD.out, okFrom_step hlt, ← bt_eq hlt]; simp [okc, hdg]⟩
                case measure => simp [intOf]; omega
              | false =>
                by_cases h95 : ((s[k]'hlt).toNat : Int) = 95
                · have h95b : (((s[k]'hlt).toNat : Int) == 95) = true := by simp [h95]
                  have H95 : Hid (((s[k]'hlt).toNat : Int) = 95) := h95
                  clear h95
                  go_wp2_with (first | (go_call isLetter_any as e w' ⟨rfl, rfl⟩; rw [hl]) | (go_call isDigit_any as e w' ⟨rfl, rfl⟩; rw [hdg]))
                  go_round
                  case rel => exact ⟨k + 1, by omega, by omega, by go_num, by rw [HD.out, okFrom_step hlt, ← bt_eq hlt]; simp [okc, H95.out]⟩
                  case measure => simp [intOf]; omega
                · have h95b : (((s[k]'hlt).toNat : Int) == 95) = false := by simpa using h95
                  have hf : okFrom s 1 = false := by rw [HD.out, okFrom_step hlt, ← bt_eq hlt]; simp [okc, hl, hdg, h95]
                  have HF : Hid (okFrom s 1 = false) := hf
                  clear hf h95
                  go_wp2_with (first | (go_call isLetter_any as e w' ⟨rfl, rfl⟩; rw [hl]) | (go_call isDigit_any as e w' ⟨rfl, rfl⟩; rw [hdg]))
                  go_ret
                  exact ⟨by simp [HF.out], rfl⟩
          · have hf : okFrom s 1 = true := by rw [HD.out, okFrom_end hlt]
            have HF : Hid (okFrom s 1 = true) := hf
            clear hf HD
            have hk : k = s.size := by omega
            subst hk
            have hb : s.size - 1 < s.size := by omega
            go_wp2
            go_ret
            refine ⟨?_, rfl⟩
            rw [HF.out, ← bt_eq hb]
            simp [bne]
            try rfl
    · go_enter Try.func20, Try.ntmps20
      go_wp2
      go_ret
      simp [nm, h2]
  · go_enter Try.func20, Try.ntmps20
    go_wp2
    go_ret
    simp [nm, h1]

def refFrom (s : ByteArray) (k : Nat) : Bool := if k < s.size then (letter (bt s k) || (decide (k ≠ 0) && (digit (bt s k) || decide (bt s k = 95)))) && refFrom s (k + 1) else true
termination_by s.size - k
theorem refFrom_step {s : ByteArray} {k : Nat} (h : k < s.size) : refFrom s k = ((letter (bt s k) || (decide (k ≠ 0) && (digit (bt s k) || decide (bt s k = 95)))) && refFrom s (k + 1)) := by rw [refFrom, if_pos h]
theorem refFrom_end {s : ByteArray} {k : Nat} (h : ¬ k < s.size) : refFrom s k = true := by rw [refFrom, if_neg h]
theorem refFrom_ok {s : ByteArray} : ∀ (n k : Nat), s.size - k = n → 1 ≤ k → refFrom s k = okFrom s k
  | 0, k, h, h1 => by rw [refFrom_end (by omega), okFrom_end (by omega)]
  | n + 1, k, h, h1 => by
    rw [refFrom_step (by omega), okFrom_step (by omega), refFrom_ok n (k + 1) (by omega) (by omega)]
    have : decide (k ≠ 0) = true := by simp; omega
    rw [this]
    simp [okc, Bool.or_assoc]
theorem nm_ref {s : ByteArray} (h1 : 1 ≤ s.size) (h2 : s.size ≤ 20) (h3 : bt s (s.size - 1) ≠ 95) : nm s = refFrom s 0 := by
  rw [refFrom_step (by omega), refFrom_ok _ 1 rfl (by omega)]
  simp [nm, h1, h2, h3]

theorem below_drewN {n : Nat} {w w' : World} (h : Below n w w') : ∀ m, Below n w (w'.drewN m)
  | 0 => h
  | m + 1 => (below_drewN h m).drew

theorem refName_any (s : ByteArray) (hs : s.size < 9223372036854775808) (w : World) : Calls Try.prog 21 #[.string s] w fun e w' => e = .returned (.bool (nm s)) ∧ Below w.heap.size w w' := by
  by_cases h1 : 1 ≤ s.size
  · by_cases h2 : s.size ≤ 20
    · have hb : s.size - 1 < s.size := by omega
      by_cases h3 : ((s[s.size - 1]'hb).toNat : Int) = 95
      · have hn : nm s = false := by
          have := bt_eq hb
          simp only [nm]
          rw [← this, h3]
          simp
        rw [hn]
        clear hn
        have h3b : (((s[s.size - 1]'hb).toNat : Int) == 95) = true := by simp [h3]
        clear h3
        go_enter Try.func21, Try.ntmps21
        go_wp2_with (first | (go_call in_any as e w' ⟨rfl, rfl⟩))
        go_ret
        exact ⟨rfl, by go_grown⟩
      · have hn : nm s = refFrom s 0 := nm_ref h1 h2 (by rw [← bt_eq hb]; exact h3)
        rw [hn]
        clear hn
        have h3b : (((s[s.size - 1]'hb).toNat : Int) == 95) = false := by simpa using h3
        clear h3
        go_enter Try.func21, Try.ntmps21
        go_wp2_with (first | (go_call in_any as e w' ⟨rfl, rfl⟩))
        clear h3b
        go_loopw [3] (fun i wr => ∃ k : Nat, k ≤ s.size ∧ i = .int .i64 k ∧ refFrom s 0 = refFrom s k ∧ Below w'.heap.size w' wr) (fun i _ => s.size - (intOf i).toNat)
        case atStart => exact ⟨0, by omega, rfl, rfl, Below.refl _ _⟩
        case round =>
          obtain ⟨k, hk, rfl, hok, hbel⟩ := hrel
          have HD : Hid (refFrom s 0 = refFrom s k) := hok
          clear hok
          by_cases hlt : k < s.size
          · have hs1 : k + 1 ≤ s.size := hlt
            have hbt := bt_eq hlt
            by_cases c1 : 97 ≤ ((s[k]'hlt).toNat : Int)
            · have d1 : decide (97 ≤ ((s[k]'hlt).toNat : Int)) = true := by simpa using c1
              have d3 : decide (48 ≤ ((s[k]'hlt).toNat : Int)) = true := by simp; omega
              have d4 : decide (((s[k]'hlt).toNat : Int) ≤ 57) = false := by simp; omega
              have d5 : (((s[k]'hlt).toNat : Int) == 95) = false := by simp; omega
              by_cases c2 : ((s[k]'hlt).toNat : Int) ≤ 122
              · have d2 : decide (((s[k]'hlt).toNat : Int) ≤ 122) = true := by simpa using c2
                have HR : Hid (refFrom s k = refFrom s (k + 1)) := by
                  show refFrom s k = refFrom s (k + 1)
                  rw [refFrom_step hlt, ← hbt]
                  simp [letter, c1, c2]
                clear hbt
                go_wp2
                go_quiet (fail)
                go_wp2
                go_roundw
                case rel => exact ⟨k + 1, by omega, by go_num, by rw [HD.out, HR.out], below_drewN hbel _⟩
                case measure => simp [intOf]; omega
              · have d2 : decide (((s[k]'hlt).toNat : Int) ≤ 122) = false := by simpa using c2
                by_cases ck : k = 0
                · have dk : ((k : Int) == 0) = true := by simp [ck]
                  have HK : Hid (k = 0) := ck
                  clear ck
                  have HR : Hid (refFrom s 0 = false) := by
                    show refFrom s 0 = false
                    rw [HD.out, refFrom_step hlt, ← hbt]
                    simp [letter, digit, c2, show ¬ ((s[k]'hlt).toNat : Int) ≤ 57 by omega, show ¬ ((s[k]'hlt).toNat : Int) = 95 by omega]
                  clear hbt HD
                  go_wp2
                  go_quiet (fail)
                  go_wp2
                  go_ret
                  exact ⟨by rw [HR.out]; rfl, below_drewN hbel _⟩
                · have dk : ((k : Int) == 0) = false := by simp; omega
                  have HR : Hid (refFrom s 0 = false) := by
                    show refFrom s 0 = false
                    rw [HD.out, refFrom_step hlt, ← hbt]
                    simp [letter, digit, c2, show ¬ ((s[k]'hlt).toNat : Int) ≤ 57 by omega, show ¬ ((s[k]'hlt).toNat : Int) = 95 by omega]
                  clear hbt HD
                  go_wp2
                  go_quiet (fail)
                  go_wp2
                  go_ret
                  exact ⟨by rw [HR.out]; rfl, below_drewN hbel _⟩
            · have d1 : decide (97 ≤ ((s[k]'hlt).toNat : Int)) = false := by simpa using c1
              by_cases c3 : 48 ≤ ((s[k]'hlt).toNat : Int)
              · have d3 : decide (48 ≤ ((s[k]'hlt).toNat : Int)) = true := by simpa using c3
                by_cases c4 : ((s[k]'hlt).toNat : Int) ≤ 57
                · have d4 : decide (((s[k]'hlt).toNat : Int) ≤ 57) = true := by simpa using c4
                  by_cases ck : k = 0
                  · have dk : ((k : Int) == 0) = true := by simp [ck]
                    have HK : Hid (k = 0) := ck
                    clear ck
                    have HR : Hid (refFrom s 0 = false) := by
                      show refFrom s 0 = false
                      rw [HD.out, refFrom_step hlt, ← hbt]
                      have hl : letter ((s[k]'hlt).toNat : Int) = false := by unfold letter; rw [decide_eq_false c1]; rfl
                      have hk0 : decide (k ≠ 0) = false := by simp [HK.out]
                      rw [hl, hk0]
                      rfl
                    clear hbt HD
                    go_wp2
                    go_quiet (fail)
                    go_wp2
                    go_ret
                    exact ⟨by rw [HR.out]; rfl, below_drewN hbel _⟩
                  · have dk : ((k : Int) == 0) = false := by simp; omega
                    have HR : Hid (refFrom s k = refFrom s (k + 1)) := by
                      show refFrom s k = refFrom s (k + 1)
                      rw [refFrom_step hlt, ← hbt]
                      simp [letter, digit, c1, c3, c4, ck]
                    clear hbt
                    go_wp2
                    go_quiet (fail)
                    go_wp2
                    go_roundw
                    case rel => exact ⟨k + 1, by omega, by go_num, by rw [HD.out, HR.out], below_drewN hbel _⟩
                    case measure => simp [intOf]; omega
                · have d4 : decide (((s[k]'hlt).toNat : Int) ≤ 57) = false := by simpa using c4
                  by_cases c5 : ((s[k]'hlt).toNat : Int) = 95
                  · have d5 : (((s[k]'hlt).toNat : Int) == 95) = true := by simp [c5]
                    have H5 : Hid (((s[k]'hlt).toNat : Int) = 95) := c5
                    clear c5
                    by_cases ck : k = 0
                    · have dk : ((k : Int) == 0) = true := by simp [ck]
                      have HK : Hid (k = 0) := ck
                      clear ck
                      have HR : Hid (refFrom s 0 = false) := by
                        show refFrom s 0 = false
                        rw [HD.out, refFrom_step hlt, ← hbt]
                        have hl : letter ((s[k]'hlt).toNat : Int) = false := by unfold letter; rw [decide_eq_false c1]; rfl
                        have hk0 : decide (k ≠ 0) = false := by simp [HK.out]
                        rw [hl, hk0]
                        rfl
                      clear hbt HD
                      go_wp2
                      go_quiet (fail)
                      go_wp2
                      go_ret
                      exact ⟨by rw [HR.out]; rfl, below_drewN hbel _⟩
                    · have dk : ((k : Int) == 0) = false := by simp; omega
                      have HR : Hid (refFrom s k = refFrom s (k + 1)) := by
                        show refFrom s k = refFrom s (k + 1)
                        rw [refFrom_step hlt, ← hbt]
                        simp [letter, digit, c1, H5.out, ck]
                      clear hbt
                      go_wp2
                      go_quiet (fail)
                      go_wp2
                      go_roundw
                      case rel => exact ⟨k + 1, by omega, by go_num, by rw [HD.out, HR.out], below_drewN hbel _⟩
                      case measure => simp [intOf]; omega
                  · have d5 : (((s[k]'hlt).toNat : Int) == 95) = false := by simpa using c5
                    by_cases ck : k = 0
                    · have dk : ((k : Int) == 0) = true := by simp [ck]
                      have HK : Hid (k = 0) := ck
                      clear ck
                      have HR : Hid (refFrom s 0 = false) := by
                        show refFrom s 0 = false
                        rw [HD.out, refFrom_step hlt, ← hbt]
                        simp [letter, digit, c1, c4, c5]
                      clear hbt HD
                      go_wp2
                      go_quiet (fail)
                      go_wp2
                      go_ret
                      exact ⟨by rw [HR.out]; rfl, below_drewN hbel _⟩
                    · have dk : ((k : Int) == 0) = false := by simp; omega
                      have HR : Hid (refFrom s 0 = false) := by
                        show refFrom s 0 = false
                        rw [HD.out, refFrom_step hlt, ← hbt]
                        simp [letter, digit, c1, c4, c5]
                      clear hbt HD
                      go_wp2
                      go_quiet (fail)
                      go_wp2
                      go_ret
                      exact ⟨by rw [HR.out]; rfl, below_drewN hbel _⟩
              · have d3 : decide (48 ≤ ((s[k]'hlt).toNat : Int)) = false := by simpa using c3
                have d5 : (((s[k]'hlt).toNat : Int) == 95) = false := by simp; omega
                by_cases ck : k = 0
                · have dk : ((k : Int) == 0) = true := by simp [ck]
                  have HK : Hid (k = 0) := ck
                  clear ck
                  have HR : Hid (refFrom s 0 = false) := by
                    show refFrom s 0 = false
                    rw [HD.out, refFrom_step hlt, ← hbt]
                    simp [letter, digit, c1, c3, show ¬ ((s[k]'hlt).toNat : Int) = 95 by omega]
                  clear hbt HD
                  go_wp2
                  go_quiet (fail)
                  go_wp2
                  go_ret
                  exact ⟨by rw [HR.out]; rfl, below_drewN hbel _⟩
                · have dk : ((k : Int) == 0) = false := by simp; omega
                  have HR : Hid (refFrom s 0 = false) := by
                    show refFrom s 0 = false
                    rw [HD.out, refFrom_step hlt, ← hbt]
                    simp [letter, digit, c1, c3, show ¬ ((s[k]'hlt).toNat : Int) = 95 by omega]
                  clear hbt HD
                  go_wp2
                  go_quiet (fail)
                  go_wp2
                  go_ret
                  exact ⟨by rw [HR.out]; rfl, below_drewN hbel _⟩
          · have HF : Hid (refFrom s 0 = true) := by
              show refFrom s 0 = true
              rw [HD.out, refFrom_end hlt]
            clear HD
            have hk : k = s.size := by omega
            subst hk
            go_wp2
            go_ret
            exact ⟨by rw [HF.out]; rfl, hbel⟩
    · go_enter Try.func21, Try.ntmps21
      go_wp2
      go_ret
      exact ⟨by simp [nm, h2], by go_grown⟩
  · go_enter Try.func21, Try.ntmps21
    go_wp2
    go_ret
    exact ⟨by simp [nm, h1], by go_grown⟩
end Go.Proofs.Ytplipfcnjmgicaa
