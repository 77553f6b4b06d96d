/-
  FormulaFloats: numbers, contracts and the walk, in one text. No statement is proved here.
-/
import Derived.ProofKit
import Derived.Test.YtbiljmcgcflmmaaGreatDoorMem
import Derived.Deep.QuietTactic
import Derived.BigQuiet
import Derived.WalkLawsBesides
import Derived.Lib.BitFns
import Derived.Lib.Strings
import Derived.Lib.Slices
import Derived.Lib.Small
import Derived.Lib.Walk
import Derived.Lib.QuietBelow
import Derived.Test.YtbiljmcgcflmmaaGreatDoorQBase
import Derived.Test.YtbiljmcgcflmmaaGreatDoorQAwake
namespace Go.Proofs.Fm

/-- How many bits a number has. -/
def bl (n : Nat) : Nat := if n = 0 then 0 else Nat.log2 n + 1

theorem bl_zero : bl 0 = 0 := rfl
theorem bl_pos {n : Nat} (h : n ≠ 0) : 0 < bl n := by simp [bl, h]
theorem bl_lt (n : Nat) : n < 2 ^ bl n := by
  unfold bl
  split
  · simp_all
  · exact Nat.lt_log2_self
theorem bl_le {n : Nat} (h : n ≠ 0) : 2 ^ (bl n - 1) ≤ n := by
  unfold bl
  rw [if_neg h]
  exact Nat.log2_self_le h
theorem bl_unique {n k : Nat} (h1 : n < 2 ^ k) (h2 : k ≠ 0 → 2 ^ (k - 1) ≤ n) : bl n = k := by
  by_cases h : n = 0
  · subst h
    by_cases hk : k = 0
    · rw [hk]; rfl
    · have := h2 hk
      have := Nat.pos_of_ne_zero (Nat.pos_iff_ne_zero.1 (Nat.two_pow_pos (k - 1)))
      omega
  · have a1 := bl_lt n
    have a2 := bl_le h
    have hb := bl_pos h
    rcases Nat.lt_trichotomy (bl n) k with h3 | h3 | h3
    · have h4 := h2 (by omega)
      have h5 : 2 ^ bl n ≤ 2 ^ (k - 1) := Nat.pow_le_pow_right (by omega) (by omega)
      omega
    · exact h3
    · have h5 : 2 ^ k ≤ 2 ^ (bl n - 1) := Nat.pow_le_pow_right (by omega) (by omega)
      omega
theorem bl_le_iff (n k : Nat) : bl n ≤ k ↔ n < 2 ^ k := by
  constructor
  · intro h
    exact Nat.lt_of_lt_of_le (bl_lt n) (Nat.pow_le_pow_right (by omega) h)
  · intro h
    by_cases hn : n = 0
    · subst hn; simp [bl_zero]
    · have a2 := bl_le hn
      have hb := bl_pos hn
      by_cases hk : bl n ≤ k
      · exact hk
      · have : 2 ^ k ≤ 2 ^ (bl n - 1) := Nat.pow_le_pow_right (by omega) (by omega)
        omega
/-- The length of a number above a power is that of what stands above it, and the power. -/
theorem bl_shift (n k : Nat) (h : 2 ^ k ≤ n) : bl n = k + bl (n / 2 ^ k) := by
  have hp := Nat.two_pow_pos k
  have hq : n / 2 ^ k ≠ 0 := by
    have := Nat.div_pos h hp
    omega
  refine bl_unique ?_ fun _ => ?_
  · have h1 := bl_lt (n / 2 ^ k)
    rw [Nat.div_lt_iff_lt_mul hp] at h1
    rw [Nat.pow_add, Nat.mul_comm]
    exact h1
  · have h1 := bl_le hq
    have hb := bl_pos hq
    rw [Nat.le_div_iff_mul_le hp] at h1
    rw [show k + bl (n / 2 ^ k) - 1 = (bl (n / 2 ^ k) - 1) + k by omega, Nat.pow_add]
    exact h1

end Go.Proofs.Fm
namespace Go.Proofs.Fm

/-- The mantissa of a number that is not 0. -/
def mantN (n : Nat) : Nat := if bl n < 23 then n * 2 ^ (23 - bl n) else n / 2 ^ (bl n - 23)
theorem mantN_ge {n : Nat} (h : n ≠ 0) : 4194304 ≤ mantN n := by
  have h1 := bl_le h
  have hb := bl_pos h
  unfold mantN
  split
  · calc 4194304 = 2 ^ (bl n - 1) * 2 ^ (23 - bl n) := by rw [← Nat.pow_add, show bl n - 1 + (23 - bl n) = 22 by omega]
      _ ≤ _ := Nat.mul_le_mul_right _ h1
  · rw [Nat.le_div_iff_mul_le (Nat.two_pow_pos _)]
    calc 4194304 * 2 ^ (bl n - 23) = 2 ^ (bl n - 1) := by rw [show (4194304 : Nat) = 2 ^ 22 by rfl, ← Nat.pow_add, show 22 + (bl n - 23) = bl n - 1 by omega]
      _ ≤ _ := h1
theorem mantN_lt {n : Nat} : mantN n < 8388608 := by
  have h1 := bl_lt n
  unfold mantN
  split
  · calc n * 2 ^ (23 - bl n) < 2 ^ bl n * 2 ^ (23 - bl n) := Nat.mul_lt_mul_of_pos_right h1 (Nat.two_pow_pos _)
      _ = 8388608 := by rw [← Nat.pow_add, show bl n + (23 - bl n) = 23 by omega]
  · rw [Nat.div_lt_iff_lt_mul (Nat.two_pow_pos _)]
    calc n < 2 ^ bl n := h1
      _ = 8388608 * 2 ^ (bl n - 23) := by rw [show (8388608 : Nat) = 2 ^ 23 by rfl, ← Nat.pow_add, show 23 + (bl n - 23) = bl n by omega]

/-- The same with a sign. -/
def mant (n : Int) : Int := if bl n.natAbs < 23 then n * 2 ^ (23 - bl n.natAbs) else n.tdiv (2 ^ (bl n.natAbs - 23))
theorem natAbs_pow2 (k : Nat) : ((2 : Int) ^ k).natAbs = 2 ^ k := by rw [Int.natAbs_pow]; rfl
theorem mant_abs (n : Int) : (mant n).natAbs = mantN n.natAbs := by
  unfold mant mantN
  split
  · rw [Int.natAbs_mul, natAbs_pow2]
  · rw [Int.natAbs_tdiv, natAbs_pow2]; rfl
theorem mant_ge {n : Int} (h : n ≠ 0) : 4194304 ≤ (mant n).natAbs := by rw [mant_abs]; exact mantN_ge (by omega)
theorem mant_lt (n : Int) : (mant n).natAbs < 8388608 := by rw [mant_abs]; exact mantN_lt
theorem mant_neg (n : Int) : mant (-n) = - mant n := by
  unfold mant
  rw [Int.natAbs_neg]
  split
  · rw [Int.neg_mul]
  · rw [Int.neg_tdiv]

/-- What a long number loses. -/
theorem mant_off {n : Int} (hn : n ≠ 0) (hL : 23 < bl n.natAbs) : ∃ d : Int, n - mant n * 2 ^ (bl n.natAbs - 23) = d ∧ d.natAbs < 2 ^ (bl n.natAbs - 23) ∧ d.natAbs * 65536 ≤ n.natAbs / 64 ∧ (d = 0 ∨ (0 < d ↔ 0 < n)) := by
  generalize hk : bl n.natAbs - 23 = k
  have hm : mant n = n.tdiv (2 ^ k) := by unfold mant; rw [if_neg (by omega), hk]
  refine ⟨n.tmod (2 ^ k), ?_, ?_, ?_, ?_⟩
  · rw [hm]
    have := Int.tmod_add_mul_tdiv n (2 ^ k)
    have h2 : (2 ^ k : Int) * n.tdiv (2 ^ k) = n.tdiv (2 ^ k) * 2 ^ k := Int.mul_comm _ _
    omega
  · rw [Int.natAbs_tmod, natAbs_pow2]
    exact Nat.mod_lt _ (Nat.two_pow_pos _)
  · rw [Int.natAbs_tmod, natAbs_pow2]
    have h1 := Nat.mod_lt n.natAbs (Nat.two_pow_pos k)
    have h2 := bl_le (n := n.natAbs) (by omega)
    rw [Nat.le_div_iff_mul_le (by omega)]
    have h3 : 2 ^ (bl n.natAbs - 1) = 2 ^ k * 4194304 := by rw [show (4194304 : Nat) = 2 ^ 22 by rfl, ← Nat.pow_add, show k + 22 = bl n.natAbs - 1 by omega]
    omega
  · by_cases h0 : n.tmod (2 ^ k) = 0
    · exact .inl h0
    · refine .inr ?_
      rcases Int.lt_or_gt_of_ne hn with h | h
      · have : n.tmod (2 ^ k) ≤ 0 := by
          have := Int.tmod_nonneg (a := -n) (2 ^ k) (by omega)
          rw [Int.neg_tmod] at this
          omega
        omega
      · have := Int.tmod_nonneg (a := n) (2 ^ k) (by omega)
        omega
end Go.Proofs.Fm
namespace Go.Proofs.Fm

theorem div_pos_iff (n k : Nat) : 0 < n / 2 ^ k ↔ k < bl n := by
  have h := bl_le_iff n k
  constructor
  · intro h1
    have : 2 ^ k ≤ n := by
      rcases Nat.lt_or_ge n (2 ^ k) with h2 | h2
      · rw [Nat.div_eq_of_lt h2] at h1; omega
      · exact h2
    omega
  · intro h1
    exact Nat.div_pos (by omega) (Nat.two_pow_pos k)
theorem bl_47 {n : Int} (h1 : -70368744177664 ≤ n) (h2 : n ≤ 70368744177664) : bl n.natAbs ≤ 47 := by
  rw [bl_le_iff]
  have : (2 : Nat) ^ 47 = 140737488355328 := by decide
  omega
/-- The exponent of a number that is made floating. -/
def fexp (n e : Int) : Int := e + bl n.natAbs
/-- It comes to 0. -/
def Gone (n e : Int) : Prop := n = 0 ∨ fexp n e < -64
instance (n e : Int) : Decidable (Gone n e) := inferInstanceAs (Decidable (_ ∨ _))
/-- Its mantissa, its exponent, and whether it is too great. -/
def fM (n e : Int) : Int := if Gone n e then 0 else if 63 < fexp n e then 0 else mant n
def fE (n e : Int) : Int := if Gone n e then 0 else if 63 < fexp n e then 0 else fexp n e
def fBig (n e : Int) : Bool := if Gone n e then false else decide (63 < fexp n e)
/-- What is stated of floating numbers. -/
def IsF (m e : Int) : Prop := (m = 0 ∧ e = 0) ∨ (4194304 ≤ m.natAbs ∧ m.natAbs ≤ 8388607 ∧ -64 ≤ e ∧ e ≤ 63)
theorem isF_of (n e : Int) : IsF (fM n e) (fE n e) := by
  unfold fM fE
  split
  · exact .inl ⟨rfl, rfl⟩
  · rename_i h
    split
    · exact .inl ⟨rfl, rfl⟩
    · have h0 : n ≠ 0 := fun x => h (.inl x)
      have h1 : ¬ fexp n e < -64 := fun x => h (.inr x)
      have h2 := mant_ge h0
      have h3 := mant_lt n
      exact .inr ⟨h2, by omega, by omega, by omega⟩
theorem fM_zero {n e : Int} (hb : fBig n e = false) (h : fM n e = 0) : Gone n e := by
  unfold fM at h
  unfold fBig at hb
  split at h
  · assumption
  · rename_i hg
    rw [if_neg hg] at hb
    simp only [decide_eq_false_iff_not] at hb
    rw [if_neg hb] at h
    have := mant_ge (n := n) fun x => hg (.inl x)
    rw [h] at this
    simp at this
theorem fM_some {n e : Int} (h : fM n e ≠ 0) : ¬ Gone n e ∧ ¬ 63 < fexp n e ∧ fM n e = mant n ∧ fE n e = fexp n e := by
  unfold fM fE at *
  split at h
  · exact absurd rfl h
  · rename_i hg
    split at h
    · exact absurd rfl h
    · rename_i hb
      exact ⟨hg, hb, by rw [if_neg hg, if_neg hb], by rw [if_neg hg, if_neg hb]⟩
theorem mant_short {n : Int} (h : bl n.natAbs ≤ 23) : mant n = n * 2 ^ (23 - bl n.natAbs) := by
  unfold mant
  split
  · rfl
  · have : bl n.natAbs = 23 := by omega
    rw [this]; simp
end Go.Proofs.Fm
namespace Go.Proofs.YtbiljmcgcflmmaaGreatDoor
open Go.RowKit Fm
set_option linter.unusedVariables false
set_option linter.unusedSimpArgs false

/-- In a span. -/
def inS (a b n : Int) : Bool := decide (a ≤ n) && decide (n ≤ b)
theorem inS_t {a b n : Int} (h : a ≤ n ∧ n ≤ b) : inS a b n = true := by simp [inS, h]
theorem inS_f {a b n : Int} (h : ¬ (a ≤ n ∧ n ≤ b)) : inS a b n = false := by
  unfold inS
  by_cases h1 : a ≤ n
  · have : ¬ n ≤ b := fun h2 => h ⟨h1, h2⟩
    simp [h1, this]
  · simp [h1]

theorem within_any (a b n : Int) (w : World) : Calls Tryz.prog 54 #[.int .i64 a, .int .i64 b, .int .i64 n] w fun e w' => e = .returned (.bool (inS a b n)) ∧ w' = w := by
  by_cases h1 : a ≤ n
  · by_cases h2 : n ≤ b
    · have H := Lib.hid (inS_t ⟨h1, h2⟩)
      go_enter Tryz.func54, Tryz.ntmps54
      go_wp2
      go_ret
      exact ⟨by rw [H.out]; rfl, rfl⟩
    · have H := Lib.hid (inS_f (a := a) (b := b) (n := n) (fun x => h2 x.2))
      go_enter Tryz.func54, Tryz.ntmps54
      go_wp2
      go_ret
      exact ⟨by rw [H.out]; rfl, rfl⟩
  · have H := Lib.hid (inS_f (a := a) (b := b) (n := n) (fun x => h1 x.1))
    go_enter Tryz.func54, Tryz.ntmps54
    go_wp2
    go_ret
    exact ⟨by rw [H.out]; rfl, rfl⟩
theorem rin_any (n a b : Int) (w : World) : Calls Tryz.prog 57 #[.int .i64 n, .int .i64 a, .int .i64 b] w fun e w' => e = .returned (.bool (inS a b n)) ∧ w' = w := by
  by_cases h1 : a ≤ n
  · by_cases h2 : n ≤ b
    · have H := Lib.hid (inS_t ⟨h1, h2⟩)
      go_enter Tryz.func57, Tryz.ntmps57
      go_wp2
      go_ret
      exact ⟨by rw [H.out]; rfl, rfl⟩
    · have H := Lib.hid (inS_f (a := a) (b := b) (n := n) (fun x => h2 x.2))
      go_enter Tryz.func57, Tryz.ntmps57
      go_wp2
      go_ret
      exact ⟨by rw [H.out]; rfl, rfl⟩
  · have H := Lib.hid (inS_f (a := a) (b := b) (n := n) (fun x => h1 x.1))
    go_enter Tryz.func57, Tryz.ntmps57
    go_wp2
    go_ret
    exact ⟨by rw [H.out]; rfl, rfl⟩
theorem least_any (w : World) : Calls Tryz.prog 58 #[] w fun e w' => e = .returned (.int .i64 4194304) ∧ w' = w := by
  go_enter Tryz.func58, Tryz.ntmps58
  go_wp2
  go_ret
  exact ⟨rfl, rfl⟩
theorem most_any (w : World) : Calls Tryz.prog 59 #[] w fun e w' => e = .returned (.int .i64 8388607) ∧ w' = w := by
  go_enter Tryz.func59, Tryz.ntmps59
  go_wp2
  go_ret
  exact ⟨rfl, rfl⟩
end Go.Proofs.YtbiljmcgcflmmaaGreatDoor
namespace Go.Proofs.YtbiljmcgcflmmaaGreatDoor
open Go.RowKit Fm
set_option linter.unusedVariables false
set_option linter.unusedSimpArgs false

theorem bl_half {n : Nat} (h : n ≠ 0) : bl n = 1 + bl (n / 2) := by
  by_cases h1 : n = 1
  · subst h1; decide
  · have := bl_shift n 1 (by omega)
    simpa using this
theorem lib_bl : ∀ (k n : Nat), n < 2 ^ k → k ≤ 64 → Lib.bitLen n = bl n := by
  intro k
  induction k with
  | zero => intro n h _; obtain rfl : n = 0 := by simpa using h
            rfl
  | succ k ih =>
    intro n h hk
    by_cases h0 : n = 0
    · subst h0; rfl
    · have hp : 2 ^ (k + 1) ≤ 2 ^ 64 := Nat.pow_le_pow_right (by omega) hk
      rw [Lib.bitLen_half n h0 (by omega), bl_half h0, ih (n / 2) (by rw [Nat.pow_succ] at h; omega) (by omega)]
/-- A byte's length, as the table has it. -/
theorem len8_bl (b : Int) (h0 : 0 ≤ b) (h1 : b ≤ 255) : Lib.len8 b = (bl b.toNat : Int) ∧ bl b.toNat ≤ 8 := by
  have h := Lib.len8_eq ⟨b.toNat, by omega⟩
  have e : ((b.toNat : Nat) : Int) = b := by omega
  simp only [e] at h
  rw [h, lib_bl 8 b.toNat (by omega) (by omega)]
  exact ⟨rfl, (bl_le_iff _ _).2 (by omega)⟩
/-- What stands above a power of two. -/
theorem bl_at {x : Int} (k : Nat) (p : Nat) (hp : p = 2 ^ k) (h0 : 0 ≤ x) (h : (p : Int) ≤ x) : (bl x.toNat : Int) = k + bl (x / p).toNat := by
  have h1 := bl_shift x.toNat k (by omega)
  have h2 : (x / p).toNat = x.toNat / 2 ^ k := by
    rw [← hp]
    obtain ⟨n, rfl⟩ := Int.eq_ofNat_of_zero_le h0
    rw [← Int.natCast_ediv]; rfl
  rw [h1, h2]
  omega
end Go.Proofs.YtbiljmcgcflmmaaGreatDoor
namespace Go.Proofs.YtbiljmcgcflmmaaGreatDoor
open Go.RowKit Fm
set_option linter.unusedVariables false
set_option linter.unusedSimpArgs false

theorem tab_bl {y : Int} (h0 : 0 ≤ y) (h1 : y < 256) (h : y.toNat < Lib.len8tab.size) : ((Lib.len8tab[y.toNat].toNat : Nat) : Int) = bl y.toNat ∧ bl y.toNat ≤ 8 := by
  obtain ⟨a, b⟩ := len8_bl y h0 (by omega)
  refine ⟨?_, b⟩
  rw [← a]
  unfold Lib.len8
  rw [show Lib.len8tab[y.toNat]? = some Lib.len8tab[y.toNat] from getElem?_pos Lib.len8tab y.toNat h]
  rfl
theorem wrap_small {n : Int} (h0 : 0 ≤ n) (h1 : n < 1000) : wrap64 n = n := by
  unfold wrap64
  omega
theorem len_fin0 {x : Int} (h0 : 0 ≤ x) (h1 : x < 256) (h : x.toNat < Lib.len8tab.size) : wrap64 (wrap64 ((Lib.len8tab[x.toNat].toNat : Nat) : Int)) = bl x.toNat := by
  obtain ⟨a, b⟩ := tab_bl h0 h1 h
  rw [a, wrap_small (n := (bl x.toNat : Int)) (by omega) (by omega), wrap_small (n := (bl x.toNat : Int)) (by omega) (by omega)]
theorem len_fin {x y : Int} (k p : Nat) (hk : k ≤ 64) (hp : p = 2 ^ k) (h0 : 0 ≤ x) (hpx : (p : Int) ≤ x) (hy : y = x / p) (h1 : y < 256) (h : y.toNat < Lib.len8tab.size) :
    wrap64 ((k : Int) + wrap64 ((Lib.len8tab[y.toNat].toNat : Nat) : Int)) = bl x.toNat := by
  have hy0 : 0 ≤ y := by rw [hy]; exact Int.ediv_nonneg h0 (by omega)
  obtain ⟨a, b⟩ := tab_bl hy0 h1 h
  have := bl_at k p hp h0 hpx
  rw [← hy] at this
  rw [a, wrap_small (n := (bl y.toNat : Int)) (by omega) (by omega), wrap_small (by omega) (by omega), this]

set_option maxHeartbeats 4000000 in
set_option maxRecDepth 100000 in
theorem len64_any (x : Int) (h0 : 0 ≤ x) (h1 : x ≤ 18014398509481984) (w : World) :
    Calls Tryz.prog 175 #[.int .u64 x] w fun e w' => e = .returned (.int .i64 (bl x.toNat)) ∧ w' = w := by
  have HS : ((Lib.len8tab.size : Nat) : Int) = 256 := by rfl
  go_enter Tryz.func175, Tryz.ntmps175
  go_wp2
  all_goals (go_ret; refine ⟨congrArg Ending.returned (congrArg (Value.int IntKind.i64) ?_), rfl⟩)
  · exact len_fin 48 281474976710656 (by omega) rfl h0 (by omega) (by omega) (by omega) _
  · exact len_fin 40 1099511627776 (by omega) rfl h0 (by omega) (by omega) (by omega) _
  · exact len_fin 32 4294967296 (by omega) rfl h0 (by omega) (by omega) (by omega) _
  · exact len_fin 24 16777216 (by omega) rfl h0 (by omega) (by omega) (by omega) _
  · exact len_fin 16 65536 (by omega) rfl h0 (by omega) (by omega) (by omega) _
  · exact len_fin 8 256 (by omega) rfl h0 (by omega) (by omega) (by omega) _
  · exact len_fin0 h0 (by omega) _
theorem len_any (x : Int) (h0 : 0 ≤ x) (h1 : x ≤ 18014398509481984) (w : World) :
    Calls Tryz.prog 117 #[.int .u64 x] w fun e w' => e = .returned (.int .i64 (bl x.toNat)) ∧ w' = w := by
  go_enter Tryz.func117, Tryz.ntmps117
  go_wp2_with fail
  refine (len64_any x h0 h1 _).mono ?_; rintro e w1 ⟨rfl, rfl⟩
  go_wp2
  go_ret
  exact ⟨rfl, rfl⟩
end Go.Proofs.YtbiljmcgcflmmaaGreatDoor
namespace Go.Proofs.YtbiljmcgcflmmaaGreatDoor
open Go.RowKit Fm
set_option linter.unusedVariables false
set_option linter.unusedSimpArgs false

theorem pow_lt (k : Nat) (h : k ≤ 60) : (1 : Int) ≤ 2 ^ k ∧ (2 : Int) ^ k ≤ 1152921504606846976 := by
  have h1 : (2 : Nat) ^ k ≤ 2 ^ 60 := Nat.pow_le_pow_right (by omega) h
  have h2 := Nat.two_pow_pos k
  have h3 : ((2 ^ k : Nat) : Int) = (2 : Int) ^ k := by norm_cast
  rw [← h3]
  have h4 : (2 : Nat) ^ 60 = 1152921504606846976 := by decide
  omega
theorem wrap64_of {n : Int} (h : -9223372036854775808 ≤ n ∧ n ≤ 9223372036854775807) : wrap64 n = n := by
  unfold wrap64
  omega
theorem tdiv_in {n p : Int} (h : -9223372036854775808 ≤ n ∧ n ≤ 9223372036854775807) (hp : 1 ≤ p) : -9223372036854775808 ≤ n.tdiv p ∧ n.tdiv p ≤ 9223372036854775807 := by
  have h1 : (n.tdiv p).natAbs ≤ n.natAbs := by
    rw [Int.natAbs_tdiv]
    exact Nat.div_le_self _ _
  by_cases h2 : n < 0
  · have h3 : n.tdiv p ≤ 0 := by
      have := Int.tdiv_nonneg (a := -n) (b := p) (by omega) (by omega)
      rw [Int.neg_tdiv] at this
      omega
    omega
  · have := Int.tdiv_nonneg (a := n) (b := p) (by omega) (by omega)
    omega
theorem cut_any (n k : Int) (h0 : 0 ≤ k) (h1 : k ≤ 60) (hn : -9223372036854775808 ≤ n ∧ n ≤ 9223372036854775807) (w : World) :
    Calls Tryz.prog 118 #[.int .i64 n, .int .i64 k] w fun e w' => e = .returned (.int .i64 (n.tdiv (2 ^ k.toNat))) ∧ w' = w := by
  have hp := pow_lt k.toNat (by omega)
  have HM := Lib.hid (show min k 60 = k by omega)
  have HW := Lib.hid (wrap64_of (n := (2 : Int) ^ k.toNat) (by omega))
  go_enter Tryz.func118, Tryz.ntmps118
  go_wp2
  · rename_i h
    rw [HM.out, HW.out] at h
    omega
  · go_ret
    refine ⟨congrArg Ending.returned (congrArg (Value.int IntKind.i64) ?_), rfl⟩
    rw [HM.out, HW.out]
    exact wrap64_of (n := n.tdiv (2 ^ k.toNat)) (tdiv_in hn hp.1)
end Go.Proofs.YtbiljmcgcflmmaaGreatDoor
namespace Go.Proofs.YtbiljmcgcflmmaaGreatDoor
open Go.RowKit Fm
set_option linter.unusedVariables false
set_option linter.unusedSimpArgs false

theorem cellsF : Tryz.prog.cellsOf 46 = 2 := by kernel_rfl
def fErr (n e : Int) : Int := if fBig n e then 171 else 0
def fOut (n e : Int) : Ending := .returned (.tuple #[.agg #[.int .i64 (fM n e), .int .i64 (fE n e)], .int .i64 (fErr n e)])
def FloatIs (n e : Int) (w : World) (x : Ending) (w' : World) : Prop := x = fOut n e ∧ Below w.heap.size w w'
theorem fl_len {n : Int} (hn : -18014398509481984 ≤ n ∧ n ≤ 18014398509481984) : bl n.natAbs ≤ 55 := by
  rw [bl_le_iff]
  have : (2 : Nat) ^ 55 = 36028797018963968 := by decide
  omega
theorem floating_gone (n e : Int) (hn : -18014398509481984 ≤ n ∧ n ≤ 18014398509481984) (he : -100000 ≤ e ∧ e ≤ 100000) (L : Nat) (hL : bl n.natAbs = L) (hL5 : L ≤ 55) (hg : n = 0 ∨ e + L < -64) (w : World) :
    Calls Tryz.prog 55 #[.int .i64 n, .int .i64 e] w (FloatIs n e w) := by
  have HN := Lib.hid (wrap64_of (n := -n) (by omega))
  have HA := Lib.hid (show max n (-n) = (n.natAbs : Int) by omega)
  have HL := Lib.hid hL
  clear hL
  have HG := Lib.hid (show Gone n e by rcases hg with h | h; exact .inl h; exact .inr (by unfold fexp; rw [HL.out]; exact h))
  have FG := Lib.hid (show fOut n e = .returned (.tuple #[.agg #[.int .i64 0, .int .i64 0], .int .i64 0]) by unfold fOut fM fE fErr fBig; rw [if_pos HG.out, if_pos HG.out, if_pos HG.out]; rfl)
  go_enter Tryz.func55, Tryz.ntmps55
  go_wp2_with fail
  rw [HA.out]
  refine (len_any (n.natAbs : Int) (by omega) (by omega) _).mono ?_; rintro e1 w1 ⟨rfl, rfl⟩
  simp only [Int.toNat_natCast, HL.out]
  by_cases h0 : n = 0
  · go_wp2
    refine bodyPost_ret (v := .tuple #[.agg #[.int .i64 0, .int .i64 0], .int .i64 0]) (by simp [results, Tryz.results55, cellsF, go_sem]) rfl ⟨?_, (Below.refl _ w).alloc (Nat.le_refl _) _⟩
    rw [FG.out]
  · have h1 : e + L < -64 := hg.resolve_left h0
    go_wp2
    refine bodyPost_ret (v := .tuple #[.agg #[.int .i64 0, .int .i64 0], .int .i64 0]) (by simp [results, Tryz.results55, cellsF, go_sem]) rfl ⟨?_, (Below.refl _ w).alloc (Nat.le_refl _) _⟩
    rw [FG.out]
theorem floating_big (n e : Int) (hn : -18014398509481984 ≤ n ∧ n ≤ 18014398509481984) (he : -100000 ≤ e ∧ e ≤ 100000) (L : Nat) (hL : bl n.natAbs = L) (hL5 : L ≤ 55) (h0 : ¬ n = 0) (h1 : 63 < e + L) (w : World) :
    Calls Tryz.prog 55 #[.int .i64 n, .int .i64 e] w (FloatIs n e w) := by
  have HN := Lib.hid (wrap64_of (n := -n) (by omega))
  have HA := Lib.hid (show max n (-n) = (n.natAbs : Int) by omega)
  have HG : ¬ Gone n e := fun h => by
    rcases h with h | h
    · exact h0 h
    · unfold fexp at h; omega
  have HE : fexp n e = e + L := by unfold fexp; rw [hL]
  have FG := Lib.hid (show fOut n e = .returned (.tuple #[.agg #[.int .i64 0, .int .i64 0], .int .i64 171]) by
    unfold fOut fM fE fErr fBig
    rw [if_neg HG, if_neg HG, if_neg HG, HE, if_pos h1, if_pos h1, decide_eq_true h1]; rfl)
  have HL := Lib.hid hL
  clear hL HE HG
  go_enter Tryz.func55, Tryz.ntmps55
  go_wp2_with fail
  rw [HA.out]
  refine (len_any (n.natAbs : Int) (by omega) (by omega) _).mono ?_; rintro e1 w1 ⟨rfl, rfl⟩
  simp only [Int.toNat_natCast, HL.out]
  go_wp2
  any_goals (exfalso; rename_i h; rcases h with h | h; exact h0 (by simpa using h); omega)
  refine bodyPost_ret (v := .tuple #[.agg #[.int .i64 0, .int .i64 0], .int .i64 171]) (by simp [results, Tryz.results55, cellsF, go_sem]) rfl ⟨?_, (Below.refl _ w).alloc (Nat.le_refl _) _⟩
  rw [FG.out]
theorem floating_short (n e : Int) (hn : -18014398509481984 ≤ n ∧ n ≤ 18014398509481984) (he : -100000 ≤ e ∧ e ≤ 100000) (L : Nat) (hL : bl n.natAbs = L) (hL5 : L ≤ 55) (h0 : ¬ n = 0) (h1 : e + L ≤ 63) (h2 : -64 ≤ e + L) (h3 : L < 23) (w : World) :
    Calls Tryz.prog 55 #[.int .i64 n, .int .i64 e] w (FloatIs n e w) := by
  have HN := Lib.hid (wrap64_of (n := -n) (by omega))
  have HA := Lib.hid (show max n (-n) = (n.natAbs : Int) by omega)
  have HG : ¬ Gone n e := fun h => by
    rcases h with h | h
    · exact h0 h
    · unfold fexp at h; omega
  have HE : fexp n e = e + L := by unfold fexp; rw [hL]
  have FG := Lib.hid (show fOut n e = .returned (.tuple #[.agg #[.int .i64 (mant n), .int .i64 (e + L)], .int .i64 0]) by
    unfold fOut fM fE fErr fBig
    rw [if_neg HG, if_neg HG, if_neg HG, HE, if_neg (by omega), if_neg (by omega), decide_eq_false (by omega)]; rfl)
  have HM := Lib.hid (show mant n = n * 2 ^ (23 - L) by rw [mant_short (by omega), hL])
  have HS := Lib.hid (show wrap64 (n * 2 ^ (23 - L)) = n * 2 ^ (23 - L) by
    have := mant_lt n
    rw [HM.out] at this
    exact wrap64_of (by omega))
  have HT := Lib.hid (show ((23 : Int) - L).toNat = 23 - L by omega)
  have HL := Lib.hid hL
  clear hL HE HG
  go_enter Tryz.func55, Tryz.ntmps55
  go_wp2_with fail
  rw [HA.out]
  refine (len_any (n.natAbs : Int) (by omega) (by omega) _).mono ?_; rintro e1 w1 ⟨rfl, rfl⟩
  simp only [Int.toNat_natCast, HL.out]
  go_wp2
  any_goals (exfalso; rename_i h; rcases h with h | h; exact h0 (by simpa using h); omega)
  refine bodyPost_ret (v := .tuple #[.agg #[.int .i64 (mant n), .int .i64 (e + L)], .int .i64 0]) (by rw [HM.out]; simp [results, Tryz.results55, cellsF, go_sem, HS.out]) rfl ⟨?_, (Below.refl _ w).alloc (Nat.le_refl _) _⟩
  rw [FG.out]
theorem floating_long (n e : Int) (hn : -18014398509481984 ≤ n ∧ n ≤ 18014398509481984) (he : -100000 ≤ e ∧ e ≤ 100000) (L : Nat) (hL : bl n.natAbs = L) (hL5 : L ≤ 55) (h0 : ¬ n = 0) (h1 : e + L ≤ 63) (h2 : -64 ≤ e + L) (h3 : 23 ≤ L) (w : World) :
    Calls Tryz.prog 55 #[.int .i64 n, .int .i64 e] w (FloatIs n e w) := by
  have HN := Lib.hid (wrap64_of (n := -n) (by omega))
  have HA := Lib.hid (show max n (-n) = (n.natAbs : Int) by omega)
  have HG : ¬ Gone n e := fun h => by
    rcases h with h | h
    · exact h0 h
    · unfold fexp at h; omega
  have HE : fexp n e = e + L := by unfold fexp; rw [hL]
  have FG := Lib.hid (show fOut n e = .returned (.tuple #[.agg #[.int .i64 (mant n), .int .i64 (e + L)], .int .i64 0]) by
    unfold fOut fM fE fErr fBig
    rw [if_neg HG, if_neg HG, if_neg HG, HE, if_neg (by omega), if_neg (by omega), decide_eq_false (by omega)]; rfl)
  have HM := Lib.hid (show mant n = n.tdiv (2 ^ (L - 23)) by unfold mant; rw [if_neg (by omega), hL])
  have HT := Lib.hid (show ((L : Int) - 23).toNat = L - 23 by omega)
  have HL := Lib.hid hL
  clear hL HE HG
  go_enter Tryz.func55, Tryz.ntmps55
  go_wp2_with fail
  rw [HA.out]
  refine (len_any (n.natAbs : Int) (by omega) (by omega) _).mono ?_; rintro e1 w1 ⟨rfl, rfl⟩
  simp only [Int.toNat_natCast, HL.out]
  go_wp2_with fail
  any_goals (exfalso; rename_i h; rcases h with h | h; exact h0 (by simpa using h); omega)
  refine (cut_any n (L - 23) (by omega) (by omega) (by omega) _).mono ?_; rintro e1 w1 ⟨rfl, rfl⟩
  go_wp2
  refine bodyPost_ret (v := .tuple #[.agg #[.int .i64 (mant n), .int .i64 (e + L)], .int .i64 0]) (by rw [HM.out]; simp [results, Tryz.results55, cellsF, go_sem, HT.out]) rfl ⟨?_, (Below.refl _ w).alloc (Nat.le_refl _) _⟩
  rw [FG.out]
theorem floating_any (n e : Int) (hn : -18014398509481984 ≤ n ∧ n ≤ 18014398509481984) (he : -100000 ≤ e ∧ e ≤ 100000) (w : World) :
    Calls Tryz.prog 55 #[.int .i64 n, .int .i64 e] w (FloatIs n e w) := by
  have h5 := fl_len hn
  by_cases h0 : n = 0
  · exact floating_gone n e hn he _ rfl h5 (.inl h0) w
  · by_cases h1 : e + bl n.natAbs < -64
    · exact floating_gone n e hn he _ rfl h5 (.inr h1) w
    · by_cases h2 : 63 < e + bl n.natAbs
      · exact floating_big n e hn he _ rfl h5 h0 h2 w
      · by_cases h3 : bl n.natAbs < 23
        · exact floating_short n e hn he _ rfl h5 h0 (by omega) (by omega) h3 w
        · exact floating_long n e hn he _ rfl h5 h0 (by omega) (by omega) (by omega) w
end Go.Proofs.YtbiljmcgcflmmaaGreatDoor
namespace Go.Proofs.YtbiljmcgcflmmaaGreatDoor
open Go.RowKit Fm
set_option linter.unusedVariables false
set_option linter.unusedSimpArgs false

theorem bfew {n m : Nat} {w w' : World} (h : n ≤ m) (hb : Below m w w') : Below n w w' := ⟨hb.os, hb.tape, hb.output, hb.size, fun k hk => hb.block k (by omega)⟩
theorem two_any (k : Nat) (hk : k ≤ 62) (w : World) : Calls Tryz.prog 28 #[.int .i64 k] w fun e w' => e = .returned (.int .i64 (2 ^ k)) ∧ w' = w := by
  go_enter Tryz.func28, Tryz.ntmps28
  go_wp2
  go_loop [3, 4] (fun x i => ∃ j : Nat, j ≤ k ∧ i = .int .i64 j ∧ x = .int .i64 (2 ^ j)) (fun x i => k - (intOf i).toNat)
  case atStart => exact ⟨0, by omega, rfl, rfl⟩
  case round =>
    obtain ⟨j, hj, rfl, rfl⟩ := hrel
    by_cases hlt : j < k
    · have hp : (1 : Int) ≤ 2 ^ j ∧ (2 : Int) ^ j ≤ 2305843009213693952 := by
        have h1 : (2 : Nat) ^ j ≤ 2 ^ 61 := Nat.pow_le_pow_right (by omega) (by omega)
        have h2 := Nat.two_pow_pos j
        have h3 : ((2 ^ j : Nat) : Int) = (2 : Int) ^ j := by norm_cast
        have h4 : (2 : Nat) ^ 61 = 2305843009213693952 := by decide
        rw [← h3]
        omega
      have HP := Lib.hid (show (2 : Int) ^ (j + 1) = 2 * 2 ^ j by rw [Int.pow_succ, Int.mul_comm])
      generalize (2 : Int) ^ j = p at *
      go_wp2
      go_round
      case rel => exact ⟨j + 1, by omega, by go_num, by rw [HP.out]⟩
      case measure => simp [intOf]; omega
    · obtain rfl : j = k := by omega
      go_wp2
      go_ret
      exact ⟨rfl, rfl⟩
def FloatOut (n e : Int) : Ending := if inS (-70368744177664) 70368744177664 n && inS (-200) 200 e then fOut n e else .returned (.tuple #[.agg #[.int .i64 0, .int .i64 0], .int .i64 7])
theorem float_any (n e : Int) (w : World) :
    Calls Tryz.prog 22 #[.int .i64 n, .int .i64 e] w fun x w' => x = FloatOut n e ∧ Below w.heap.size w w' := by
  by_cases h1 : -70368744177664 ≤ n ∧ n ≤ 70368744177664
  · by_cases h2 : -200 ≤ e ∧ e ≤ 200
    · have H1 := Lib.hid (inS_t h1)
      have H2 := Lib.hid (inS_t h2)
      go_enter Tryz.func22, Tryz.ntmps22
      go_wp2_with fail
      refine (within_any _ _ _ _).mono ?_; rintro e1 w1 ⟨rfl, rfl⟩
      rw [H1.out]
      go_wp2_with fail
      refine (within_any _ _ _ _).mono ?_; rintro e1 w1 ⟨rfl, rfl⟩
      rw [H2.out]
      go_wp2_with fail
      refine (floating_any n e (by omega) (by omega) _).mono ?_; rintro e1 w1 ⟨rfl, hB⟩
      have hsz : (w.alloc (Obj.cells #[Value.int IntKind.i64 0, Value.int IntKind.i64 0] 46)).heap.size = w.heap.size + 1 := World.size_alloc _ _
      have c0 : w1.cell? ⟨w.heap.size, 0, none⟩ = some (.int .i64 0) := by rw [hB.cell (by rw [hsz]; show w.heap.size < _; omega)]; simp [go_sem]
      have c1 : w1.cell? ⟨w.heap.size, 1, none⟩ = some (.int .i64 0) := by rw [hB.cell (by rw [hsz]; show w.heap.size < _; omega)]; simp [go_sem]
      have f0 : w1.frozen? ⟨w.heap.size, 0, none⟩ = false := by rw [hB.frozen (by rw [hsz]; show w.heap.size < _; omega)]; simp [go_sem]
      have f1 : w1.frozen? ⟨w.heap.size, 1, none⟩ = false := by rw [hB.frozen (by rw [hsz]; show w.heap.size < _; omega)]; simp [go_sem]
      have bW : Below w.heap.size w w1 := ((Below.refl _ w).alloc (Nat.le_refl _) _).trans (bfew (by rw [hsz]; omega) hB)
      unfold fOut
      go_wp2
      refine bodyPost_ret (v := .tuple #[.agg #[.int .i64 (fM n e), .int .i64 (fE n e)], .int .i64 (fErr n e)]) (by simp [results, Tryz.results22, cellsF, go_sem, c0, c1]) rfl ⟨?_, ?_⟩
      · unfold FloatOut; rw [H1.out, H2.out]; rfl
      · exact (bW.setCell (p := ⟨w.heap.size, 0, none⟩) (Nat.le_refl _) _).setCell (p := ⟨w.heap.size, 1, none⟩) (Nat.le_refl _) _
    · have H1 := Lib.hid (inS_t h1)
      have H2 := Lib.hid (inS_f h2)
      go_enter Tryz.func22, Tryz.ntmps22
      go_wp2_with fail
      refine (within_any _ _ _ _).mono ?_; rintro e1 w1 ⟨rfl, rfl⟩
      rw [H1.out]
      go_wp2_with fail
      refine (within_any _ _ _ _).mono ?_; rintro e1 w1 ⟨rfl, rfl⟩
      rw [H2.out]
      go_wp2
      refine bodyPost_ret (v := .tuple #[.agg #[.int .i64 0, .int .i64 0], .int .i64 7]) (by simp [results, Tryz.results22, cellsF, go_sem]) rfl ⟨?_, (Below.refl _ w).alloc (Nat.le_refl _) _⟩
      unfold FloatOut; rw [H1.out, H2.out]; rfl
  · have H1 := Lib.hid (inS_f h1)
    go_enter Tryz.func22, Tryz.ntmps22
    go_wp2_with fail
    refine (within_any _ _ _ _).mono ?_; rintro e1 w1 ⟨rfl, rfl⟩
    rw [H1.out]
    go_wp2
    refine bodyPost_ret (v := .tuple #[.agg #[.int .i64 0, .int .i64 0], .int .i64 7]) (by simp [results, Tryz.results22, cellsF, go_sem]) rfl ⟨?_, (Below.refl _ w).alloc (Nat.le_refl _) _⟩
    unfold FloatOut; rw [H1.out]; rfl
end Go.Proofs.YtbiljmcgcflmmaaGreatDoor
namespace Go.Proofs.YtbiljmcgcflmmaaGreatDoor
open Go.RowKit Fm
set_option linter.unusedVariables false
set_option linter.unusedSimpArgs false

theorem rfloating_zero (w : World) : Calls Tryz.prog 25 #[.agg #[.int .i64 0, .int .i64 0]] w fun x w' => x = .returned (.bool true) ∧ Below w.heap.size w w' :=
  Ev.closed_is Ev.stepQ_ok (vs := []) rfl 10 2 rfl (fun _ => by kernel_rfl) (fun v hv => by cases hv)

theorem neq_zero (m e : Int) (hm : ¬ m = 0) (w : World) : (Op.equalIn 10000 46 (.agg #[.int .i64 m, .int .i64 e]) (.agg #[.int .i64 0, .int .i64 0])).run Tryz.prog w = .ok false w := by
  have h1 : (m == 0) = false := by simpa using hm
  go_simp
end Go.Proofs.YtbiljmcgcflmmaaGreatDoor
namespace Go.Proofs.YtbiljmcgcflmmaaGreatDoor
open Go.RowKit Fm Go.Sort
set_option linter.unusedVariables false
set_option linter.unusedSimpArgs false

theorem rfloating_some (m e : Int) (h0 : 4194304 ≤ m.natAbs) (h1 : m.natAbs ≤ 8388607) (he : -64 ≤ e ∧ e ≤ 63) (w : World) : Calls Tryz.prog 25 #[.agg #[.int .i64 m, .int .i64 e]] w fun x w' => x = .returned (.bool true) ∧ Below w.heap.size w w' := by
  obtain ⟨W, hW⟩ : ∃ W, W = w.alloc (Obj.cells #[Value.int IntKind.i64 m, Value.int IntKind.i64 e] 46) := ⟨_, rfl⟩
  have bW : Below w.heap.size w W := by rw [hW]; exact (Below.refl _ w).alloc (Nat.le_refl _) _
  have c0 : W.cell? ⟨w.heap.size, 0, none⟩ = some (.int .i64 m) := by rw [hW]; simp [go_sem]
  have c1 : W.cell? ⟨w.heap.size, 1, none⟩ = some (.int .i64 e) := by rw [hW]; simp [go_sem]
  have hm : (m == 0) = false := by simp; omega
  go_enter Tryz.func25, Tryz.ntmps25
  go_wp2
  rw [← hW]
  clear hW
  have k0 := cell_regrown c0
  have k1 := cell_regrown c1
  have w1' : IntKind.i64.wrap (-m) = -m := by rw [IntKind.wrap_i64]; omega
  have w2' : max m (-m) = (m.natAbs : Int) := by omega
  have cL : ∀ d os, Calls Tryz.prog 58 #[] (grow (redrawn W d) os) fun e w'' => e = .returned (.int .i64 4194304) ∧ ∃ p : Regrown, w'' = grow (redrawn W p.d) p.os := fun d os =>
    Calls.regrown_of (Calls.mono (least_any _) fun e w' h => ⟨h.1, by rw [h.2]; go_grown⟩)
  have cM : ∀ d os, Calls Tryz.prog 59 #[] (grow (redrawn W d) os) fun e w'' => e = .returned (.int .i64 8388607) ∧ ∃ p : Regrown, w'' = grow (redrawn W p.d) p.os := fun d os =>
    Calls.regrown_of (Calls.mono (most_any _) fun e w' h => ⟨h.1, by rw [h.2]; go_grown⟩)
  have cI : ∀ d os, Calls Tryz.prog 57 #[.int .i64 (m.natAbs : Int), .int .i64 4194304, .int .i64 8388607] (grow (redrawn W d) os) fun e w'' => e = .returned (.bool true) ∧ ∃ p : Regrown, w'' = grow (redrawn W p.d) p.os := fun d os =>
    Calls.regrown_of (Calls.mono (rin_any _ _ _ _) fun e w' h => ⟨by rw [h.1, inS_t (by omega)], by rw [h.2]; go_grown⟩)
  have cE : ∀ d os, Calls Tryz.prog 57 #[.int .i64 e, .int .i64 (-64), .int .i64 63] (grow (redrawn W d) os) fun x w'' => x = .returned (.bool true) ∧ ∃ p : Regrown, w'' = grow (redrawn W p.d) p.os := fun d os =>
    Calls.regrown_of (Calls.mono (rin_any _ _ _ _) fun e w' h => ⟨by rw [h.1, inS_t (by omega)], by rw [h.2]; go_grown⟩)
  refine wp_region_quiet_below rfl (by kernel_rfl) ?_
  clear c0 c1
  repeat (quiet_step (first | with_reducible exact cL _ _ | with_reducible exact cM _ _ | with_reducible exact cI _ _ | with_reducible exact cE _ _); try simp only [w1', w2'])
  refine wpQuiet_nil ?_
  intro _ hw'
  obtain ⟨⟨dq, osq⟩, hw''⟩ := hw'
  subst hw''
  have b3 := below_regrown W dq osq
  go_wp2
  go_ret
  exact ⟨rfl, bW.trans (b3.mono bW.size)⟩
end Go.Proofs.YtbiljmcgcflmmaaGreatDoor
namespace Go.Proofs.YtbiljmcgcflmmaaGreatDoor
open Go.RowKit Fm Go.Sort
set_option linter.unusedVariables false
set_option linter.unusedSimpArgs false

def TrueIs (w : World) (x : Ending) (w' : World) : Prop := x = .returned (.bool true) ∧ Below w.heap.size w w'
theorem floats_err (n e k : Int) (hk : k = 7 ∨ k = 171) (ho : FloatOut n e = .returned (.tuple #[.agg #[.int .i64 0, .int .i64 0], .int .i64 k])) (w : World) :
    Calls Tryz.prog 5 #[.int .i64 n, .int .i64 e] w (TrueIs w) := by
  have HO := Lib.hid ho
  clear ho
  go_enter Tryz.func5, Tryz.ntmps5
  go_wp2_with fail
  refine (float_any n e _).mono ?_; rintro x w1 ⟨rfl, hB⟩
  rw [HO.out]
  have hk0 : ¬ k = 0 := by omega
  go_wp2_with fail
  refine (Ev.awake _).mono ?_; rintro x w2 ⟨rfl, hB2⟩
  go_wp2
  go_ret
  refine ⟨rfl, hB.trans (((Below.refl _ w1).alloc hB.size _).trans (hB2.mono ?_))⟩
  rw [World.size_alloc]
  have := hB.size
  omega
end Go.Proofs.YtbiljmcgcflmmaaGreatDoor
namespace Go.Proofs.YtbiljmcgcflmmaaGreatDoor
open Go.RowKit Fm Go.Sort
set_option linter.unusedVariables false
set_option linter.unusedSimpArgs false

theorem two46 (w : World) : Calls Tryz.prog 28 #[.int .i64 46] w fun e w' => e = .returned (.int .i64 70368744177664) ∧ w' = w := two_any 46 (by omega) w
theorem two16 (w : World) : Calls Tryz.prog 28 #[.int .i64 16] w fun e w' => e = .returned (.int .i64 65536) ∧ w' = w := two_any 16 (by omega) w
theorem two6 (w : World) : Calls Tryz.prog 28 #[.int .i64 6] w fun e w' => e = .returned (.int .i64 64) ∧ w' = w := two_any 6 (by omega) w

theorem floats_zero (n e : Int) (h1 : -70368744177664 ≤ n ∧ n ≤ 70368744177664) (h2 : -200 ≤ e ∧ e ≤ 200) (L : Nat) (hL : bl n.natAbs = L) (hg : n = 0 ∨ e + L ≤ -65) (ho : FloatOut n e = .returned (.tuple #[.agg #[.int .i64 0, .int .i64 0], .int .i64 0])) (w : World) :
    Calls Tryz.prog 5 #[.int .i64 n, .int .i64 e] w (TrueIs w) := by
  have HO := Lib.hid ho
  have HL := Lib.hid hL
  have HA := Lib.hid (show max n (-n) = (n.natAbs : Int) by omega)
  have h47 : L ≤ 47 := by rw [← hL]; exact bl_47 h1.1 h1.2
  clear ho hL
  go_enter Tryz.func5, Tryz.ntmps5
  go_wp2_with fail
  refine (float_any n e _).mono ?_; rintro x w1 ⟨rfl, hB⟩
  rw [HO.out]
  go_wp2_with fail
  refine (rfloating_zero _).mono ?_; rintro x w2 ⟨rfl, hB2⟩
  have c0 : w2.cell? ⟨w1.heap.size, 0, none⟩ = some (.int .i64 0) := by rw [hB2.cell (by rw [World.size_alloc]; show w1.heap.size < _; omega)]; simp [go_sem]
  have c1 : w2.cell? ⟨w1.heap.size, 1, none⟩ = some (.int .i64 0) := by rw [hB2.cell (by rw [World.size_alloc]; show w1.heap.size < _; omega)]; simp [go_sem]
  have bW : Below w.heap.size w w2 := hB.trans (((Below.refl _ w1).alloc hB.size _).trans (hB2.mono (by rw [World.size_alloc]; have := hB.size; omega)))
  clear hB hB2
  go_wp2_with fail
  refine (two46 _).mono ?_; rintro x w3 ⟨rfl, rfl⟩
  go_wp2_with fail
  refine (two46 _).mono ?_; rintro x w3 ⟨rfl, rfl⟩
  go_wp2_with fail
  go_loop [7, 8] (fun x t => ∃ k : Nat, k ≤ L ∧ x = .int .i64 ((n.natAbs / 2 ^ k : Nat) : Int) ∧ t = .int .i64 (e + k)) (fun x t => (intOf x).toNat)
  case atStart => exact ⟨0, by omega, by rw [HA.out]; simp, by simp⟩
  case round =>
    obtain ⟨k, hk, rfl, rfl⟩ := hrel
    have hp := div_pos_iff n.natAbs k
    rw [HL.out] at hp
    have HQ := Lib.hid (show n.natAbs / 2 ^ (k + 1) = n.natAbs / 2 ^ k / 2 by rw [Nat.pow_succ, Nat.div_div_eq_div_mul])
    have hle : n.natAbs / 2 ^ k ≤ n.natAbs := Nat.div_le_self _ _
    generalize n.natAbs / 2 ^ k = s at *
    by_cases hlt : k < L
    · have hs : 0 < s := hp.2 hlt
      go_wp2
      go_round
      case rel => exact ⟨k + 1, by omega, by rw [HQ.out]; go_num, by go_num⟩
      case measure => simp [intOf]; omega
    · obtain rfl : k = L := by omega
      obtain rfl : s = 0 := by omega
      clear hp hlt
      by_cases hn0 : n = 0
      · go_wp2_with fail
        refine (Ev.awake _).mono ?_; rintro x w4 ⟨rfl, hB4⟩
        go_wp2
        go_ret
        exact ⟨rfl, bW.trans (hB4.mono bW.size)⟩
      · have ht : e + k ≤ -65 := hg.resolve_left hn0
        go_wp2_with fail
        refine (Ev.awake _).mono ?_; rintro x w4 ⟨rfl, hB4⟩
        go_wp2
        go_ret
        exact ⟨rfl, bW.trans (hB4.mono bW.size)⟩
end Go.Proofs.YtbiljmcgcflmmaaGreatDoor
namespace Go.Proofs.YtbiljmcgcflmmaaGreatDoor
open Go.RowKit Fm Go.Sort
set_option linter.unusedVariables false
set_option linter.unusedSimpArgs false

theorem floats_short (n e M : Int) (h1 : -70368744177664 ≤ n ∧ n ≤ 70368744177664) (h2 : -200 ≤ e ∧ e ≤ 200) (L : Nat) (hM : M = n * 2 ^ (23 - L)) (hL : 1 ≤ L ∧ L ≤ 23) (m0 : 4194304 ≤ M.natAbs) (m1 : M.natAbs ≤ 8388607) (hE : -64 ≤ e + L ∧ e + L ≤ 63)
    (ho : FloatOut n e = .returned (.tuple #[.agg #[.int .i64 M, .int .i64 (e + L)], .int .i64 0])) (w : World) :
    Calls Tryz.prog 5 #[.int .i64 n, .int .i64 e] w (TrueIs w) := by
  have HO := Lib.hid ho
  have HM := Lib.hid hM
  clear ho hM
  have hM0 : ¬ M = 0 := by omega
  go_enter Tryz.func5, Tryz.ntmps5
  go_wp2_with fail
  refine (float_any n e _).mono ?_; rintro x w1 ⟨rfl, hB⟩
  rw [HO.out]
  go_wp2_with fail
  refine (rfloating_some M (e + L) m0 m1 hE _).mono ?_; rintro x w2 ⟨rfl, hB2⟩
  have c0 : w2.cell? ⟨w1.heap.size, 0, none⟩ = some (.int .i64 M) := by rw [hB2.cell (by rw [World.size_alloc]; show w1.heap.size < _; omega)]; simp [go_sem]
  have c1 : w2.cell? ⟨w1.heap.size, 1, none⟩ = some (.int .i64 (e + L)) := by rw [hB2.cell (by rw [World.size_alloc]; show w1.heap.size < _; omega)]; simp [go_sem]
  have bW : Below w.heap.size w w2 := hB.trans (((Below.refl _ w1).alloc hB.size _).trans (hB2.mono (by rw [World.size_alloc]; have := hB.size; omega)))
  clear hB hB2
  go_wp2_with fail
  refine (two46 _).mono ?_; rintro x w3 ⟨rfl, rfl⟩
  go_wp2_with fail
  refine (two46 _).mono ?_; rintro x w3 ⟨rfl, rfl⟩
  go_wp2_with fail
  have k0 := cell_regrown c0
  have e1 : e + (L : Int) - 23 - e = L - 23 := by omega
  have w1' : IntKind.i64.wrap (-((L : Int) - 23)) = ((23 - L : Nat) : Int) := by rw [IntKind.wrap_i64]; omega
  have w2' : IntKind.i64.wrap (n * 2 ^ (23 - L)) = M := by rw [← HM.out, IntKind.wrap_i64]; omega
  have cT : ∀ d os, Calls Tryz.prog 28 #[.int .i64 ((23 - L : Nat) : Int)] (grow (redrawn w3 d) os) fun e w'' => e = .returned (.int .i64 (2 ^ (23 - L))) ∧ ∃ p : Regrown, w'' = grow (redrawn w3 p.d) p.os := fun d os =>
    Calls.regrown_of (Calls.mono (two_any (23 - L) (by omega) _) fun e w' h => ⟨h.1, by rw [h.2]; go_grown⟩)
  have cA : ∀ d os, Calls Tryz.prog 24 #[] (grow (redrawn w3 d) os) fun e w'' => e = .returned (.bool true) ∧ ∃ p : Regrown, w'' = grow (redrawn w3 p.d) p.os := fun d os =>
    Calls.regrown_of (Ev.awake _)
  clear c0 c1
  simp only [e1]
  refine wp_region_quiet_below rfl (by kernel_rfl) ?_
  repeat (quiet_step (first | with_reducible exact cT _ _ | with_reducible exact cA _ _); try simp only [w1', w2', beq_self_eq_true])
  refine wpQuiet_nil ?_
  intro _ hw'
  obtain ⟨⟨dq, osq⟩, hw''⟩ := hw'
  subst hw''
  have b3 := below_regrown w3 dq osq
  go_wp2
  go_ret
  exact ⟨rfl, bW.trans (b3.mono bW.size)⟩
end Go.Proofs.YtbiljmcgcflmmaaGreatDoor
namespace Go.Proofs.YtbiljmcgcflmmaaGreatDoor
open Go.RowKit Fm Go.Sort
set_option linter.unusedVariables false
set_option linter.unusedSimpArgs false

set_option maxHeartbeats 4000000 in
theorem floats_long (n e M : Int) (h1 : -70368744177664 ≤ n ∧ n ≤ 70368744177664) (h2 : -200 ≤ e ∧ e ≤ 200) (L : Nat) (d T : Int) (hT : T = 2 ^ (L - 23)) (hd : n - M * T = d) (hd1 : (d.natAbs : Int) < T) (hd2 : d.natAbs * 65536 ≤ n.natAbs / 64) (hd3 : d = 0 ∨ (0 < d ↔ 0 < n)) (hL : 24 ≤ L ∧ L ≤ 47) (m0 : 4194304 ≤ M.natAbs) (m1 : M.natAbs ≤ 8388607) (hE : -64 ≤ e + L ∧ e + L ≤ 63)
    (ho : FloatOut n e = .returned (.tuple #[.agg #[.int .i64 M, .int .i64 (e + L)], .int .i64 0])) (w : World) :
    Calls Tryz.prog 5 #[.int .i64 n, .int .i64 e] w (TrueIs w) := by
  have HO := Lib.hid ho
  have HT := Lib.hid hT
  have HD := Lib.hid hd
  have hTb : 1 ≤ T ∧ T ≤ 16777216 := by
    rw [hT]
    have a1 : (2 : Nat) ^ (L - 23) ≤ 2 ^ 24 := Nat.pow_le_pow_right (by omega) (by omega)
    have a2 := Nat.two_pow_pos (L - 23)
    have a3 : ((2 ^ (L - 23) : Nat) : Int) = (2 : Int) ^ (L - 23) := by norm_cast
    have a4 : (2 : Nat) ^ 24 = 16777216 := by decide
    rw [← a3]
    omega
  have HMT := Lib.hid (show IntKind.i64.wrap (M * T) = M * T by
    have b1 : (M * T).natAbs = M.natAbs * T.natAbs := Int.natAbs_mul _ _
    have b2 : M.natAbs * T.natAbs ≤ 8388607 * 16777216 := Nat.mul_le_mul m1 (by omega)
    rw [IntKind.wrap_i64]
    omega)
  have HAd := Lib.hid (show max d (-d) = (d.natAbs : Int) by omega)
  have HAn := Lib.hid (show max n (-n) = (n.natAbs : Int) by omega)
  clear ho hT hd
  have hM0 : ¬ M = 0 := by omega
  go_enter Tryz.func5, Tryz.ntmps5
  go_wp2_with fail
  refine (float_any n e _).mono ?_; rintro x w1 ⟨rfl, hB⟩
  rw [HO.out]
  go_wp2_with fail
  refine (rfloating_some M (e + L) m0 m1 hE _).mono ?_; rintro x w2 ⟨rfl, hB2⟩
  have c0 : w2.cell? ⟨w1.heap.size, 0, none⟩ = some (.int .i64 M) := by rw [hB2.cell (by rw [World.size_alloc]; show w1.heap.size < _; omega)]; simp [go_sem]
  have c1 : w2.cell? ⟨w1.heap.size, 1, none⟩ = some (.int .i64 (e + L)) := by rw [hB2.cell (by rw [World.size_alloc]; show w1.heap.size < _; omega)]; simp [go_sem]
  have bW : Below w.heap.size w w2 := hB.trans (((Below.refl _ w1).alloc hB.size _).trans (hB2.mono (by rw [World.size_alloc]; have := hB.size; omega)))
  clear hB hB2
  go_wp2_with fail
  refine (two46 _).mono ?_; rintro x w3 ⟨rfl, rfl⟩
  go_wp2_with fail
  refine (two46 _).mono ?_; rintro x w3 ⟨rfl, rfl⟩
  go_wp2_with fail
  have k0 := cell_regrown c0
  have e1 : e + (L : Int) - 23 - e = L - 23 := by omega
  have w2' : IntKind.i64.wrap (M * T) = M * T := HMT.out
  have w3' : IntKind.i64.wrap (n - M * T) = d := by rw [HD.out, IntKind.wrap_i64]; omega
  have e2 : (L : Int) - 23 = ((L - 23 : Nat) : Int) := by omega
  have cT : ∀ d os, Calls Tryz.prog 28 #[.int .i64 ((L - 23 : Nat) : Int)] (grow (redrawn w3 d) os) fun e w'' => e = .returned (.int .i64 T) ∧ ∃ p : Regrown, w'' = grow (redrawn w3 p.d) p.os := fun d os =>
    Calls.regrown_of (Calls.mono (two_any (L - 23) (by omega) _) fun e w' h => ⟨by rw [h.1, HT.out], by rw [h.2]; go_grown⟩)
  clear c0 c1
  simp only [e1, e2]
  refine wp_region_quiet_below rfl (by kernel_rfl) ?_
  repeat (quiet_step (with_reducible exact cT _ _); try simp only [w2', w3'])
  refine wpQuiet_nil ?_
  intro _ hw'
  obtain ⟨⟨dq, osq⟩, hw''⟩ := hw'
  subst hw''
  have b3 := below_regrown w3 dq osq
  obtain ⟨X, hX⟩ : ∃ X, X = grow (redrawn w3 dq) osq := ⟨_, rfl⟩
  rw [← hX] at b3
  rw [← hX]
  have bX : Below w.heap.size w X := bW.trans (b3.mono bW.size)
  clear hX cT k0 b3 bW w2' w3'
  have hL23 : L - 23 ≤ 62 := by omega
  by_cases hz : d = 0
  · go_wp2_with fail
    refine (two_any (L - 23) hL23 _).mono ?_; rintro x w4 ⟨rfl, rfl⟩
    rw [← HT.out]
    go_wp2_with fail
    refine (two16 _).mono ?_; rintro x w4 ⟨rfl, rfl⟩
    go_wp2_with fail
    rw [HAn.out]
    refine (two6 _).mono ?_; rintro x w4 ⟨rfl, rfl⟩
    go_wp2_with fail
    refine (Ev.awake _).mono ?_; rintro x w5 ⟨rfl, hB5⟩
    go_wp2
    go_ret
    exact ⟨rfl, bX.trans (hB5.mono bX.size)⟩
  · have hs : 0 < d ↔ 0 < n := hd3.resolve_left hz
    by_cases hp : 0 < d
    · have hn : 0 < n := hs.1 hp
      go_wp2_with fail
      rw [HAd.out]
      refine (two_any (L - 23) hL23 _).mono ?_; rintro x w4 ⟨rfl, rfl⟩
      rw [← HT.out]
      go_wp2_with fail
      refine (two16 _).mono ?_; rintro x w4 ⟨rfl, rfl⟩
      go_wp2_with fail
      rw [HAn.out]
      refine (two6 _).mono ?_; rintro x w4 ⟨rfl, rfl⟩
      go_wp2_with fail
      refine (Ev.awake _).mono ?_; rintro x w5 ⟨rfl, hB5⟩
      go_wp2
      go_ret
      exact ⟨rfl, bX.trans (hB5.mono bX.size)⟩
    · have hn : ¬ 0 < n := fun h => hp (hs.2 h)
      go_wp2_with fail
      rw [HAd.out]
      refine (two_any (L - 23) hL23 _).mono ?_; rintro x w4 ⟨rfl, rfl⟩
      rw [← HT.out]
      go_wp2_with fail
      refine (two16 _).mono ?_; rintro x w4 ⟨rfl, rfl⟩
      go_wp2_with fail
      rw [HAn.out]
      refine (two6 _).mono ?_; rintro x w4 ⟨rfl, rfl⟩
      go_wp2_with fail
      refine (Ev.awake _).mono ?_; rintro x w5 ⟨rfl, hB5⟩
      go_wp2
      go_ret
      exact ⟨rfl, bX.trans (hB5.mono bX.size)⟩
end Go.Proofs.YtbiljmcgcflmmaaGreatDoor
namespace Go.Proofs.YtbiljmcgcflmmaaGreatDoor
open Go.RowKit Fm Go.Sort
set_option linter.unusedVariables false
set_option linter.unusedSimpArgs false

theorem floatOut_in {n e : Int} (h1 : -70368744177664 ≤ n ∧ n ≤ 70368744177664) (h2 : -200 ≤ e ∧ e ≤ 200) : FloatOut n e = fOut n e := by
  unfold FloatOut
  rw [inS_t h1, inS_t h2]
  rfl
theorem fOut_gone {n e : Int} (h : Gone n e) : fOut n e = .returned (.tuple #[.agg #[.int .i64 0, .int .i64 0], .int .i64 0]) := by
  unfold fOut fM fE fErr fBig
  rw [if_pos h, if_pos h, if_pos h]
  rfl
theorem fOut_big {n e : Int} (h : ¬ Gone n e) (h1 : 63 < fexp n e) : fOut n e = .returned (.tuple #[.agg #[.int .i64 0, .int .i64 0], .int .i64 171]) := by
  unfold fOut fM fE fErr fBig
  rw [if_neg h, if_neg h, if_neg h, if_pos h1, if_pos h1, decide_eq_true h1]
  rfl
theorem fOut_some {n e : Int} (h : ¬ Gone n e) (h1 : ¬ 63 < fexp n e) : fOut n e = .returned (.tuple #[.agg #[.int .i64 (mant n), .int .i64 (fexp n e)], .int .i64 0]) := by
  unfold fOut fM fE fErr fBig
  rw [if_neg h, if_neg h, if_neg h, if_neg h1, if_neg h1, decide_eq_false h1]
  rfl

theorem floats_walk (n e : Int) (w : World) : Calls Tryz.prog 5 #[.int .i64 n, .int .i64 e] w (TrueIs w) := by
  by_cases h1 : -70368744177664 ≤ n ∧ n ≤ 70368744177664
  · by_cases h2 : -200 ≤ e ∧ e ≤ 200
    · have ho := floatOut_in h1 h2
      by_cases hg : Gone n e
      · refine floats_zero n e h1 h2 _ rfl ?_ (by rw [ho, fOut_gone hg]) w
        rcases hg with hg | hg
        · exact .inl hg
        · unfold fexp at hg
          exact .inr (by omega)
      · by_cases hb : 63 < fexp n e
        · exact floats_err n e 171 (.inr rfl) (by rw [ho, fOut_big hg hb]) w
        · have hn : n ≠ 0 := fun h => hg (.inl h)
          have hx : ¬ fexp n e < -64 := fun h => hg (.inr h)
          have hm0 := mant_ge hn
          have hm1 := mant_lt n
          have hl := bl_pos (n := n.natAbs) (by omega)
          have ho' := ho.trans (fOut_some hg hb)
          unfold fexp at hb hx ho'
          by_cases hL : bl n.natAbs ≤ 23
          · exact floats_short n e (mant n) h1 h2 _ (mant_short hL) ⟨hl, hL⟩ hm0 (by omega) (by omega) ho' w
          · obtain ⟨d, g1, g2, g3, g4⟩ := mant_off hn (by omega)
            have h47 := bl_47 h1.1 h1.2
            have hT : ((2 ^ (bl n.natAbs - 23) : Nat) : Int) = (2 : Int) ^ (bl n.natAbs - 23) := by norm_cast
            exact floats_long n e (mant n) h1 h2 _ d _ rfl g1 (by rw [← hT]; omega) g3 g4 ⟨by omega, h47⟩ hm0 (by omega) (by omega) ho' w
    · refine floats_err n e 7 (.inl rfl) ?_ w
      unfold FloatOut
      rw [inS_f h2, Bool.and_false]
      rfl
  · refine floats_err n e 7 (.inl rfl) ?_ w
    unfold FloatOut
    rw [inS_f h1]
    rfl
end Go.Proofs.YtbiljmcgcflmmaaGreatDoor
