/-
  HOW MANY PULSES WORDS HAVE: what the law's count answers. No statement is proved here.
-/
import Derived.Test.YtplipfcnjmgicaaBack
namespace Go.Proofs.Ytplipfcnjmgicaa
open Go.RowKit
set_option linter.unusedVariables false
set_option linter.unusedSimpArgs false

def cnt (bs : List Bool) : Nat := bs.count true
theorem cnt_append (a b : List Bool) : cnt (a ++ b) = cnt a + cnt b := List.count_append
theorem cnt_le (a : List Bool) : cnt a ≤ a.length := List.count_le_length
theorem cnt_rot (s : Nat) (l : List Bool) : cnt (rot s l) = cnt l := by
  unfold rot
  rw [cnt_append, Nat.add_comm, ← cnt_append, List.take_append_drop]
theorem cnt_false (n : Nat) : cnt (List.replicate n false) = 0 := by simp [cnt, List.count_replicate]
theorem cnt_bit (z : Int) (j : Nat) : (cnt (bitsOf (j + 1) z) : Int) = cnt (bitsOf j z) + z / 2 ^ j % 2 := by
  rw [bitsOf_succ, cnt_append, Int.natCast_add]
  congr 1
  rcases Int.emod_two_eq (z / 2 ^ j) with h | h <;> rw [h] <;> rfl
/-- The bits behind the last one that is set count nothing. -/
theorem cnt_rest (z : Int) (j : Nat) (h0 : z / 2 ^ j = 0) : ∀ d : Nat, cnt (bitsOf (j + d) z) = cnt (bitsOf j z)
  | 0 => rfl
  | d + 1 => by
    have ih := cnt_rest z j h0 d
    have h : (cnt (bitsOf (j + d + 1) z) : Int) = cnt (bitsOf (j + d) z) + z / 2 ^ (j + d) % 2 := cnt_bit z (j + d)
    have e : z / 2 ^ (j + d) = 0 := by
      rw [Int.pow_add, ← Int.ediv_ediv_of_nonneg (Int.pow_nonneg (by decide)), h0, Int.zero_ediv]
    rw [e] at h
    have h2 : j + (d + 1) = j + d + 1 := rfl
    rw [h2]
    omega
theorem bits_back : ∀ l : List Bool, bitsOf l.length (valOf l : Int) = l := by
  intro l
  apply List.ext_getElem?
  intro p
  by_cases hp : p < l.length
  · have hv := valOf_bits l.length (valOf l : Int) (by omega)
    have hlt := valOf_lt l
    have h1 : ((valOf l : Nat) : Int) % 2 ^ l.length = valOf l := Int.emod_eq_of_lt (by omega) (by
      have : (2 : Int) ^ l.length = ((2 ^ l.length : Nat) : Int) := by simp
      omega)
    rw [h1] at hv
    exact congrArg (·[p]?) (valOf_inj _ _ (by rw [bitsOf_length]) (by omega))
  · rw [List.getElem?_eq_none (by rw [bitsOf_length]; omega), List.getElem?_eq_none (by omega)]
where
  valOf_inj : ∀ (a b : List Bool), a.length = b.length → valOf a = valOf b → a = b
    | [], [], _, _ => rfl
    | [], _ :: _, h, _ => by simp at h
    | _ :: _, [], h, _ => by simp at h
    | x :: xs, y :: ys, h, e => by
      unfold valOf at e
      have hx : bitN x ≤ 1 := by cases x <;> simp [bitN]
      have hy : bitN y ≤ 1 := by cases y <;> simp [bitN]
      have e1 : bitN x = bitN y := by omega
      have e2 : valOf xs = valOf ys := by omega
      have e3 : x = y := by cases x <;> cases y <;> simp [bitN] at e1 <;> rfl
      rw [e3, valOf_inj xs ys (by simpa using h) e2]
theorem pulses_append (b : Nat) (x y : List Int) : pulsesOf b (x ++ y) = pulsesOf b x ++ pulsesOf b y := by simp [pulsesOf]
theorem pulses_back (b : Nat) (hb : 0 < b) : ∀ (W : Nat) (bs : List Bool), bs.length = W * b → pulsesOf b (wordsOf b W bs) = bs := by
  intro W bs hl
  have hlen : (pulsesOf b (wordsOf b W bs)).length = W * b := by rw [pulsesOf_length, wordsOf_length]
  have key : ∀ k, k ≤ W → pulsesOf b ((wordsOf b W bs).take k) = bs.take (k * b) := by
    intro k
    induction k with
    | zero => intro _; simp [pulsesOf]
    | succ k ih =>
      intro hk
      have hkl : k < (wordsOf b W bs).length := by rw [wordsOf_length]; omega
      rw [pulsesOf_snoc b _ k hkl, ih (by omega)]
      have hg := wordsOf_get b W bs k (by omega)
      rw [List.getElem?_eq_getElem hkl] at hg
      injection hg with hg
      rw [hg]
      have hmul : (k + 1) * b ≤ W * b := Nat.mul_le_mul_right b hk
      rw [Nat.add_mul, Nat.one_mul] at hmul
      have hwl : (wordAt b bs k).length = b := by
        unfold wordAt
        rw [List.length_take, List.length_drop]
        omega
      have hbk := bits_back (wordAt b bs k)
      rw [hwl] at hbk
      rw [hbk, Nat.add_mul, Nat.one_mul, List.take_add]
      rfl
  have h := key W (Nat.le_refl _)
  rw [List.take_of_length_le (by rw [wordsOf_length]; exact Nat.le_refl _), List.take_of_length_le (by omega)] at h
  exact h
theorem cnt_words (b W s : Nat) (hb : 0 < b) (bs : List Bool) (hl : bs.length = W * b) : cnt (pulsesOf b (wordsOf b W (rot s bs))) = cnt bs := by
  rw [pulses_back b hb W _ (by rw [rot_length]; exact hl), cnt_rot]
theorem int_half (z : Int) (j : Nat) (h : 0 ≤ z) : (z / 2 ^ j).tdiv 2 = z / 2 ^ (j + 1) := by
  have h1 : 0 ≤ z / 2 ^ j := Int.ediv_nonneg h (Int.pow_nonneg (by decide))
  rw [Int.tdiv_eq_ediv_of_nonneg h1]
  exact half z j
theorem int_bit (z : Int) (j : Nat) (h : 0 ≤ z) : (z / 2 ^ j).tmod 2 = z / 2 ^ j % 2 := by
  have h1 : 0 ≤ z / 2 ^ j := Int.ediv_nonneg h (Int.pow_nonneg (by decide))
  exact Int.tmod_eq_emod_of_nonneg h1
theorem int_left {z : Int} {b j : Nat} (h0 : 0 ≤ z) (h1 : z < 2 ^ b) (h : 0 < z / 2 ^ j) : j < b := by
  by_cases hj : j < b
  · exact hj
  · exfalso
    have h2 : (2 : Int) ^ b ≤ 2 ^ j := by
      have e1 : (2 : Int) ^ b = ((2 ^ b : Nat) : Int) := by simp
      have e2 : (2 : Int) ^ j = ((2 ^ j : Nat) : Int) := by simp
      have e3 : 2 ^ b ≤ 2 ^ j := Nat.pow_le_pow_right (by decide) (by omega)
      omega
    rw [Int.ediv_eq_zero_of_lt h0 (by omega)] at h
    omega

set_option maxRecDepth 100000 in
set_option maxHeartbeats 2000000 in
theorem ones_any (b : Nat) (hb : 1 ≤ b ∧ b ≤ 40) (A : Option Addr) (c : Nat) (zs : List Int) (hz : zs.length ≤ 64) (hw : ∀ z ∈ zs, 0 ≤ z ∧ z < 2 ^ b) (w : World) (hR : IntsAt w w.heap.size A zs) :
    Calls Try.prog 48 #[.slice A zs.length c] w fun e w' => e = .returned (.int .i64 (cnt (pulsesOf b zs))) ∧ w' = w := by
  have HW := Lib.hid hw
  clear hw
  go_enter Try.func48, Try.ntmps48
  go_wp2
  go_loop [3, 4] (fun v i => ∃ k : Nat, k ≤ zs.length ∧ i = .int .i64 k ∧ v = .int .i64 (cnt (pulsesOf b (zs.take k)))) (fun _ i => zs.length - (intOf i).toNat)
  case atStart => exact ⟨0, by omega, rfl, rfl⟩
  case round =>
    obtain ⟨k, hk, rfl, rfl⟩ := hrel
    by_cases hlt : k < zs.length
    · have HS := Lib.hid (pulsesOf_snoc b zs k hlt)
      obtain ⟨ad, rfl, hlb, hc⟩ := hR.at_ hlt
      obtain ⟨z, hz0⟩ : ∃ z, z = zs[k] := ⟨_, rfl⟩
      have hzw := HW.out zs[k] (List.getElem_mem _)
      have hcl : cnt (pulsesOf b (zs.take k)) ≤ 2560 := by
        have h1 := cnt_le (pulsesOf b (zs.take k))
        rw [pulsesOf_length, List.length_take, Nat.min_eq_left hk] at h1
        have h2 : k * b ≤ 64 * 40 := Nat.mul_le_mul (by omega) hb.2
        omega
      rw [← hz0] at HS hc hzw
      have HZ := Lib.hid hzw
      clear hz0 hzw
      obtain ⟨acc, hacc⟩ : ∃ acc, acc = cnt (pulsesOf b (zs.take k)) := ⟨_, rfl⟩
      rw [← hacc] at hcl ⊢
      have HA := Lib.hid hacc
      clear hacc
      go_wp2
      go_loop [3, 5] (fun v x => ∃ m : Nat, m ≤ b ∧ x = .int .i64 (z / 2 ^ m) ∧ v = .int .i64 ((acc + cnt (bitsOf m z) : Nat) : Int)) (fun _ x => (intOf x).toNat)
      case atStart => exact ⟨0, by omega, by simp, by simp [bitsOf, cnt]⟩
      case round =>
        obtain ⟨m, hm, rfl, rfl⟩ := hrel
        have hzz := HZ.out
        have hnn : 0 ≤ z / 2 ^ m := Int.ediv_nonneg hzz.1 (Int.pow_nonneg (by decide))
        have hle : z / 2 ^ m ≤ z := Int.ediv_le_self _ hzz.1
        have hcm : cnt (bitsOf m z) ≤ m := by have := cnt_le (bitsOf m z); rwa [bitsOf_length] at this
        by_cases hpos : 0 < z / 2 ^ m
        · have hmb := int_left hzz.1 hzz.2 hpos
          have HB := Lib.hid (cnt_bit z m)
          have HH := Lib.hid (half z m)
          have ht := Int.tmod_eq_emod_of_nonneg (b := 2) hnn
          have hq := Int.tdiv_eq_ediv_of_nonneg (b := 2) hnn
          have hqb : z / 2 ^ m < 9223372036854775808 := by
            have h2 := hzz.2
            have e1 : (2 : Int) ^ b = ((2 ^ b : Nat) : Int) := by simp
            have e3 : 2 ^ b ≤ 2 ^ 40 := Nat.pow_le_pow_right (by decide) hb.2
            omega
          obtain ⟨q, hq0⟩ : ∃ q, q = z / 2 ^ m := ⟨_, rfl⟩
          obtain ⟨n0, hn0⟩ : ∃ n0 : Nat, n0 = acc + cnt (bitsOf m z) := ⟨_, rfl⟩
          rw [← hq0] at HB HH hpos ht hq hqb hnn ⊢
          rw [← hn0]
          have HN := Lib.hid hn0
          have hnb : n0 ≤ 2600 := by omega
          clear hzz hle hq0 hn0 hcm hcl
          have w1 : wrap64 ((n0 : Int) + q % 2) = (n0 : Int) + q % 2 := wrap_in (by omega) (by omega)
          have w2 : wrap64 (q / 2) = q / 2 := wrap_in (by omega) (by omega)
          go_wp2
          go_round
          case rel =>
            refine ⟨m + 1, by omega, ?_, ?_⟩
            · exact congrArg (Value.int .i64) HH.out
            · refine congrArg (Value.int .i64) ?_
              have h1 := HB.out
              have h2 := HN.out
              omega
          case measure => simp [intOf]; omega
        · have h0 : z / 2 ^ m = 0 := by omega
          have HE : Hid (cnt (bitsOf b z) = cnt (bitsOf m z)) := Lib.hid (by
            have := cnt_rest z m h0 (b - m)
            rwa [show m + (b - m) = b by omega] at this)
          have HK := Lib.hid (show acc + cnt (bitsOf m z) ≤ 2600 by omega)
          rw [h0]
          clear hnn hle hzz hpos h0 hcm hcl
          go_wp2
          go_round
          case rel =>
            refine ⟨k + 1, by omega, by go_num, ?_⟩
            rw [HS.out, cnt_append, ← HA.out, HE.out]
          case measure => simp [intOf]; omega
    · obtain rfl : k = zs.length := by omega
      have HT : Hid (cnt (pulsesOf b (zs.take zs.length)) = cnt (pulsesOf b zs)) := Lib.hid (by rw [List.take_length])
      go_wp2
      go_ret
      exact ⟨rfl, rfl⟩
end Go.Proofs.Ytplipfcnjmgicaa
