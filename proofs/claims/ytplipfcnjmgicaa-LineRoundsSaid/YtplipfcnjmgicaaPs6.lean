/-
  THE CONTRACT OF the reference's Pulses. No statement is proved here.
-/
import Derived.Test.YtplipfcnjmgicaaPs5
namespace Go.Proofs.Ytplipfcnjmgicaa
open Go.RowKit
set_option linter.unusedVariables false
set_option linter.unusedSimpArgs false

/-- Pulses as 0 and 1. -/
def bi (bs : List Bool) : List Int := bs.map fun x => (bitN x : Int)
theorem bi_append (a b : List Bool) : bi (a ++ b) = bi a ++ bi b := by simp [bi]
theorem bi_length (a : List Bool) : (bi a).length = a.length := by simp [bi]
theorem bi_one (z : Int) (m : Nat) : bi [decide (z / 2 ^ m % 2 = 1)] = [z / 2 ^ m % 2] := by
  have h := Int.emod_two_eq (z / 2 ^ m)
  rcases h with h | h <;> rw [h] <;> rfl

/-- What Pulses keeps between two rounds. -/
structure PuW (w : World) (A : Option Addr) (zs : List Int) (bs : List Bool) (v : Value) (U : World) : Prop where
  read : IntsAt U w.heap.size A zs
  own : U.ownsRow w.heap.size 3 1 v bs.length (ints (bi bs))
  below : Below w.heap.size w U

theorem half (z : Int) (m : Nat) : z / 2 ^ m / 2 = z / 2 ^ (m + 1) := by
  rw [Int.pow_succ, Int.ediv_ediv_of_nonneg]
  exact Int.le_of_lt (Int.pow_pos (by decide))

set_option maxRecDepth 100000 in
set_option maxHeartbeats 4000000 in
theorem rPulses_any (b : Nat) (hb : 1 ≤ b ∧ b ≤ 40) (A : Option Addr) (c : Nat) (zs : List Int) (hz : zs.length ≤ 64) (hw : ∀ z ∈ zs, 0 ≤ z ∧ z < 9223372036854775808) (w : World) (hR : IntsAt w w.heap.size A zs) :
    Calls Try.prog 51 #[.slice A zs.length c, .int .i64 b] w (NewInts (bi (pulsesOf b zs)) w) := by
  have HW := Lib.hid hw
  clear hw
  go_enter Try.func51, Try.ntmps51
  go_wp2
  have T0 : PuW w A zs [] (.slice none 0 0) w := ⟨hR, World.ownsRow_nil _ _ _ _, Below.refl _ _⟩
  go_loopw [5, 6] (fun v i U => ∃ k : Nat, k ≤ zs.length ∧ i = .int .i64 k ∧ PuW w A zs (pulsesOf b (zs.take k)) v U) (fun _ i _ => zs.length - (intOf i).toNat)
  case atStart => exact ⟨0, by omega, rfl, T0⟩
  case round =>
    clear T0
    obtain ⟨k, hk, rfl, T⟩ := hrel
    by_cases hlt : k < zs.length
    · have HS := Lib.hid (pulsesOf_snoc b zs k hlt)
      obtain ⟨ad, rfl, hlb, hc⟩ := T.read.at_ hlt
      obtain ⟨z, hz0⟩ : ∃ z, z = zs[k] := ⟨_, rfl⟩
      have hzw := HW.out zs[k] (List.getElem_mem _)
      rw [← hz0] at HS hc hzw
      have HZ := Lib.hid hzw
      clear hz0 hzw
      go_wp2
      obtain ⟨wo, rfl⟩ : ∃ wo : World, wo = wr := ⟨_, rfl⟩
      clear hc
      go_loopw [5, 7, 8] (fun v x j U => ∃ m : Nat, m ≤ b ∧ j = .int .i64 m ∧ x = .int .i64 (z / 2 ^ m) ∧ PuW w (some ad) zs (pulsesOf b (zs.take k) ++ bitsOf m z) v U) (fun _ _ j _ => b - (intOf j).toNat)
      case atStart => exact ⟨0, by omega, rfl, by simp, by simpa [bitsOf] using T⟩
      case round =>
        clear T
        obtain ⟨m, hm, rfl, rfl, T⟩ := hrel
        by_cases hlm : m < b
        · have HB := Lib.hid (bitsOf_succ m z)
          have HH := Lib.hid (half z m)
          have HO := Lib.hid (bi_one z m)
          have hpos : 0 ≤ z / 2 ^ m ∧ z / 2 ^ m < 9223372036854775808 := by
            have h0 := HZ.out
            have h2 : 0 ≤ z / 2 ^ m := Int.ediv_nonneg h0.1 (Int.le_of_lt (Int.pow_pos (by decide)))
            have h3 : z / 2 ^ m ≤ z := Int.ediv_le_self _ h0.1
            omega
          have hl : (pulsesOf b (zs.take k) ++ bitsOf m z).length + 1 ≤ 1000000 := by
            have h1 : (zs.take k).length * b ≤ 64 * 40 := Nat.mul_le_mul (by simp; omega) (by omega)
            rw [List.length_append, pulsesOf_length, bitsOf_length]; omega
          obtain ⟨y, hy⟩ : ∃ y, y = z / 2 ^ m := ⟨_, rfl⟩
          rw [← hy] at HH HO HB hpos ⊢
          clear hy
          have hsz := T.below.size
          go_wp2_with (with_reducible refine wp_push sliceInt rfl (.tmp 24) (.tmp 27) rfl w.heap.size _ _ _ (T.own.alloc _) wr.heap.size (.int .i64 (y % 2)) rfl rfl ?c4 rfl hl ?c5 ?_)
          case c4 => simp [go_sem]
          case c5 => simp; omega
          intro v' U' hown hg
          have T1 : PuW w (some ad) zs (pulsesOf b (zs.take k) ++ bitsOf (m + 1) z) v' U' := by
            have hb1 : Below w.heap.size w (wr.alloc (.cells #[.int .i64 (y % 2)] 3)) := T.below.alloc hsz _
            have hb2 := below_grown hb1 hg (by simp; omega) (T.own.alloc _) (Nat.le_refl _)
            refine ⟨hR.below hb2, ?_, hb2⟩
            rw [HB.out, ← List.append_assoc, bi_append, HO.out]
            simpa [ints, Nat.add_assoc] using hown
          clear T hown hg hl hsz
          go_wp2
          go_roundw
          case rel => exact ⟨m + 1, by omega, by go_num, by rw [← HH.out], T1⟩
          case measure => simp [intOf]; omega
        · obtain rfl : m = b := by omega
          rw [← HS.out] at T
          go_wp2
          go_roundw
          case rel => exact ⟨k + 1, by omega, by go_num, T⟩
          case measure => simp [intOf]; omega
    · obtain rfl : k = zs.length := by omega
      rw [List.take_length] at T
      obtain ⟨A', c', rfl, hlen, hcap, hnew, hB⟩ := ListAt.own T.own
      have HL := Lib.hid (bi_length (pulsesOf b zs))
      clear hlen
      have T' := T.below
      clear T
      go_wp2
      go_ret
      exact ⟨A', c', by rw [HL.out]; rfl, by rw [HL.out]; exact hcap, hnew, hB, T'⟩
end Go.Proofs.Ytplipfcnjmgicaa
