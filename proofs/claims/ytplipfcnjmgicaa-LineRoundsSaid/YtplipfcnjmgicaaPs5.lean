/-
  THE CONTRACT OF toWords. No statement is proved here.
-/
import Derived.Test.YtplipfcnjmgicaaPs4
import Derived.Test.YtplipfcnjmgicaaWords
namespace Go.Proofs.Ytplipfcnjmgicaa
open Go.RowKit
set_option linter.unusedVariables false
set_option linter.unusedSimpArgs false

theorem or_shl {v r : Nat} (hr : r ≤ 61) (h : v < 2 ^ r) : bits BinOp.or IntKind.i64 (v : Int) (wrap64 (2 ^ r)) = (v : Int) + 2 ^ r * (bitN true : Int) := by
  have hp : 2 ^ r ≤ 2 ^ 61 := Nat.pow_le_pow_right (by decide) hr
  have e : ((2 : Int) ^ r) = ((2 ^ r : Nat) : Int) := by rw [Int.natCast_pow]; rfl
  have e3 := or_pow h
  rw [e]
  generalize 2 ^ r = p at *
  have e2 : wrap64 (p : Int) = (p : Int) := wrap_in (by omega) (by omega)
  rw [e2, bor64 v p (by omega) (by omega), e3, Int.natCast_add]
  show (v : Int) + p = v + p * ((1 : Nat) : Int)
  omega

def ints (L : List Int) : List Value := L.map (Value.int .i64)
theorem ints_get (L : List Int) (j : Nat) : (ints L)[j]? = L[j]?.map (Value.int .i64) := by simp [ints]
theorem ints_set (L : List Int) (j : Nat) (x : Int) : (ints L).set j (.int .i64 x) = ints (L.set j x) := by simp [ints, List.map_set]
theorem ints_replicate (n : Nat) (x : Int) : ints (List.replicate n x) = List.replicate n (.int .i64 x) := by simp [ints]

/-- What toWords keeps between two rounds. -/
structure TwW (w : World) (a1 : Int) (A : Option Addr) (bs : List Bool) (L : List Int) (U : World) : Prop where
  c1 : U.cell? ⟨w.heap.size, 1, none⟩ = some (.int .i64 a1)
  bools : BoolsAt U w.heap.size A bs
  row : RowIs U (w.heap.size + 1) 3 (ints L)
  below : Below w.heap.size w U

set_option maxRecDepth 100000 in
set_option maxHeartbeats 4000000 in
theorem toWords_any (a1 a2 a3 a4 a5 : Int) (hb : 1 ≤ a1 ∧ a1 ≤ 40) (A : Option Addr) (c W : Nat) (hW : 1 ≤ W ∧ W ≤ 64) (bs : List Bool) (hz : bs.length = W * a1.toNat) (w : World) (hR : BoolsAt w w.heap.size A bs) :
    Calls Try.prog 67 #[.agg #[.int .i64 W, .int .i64 a1, .int .i64 a2, .int .i64 a3, .int .i64 a4, .int .i64 a5], .slice A bs.length c] w (NewInts (wordsOf a1.toNat W bs) w) := by
  obtain ⟨b, rfl⟩ : ∃ b : Nat, a1 = b := ⟨a1.toNat, by omega⟩
  rw [Int.toNat_natCast] at hz ⊢
  have hbig : W * b ≤ 64 * 40 := Nat.mul_le_mul hW.2 (by omega)
  have hbl : bs.length ≤ 2560 := by omega
  have HZ := Lib.hid hz
  clear hz hbig
  go_enter Try.func67, Try.ntmps67
  go_wp2_with (with_reducible refine wp_make sliceInt rfl _ _ rfl w.heap.size W W W rfl rfl rfl rfl ?c2 ?c3 ?_)
  case c2 => omega
  case c3 => simp
  intro X hown hg
  have T0 : TwW w b A bs (wordsOf b W (bs.take 0)) X := by
    have hb2 : Below w.heap.size w X := below_grown0 (by go_grown) hg (by simp)
    refine ⟨hg.cell (by simp [go_sem]) (by simp), hR.below hb2, ?_, hb2⟩
    rw [List.take_zero, wordsOf_nil, ints_replicate]
    have := row_full hown
    simpa [RowIs] using this
  clear hown hg
  go_wp2
  go_loopw [13] (fun i U => ∃ k : Nat, k ≤ bs.length ∧ i = .int .i64 k ∧ TwW w b A bs (wordsOf b W (bs.take k)) U) (fun i _ => bs.length - (intOf i).toNat)
  case atStart => exact ⟨0, by omega, rfl, T0⟩
  case round =>
    clear T0
    obtain ⟨k, hk, rfl, T⟩ := hrel
    by_cases hlt : k < bs.length
    · obtain ⟨ad, rfl, hlb, hc⟩ := T.bools.at_ hlt
      have hzo := HZ.out
      have hkW : k / b < W := (Nat.div_lt_iff_lt_mul (by omega)).2 (by omega)
      have HS := Lib.hid (wordsOf_step (W := W) (by omega : 0 < b) bs k hlt hkW)
      have HF := Lib.hid (wordsOf_same (W := W) (by omega : 0 < b) bs k hlt hkW)
      clear hzo
      cases hx : bs[k] with
      | false => 
        rw [hx] at hc
        have HF' := Lib.hid (HF.out hx)
        clear hx HS HF
        go_wp2
        go_roundw
        case rel => exact ⟨k + 1, by omega, by go_num, by rw [HF'.out]; exact T⟩
        case measure => simp [intOf]; omega
      | true =>
        rw [hx] at hc HS
        clear hx HF
        have c1 := T.c1
        obtain ⟨v, hv⟩ : ∃ v : Nat, v = valOf (wordAt b (bs.take k) (k / b)) := ⟨_, rfl⟩
        have hvl : v < 2 ^ (k % b) := by
          have h1 := valOf_lt (wordAt b (bs.take k) (k / b))
          rw [(wordAt_near (by omega : 0 < b) bs k hlt).2] at h1
          omega
        have hrb : k % b < b := Nat.mod_lt k (by omega : 0 < b)
        have hpw : 2 ^ (k % b) ≤ 2 ^ 40 := Nat.pow_le_pow_right (by decide) (by omega)
        have hcell : wr.cell? ⟨w.heap.size + 1, k / b, none⟩ = some (.int .i64 v) := by
          rw [T.row.cell, ints_get, wordsOf_get _ _ _ _ hkW, hv]; rfl
        have hfr := T.row.frozen (k / b)
        have hm := wrap_ediv k b (by omega)
        have hr := tmod_nat k b
        have hb0 : ¬ b = 0 := by omega
        rw [← hv] at HS
        obtain ⟨q, hq⟩ : ∃ q, q = k / b := ⟨_, rfl⟩
        obtain ⟨r, hr0⟩ : ∃ r, r = k % b := ⟨_, rfl⟩
        rw [← hq] at HS hv hcell hfr hm hkW
        rw [← hr0] at HS hvl hpw hr hrb
        have HV := Lib.hid hv
        have HQ := Lib.hid hq
        have HR := Lib.hid hr0
        have HO := Lib.hid (or_shl (by omega) hvl)
        clear hv hq hr0 hvl hpw
        go_wp2_with fail
        go_still_tail 14, mixed_orders
        clear hm hr
        go_wp2
        go_roundw
        case rel =>
          refine ⟨k + 1, by omega, by go_num, ?_⟩
          rw [HS.out, HO.out]
          refine ⟨?_, T.bools.below ((Below.refl _ _).setCell (Nat.le_succ _) _).drew, ?_, (T.below.setCell (Nat.le_succ _) _).drew⟩
          · exact (cell_apart wr _ (by show w.heap.size + 1 ≠ w.heap.size; omega)).trans T.c1
          · have := (T.row.set q (.int .i64 ((v : Int) + 2 ^ r * bitN true))).drew
            rwa [ints_set] at this
        case measure => simp [intOf]; omega
    · obtain rfl : k = bs.length := by omega
      rw [List.take_length] at T
      have hl : (wordsOf b W bs).length = W := wordsOf_length _ _ _
      have HL := Lib.hid hl
      have hrow := T.row
      have T' := T.below
      clear T hl
      go_wp2
      go_ret
      exact ⟨_, _, by rw [HL.out]; rfl, Nat.le_of_eq HL.out, (fun ad e => by cases e; exact Nat.le_succ _), ListAt.row hrow, T'⟩
end Go.Proofs.Ytplipfcnjmgicaa
