/-
  THE CONTRACT OF the reference's Joined. No statement is proved here.
-/
import Derived.Test.YtplipfcnjmgicaaPs7
namespace Go.Proofs.Ytplipfcnjmgicaa
open Go.RowKit
set_option linter.unusedVariables false
set_option linter.unusedSimpArgs false

structure JoW (w : World) (A : Option Addr) (xs L : List Int) (U : World) : Prop where
  read : IntsAt U w.heap.size A xs
  row : RowIs U w.heap.size 3 (ints L)
  below : Below w.heap.size w U

set_option maxRecDepth 100000 in
set_option maxHeartbeats 4000000 in
theorem rJoined_any (b W : Nat) (hb : 1 ≤ b ∧ b ≤ 40) (hW : W ≤ 64) (A : Option Addr) (c : Nat) (bs : List Bool) (hz : bs.length = W * b) (w : World) (hR : IntsAt w w.heap.size A (bi bs)) :
    Calls Try.prog 49 #[.slice A bs.length c, .int .i64 b] w (NewInts (wordsOf b W bs) w) := by
  have hbig : W * b ≤ 64 * 40 := Nat.mul_le_mul hW hb.2
  have hdv : bs.length / b = W := by rw [hz]; exact Nat.mul_div_cancel _ (by omega)
  have hbl : bs.length ≤ 2560 := by omega
  have HZ := Lib.hid hz
  have hW0 := wrap_ediv bs.length b (by omega)
  rw [hdv] at hW0
  have hW1 : (bs.length : Int) / (b : Int) = (W : Int) := by rw [← Int.natCast_ediv, hdv]
  have hb0 : ¬ b = 0 := by omega
  clear hz hbig hdv
  go_enter Try.func49, Try.ntmps49
  go_wp2_with (with_reducible refine wp_make sliceInt rfl _ _ rfl w.heap.size W W W rfl rfl rfl rfl ?c2 ?c3 ?_)
  case c2 => omega
  case c3 => simp
  intro X hown hg
  have T0 : JoW w A (bi bs) (wordsFrom b W bs bs.length) X := by
    have hb2 : Below w.heap.size w X := below_grown0 (Below.refl _ _) hg (Nat.le_refl _)
    refine ⟨hR.below hb2, ?_, hb2⟩
    rw [wordsFrom_end _ _ _ _ (Nat.le_refl _), ints_replicate]
    exact row_full hown
  clear hown hg hW0 hW1
  go_wp2
  go_loopw [6] (fun i U => ∃ m : Nat, m ≤ bs.length ∧ i = .int .i64 ((m : Int) - 1) ∧ JoW w A (bi bs) (wordsFrom b W bs m) U) (fun i _ => (intOf i + 1).toNat)
  case atStart => exact ⟨bs.length, by omega, rfl, T0⟩
  case round =>
    clear T0
    obtain ⟨m, hm, rfl, T⟩ := hrel
    rcases m with _ | k
    · have hrow := T.row
      have T' := T.below
      rw [wordsFrom_zero] at hrow
      have HL := Lib.hid (wordsOf_length b W bs)
      clear T
      go_wp2
      go_ret
      exact ⟨_, _, by rw [HL.out]; rfl, Nat.le_of_eq HL.out, (fun ad e => by cases e; exact Nat.le_refl _), ListAt.row hrow, T'⟩
    · have e : ((k + 1 : Nat) : Int) - 1 = k := by omega
      rw [e]
      clear e
      have hlt : k < bs.length := by omega
      have hlx : k < (bi bs).length := by rw [bi_length]; exact hlt
      obtain ⟨ad, rfl, hlb, hc⟩ := T.read.at_ hlx
      have hzo := HZ.out
      have hkW : k / b < W := (Nat.div_lt_iff_lt_mul (by omega)).2 (by omega)
      have HS := wordsFrom_step (W := W) (by omega : 0 < b) bs k hlt hkW
      obtain ⟨x, hx⟩ : ∃ x, x = bitN bs[k] := ⟨_, rfl⟩
      have hx1 : x ≤ 1 := by rw [hx]; cases bs[k] <;> simp [bitN]
      have hbx : (bi bs)[k] = (x : Int) := by rw [hx]; simp [bi]
      rw [hbx] at hc
      rw [← hx] at HS
      obtain ⟨v, hv⟩ : ∃ v : Nat, v = valOf (wordFrom b bs (k + 1) (k / b)) := ⟨_, rfl⟩
      have hvl : v < 1099511627776 := by
        have h1 := valOf_lt (wordFrom b bs (k + 1) (k / b))
        have h2 : 2 ^ (wordFrom b bs (k + 1) (k / b)).length ≤ 2 ^ 40 := Nat.pow_le_pow_right (by decide) (by have := wordFrom_length b bs (k + 1) (k / b); omega)
        omega
      have hcell : wr.cell? ⟨w.heap.size, k / b, none⟩ = some (.int .i64 v) := by
        rw [T.row.cell, ints_get, wordsFrom_get _ _ _ _ _ hkW, hv]; rfl
      have hfr := T.row.frozen (k / b)
      have hm := wrap_ediv k b (by omega)
      rw [← hv] at HS
      obtain ⟨q, hq⟩ : ∃ q, q = k / b := ⟨_, rfl⟩
      rw [← hq] at HS hcell hfr hm hkW
      have e1 : IntKind.i64.wrap (2 * (v : Int)) = ((2 * v : Nat) : Int) := by rw [IntKind.wrap_i64]; omega
      obtain ⟨d, hd⟩ : ∃ d, d = 2 * v := ⟨_, rfl⟩
      rw [← hd] at e1
      have e2 : IntKind.i64.wrap ((d : Int) + (x : Int)) = ((d + x : Nat) : Int) := by rw [IntKind.wrap_i64]; omega
      have HS' : Hid (wordsFrom b W bs k = (wordsFrom b W bs (k + 1)).set q ((d + x : Nat) : Int)) := Lib.hid (by rw [HS, hd]; simp)
      obtain ⟨t, ht⟩ : ∃ t, t = d + x := ⟨_, rfl⟩
      rw [← ht] at e2 HS'
      clear HS hv hq hd ht hx hbx hvl hx1 hzo hlx
      go_wp2_with fail
      go_still_tail 17, mixed_orders
      clear e1 e2 hm
      go_wp2
      go_roundw
      case rel =>
        refine ⟨k, by omega, rfl, ?_⟩
        rw [HS'.out]
        refine ⟨T.read.below ((Below.refl w.heap.size wr).setCell (p := ⟨w.heap.size, q, none⟩) (Nat.le_refl _) _).drew, ?_, (T.below.setCell (p := ⟨w.heap.size, q, none⟩) (Nat.le_refl _) _).drew⟩
        have := (T.row.set q (.int .i64 t)).drew
        rwa [ints_set] at this
      case measure => simp [intOf]
end Go.Proofs.Ytplipfcnjmgicaa
