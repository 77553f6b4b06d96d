/-
  THE CONTRACT OF toPulses. No statement is proved here.
-/
import Derived.Test.YtplipfcnjmgicaaPs2
namespace Go.Proofs.Ytplipfcnjmgicaa
open Go.RowKit
set_option linter.unusedVariables false
set_option linter.unusedSimpArgs false

theorem sliceBool : SliceT Try.prog 88 4 (.bool false) 1 := ⟨by kernel_rfl, by kernel_rfl, rfl, by decide⟩
theorem sliceInt : SliceT Try.prog 35 3 (.int .i64 0) 8 := ⟨by kernel_rfl, by kernel_rfl, rfl, by decide⟩

/-- The first b bits of a word. -/
def bitsOf (b : Nat) (z : Int) : List Bool := (List.range b).map fun j => decide (z / 2 ^ j % 2 = 1)
/-- The pulses of words. -/
def pulsesOf (b : Nat) (zs : List Int) : List Bool := zs.flatMap (bitsOf b)
theorem bitsOf_length (b : Nat) (z : Int) : (bitsOf b z).length = b := by simp [bitsOf]
theorem bitsOf_succ (j : Nat) (z : Int) : bitsOf (j + 1) z = bitsOf j z ++ [decide (z / 2 ^ j % 2 = 1)] := by simp [bitsOf, List.range_succ]
theorem pulsesOf_length (b : Nat) : ∀ zs : List Int, (pulsesOf b zs).length = zs.length * b
  | [] => by simp [pulsesOf]
  | z :: zs => by
    have := pulsesOf_length b zs
    simp only [pulsesOf, List.flatMap_cons, List.length_append, bitsOf_length, List.length_cons] at this ⊢
    rw [this, Nat.add_mul]; omega
theorem pulsesOf_snoc (b : Nat) (zs : List Int) (k : Nat) (h : k < zs.length) : pulsesOf b (zs.take (k + 1)) = pulsesOf b (zs.take k) ++ bitsOf b zs[k] := by
  unfold pulsesOf; rw [List.take_succ_eq_append_getElem h, List.flatMap_append]; simp only [List.flatMap_cons, List.flatMap_nil, List.append_nil]

/-- A slice of bools that is new. -/
def NewBools (bs : List Bool) (w : World) (e : Ending) (w' : World) : Prop :=
  ∃ A c, e = .returned (.slice A bs.length c) ∧ bs.length ≤ c ∧ (∀ ad, A = some ad → w.heap.size ≤ ad.block) ∧ BoolsAt w' w'.heap.size A bs ∧ Below w.heap.size w w'
def NewInts (zs : List Int) (w : World) (e : Ending) (w' : World) : Prop :=
  ∃ A c, e = .returned (.slice A zs.length c) ∧ zs.length ≤ c ∧ (∀ ad, A = some ad → w.heap.size ≤ ad.block) ∧ IntsAt w' w'.heap.size A zs ∧ Below w.heap.size w w'

/-- What toPulses keeps between two rounds. -/
structure TpW (w : World) (a1 : Int) (A : Option Addr) (zs : List Int) (bs : List Bool) (v : Value) (U : World) : Prop where
  c1 : U.cell? ⟨w.heap.size, 1, none⟩ = some (.int .i64 a1)
  ints : IntsAt U w.heap.size A zs
  own : U.ownsRow (w.heap.size + 1) 4 1 v bs.length (bs.map Value.bool)
  below : Below w.heap.size w U
  size : w.heap.size + 1 ≤ U.heap.size

set_option maxRecDepth 100000 in
set_option maxHeartbeats 2000000 in
theorem toPulses_any (a1 a2 a3 a4 a5 : Int) (hb : 1 ≤ a1 ∧ a1 ≤ 40) (A : Option Addr) (c : Nat) (zs : List Int) (hz : 1 ≤ zs.length ∧ zs.length ≤ 64) (hw : ∀ z ∈ zs, 0 ≤ z ∧ z < 9223372036854775808) (w : World) (hR : IntsAt w w.heap.size A zs) :
    Calls Try.prog 64 #[.agg #[.int .i64 zs.length, .int .i64 a1, .int .i64 a2, .int .i64 a3, .int .i64 a4, .int .i64 a5], .slice A zs.length c] w (NewBools (pulsesOf a1.toNat zs) w) := by
  have HW := Lib.hid hw
  clear hw
  have hm := mul_bound (a := zs.length) (b := a1) ⟨⟨by omega, by omega⟩, hb⟩
  go_enter Try.func64, Try.ntmps64
  go_wp2_with fail
  refine (beats_any zs.length a1 a2 a3 a4 a5 ⟨⟨by omega, by omega⟩, hb⟩ _).mono ?_; rintro e w' ⟨rfl, rfl⟩
  go_wp2_with (with_reducible refine wp_make0 sliceBool rfl _ _ rfl (w.heap.size + 1) (zs.length * a1.toNat) (zs.length * a1) rfl rfl ?c1 ?c2 ?c3 ?_)
  case c1 => rw [Int.natCast_mul]; congr 1; omega
  case c2 =>
    have h1 : zs.length * a1.toNat ≤ 64 * 40 := Nat.mul_le_mul (by omega) (by omega)
    omega
  case c3 => simp
  intro W hown hg
  have T0 : TpW w a1 A zs [] (.slice (some ⟨w.heap.size + 1 + 1, 0, none⟩) 0 (zs.length * a1.toNat)) W := by
    have hsz := hg.size
    simp only [World.size_alloc] at hsz
    refine ⟨?_, ?_, ?_, ?_, by omega⟩
    · exact hg.cell (by simp [go_sem]) (by simp)
    · exact (hR.below (by go_grown)).below (below_grown0 (Below.refl _ _) hg (by simp; omega))
    · simpa using hown
    · exact below_grown0 (by go_grown) hg (by simp; omega)
  clear hown hg hm
  go_wp2
  go_loopw [5, 14] (fun v i U => ∃ k : Nat, k ≤ zs.length ∧ i = .int .i64 k ∧ TpW w a1 A zs (pulsesOf a1.toNat (zs.take k)) v U) (fun _ i _ => zs.length - (intOf i).toNat)
  case atStart => exact ⟨0, by omega, rfl, T0⟩
  case round =>
    clear T0
    obtain ⟨k, hk, rfl, T⟩ := hrel
    by_cases hlt : k < zs.length
    · have HS := Lib.hid (pulsesOf_snoc a1.toNat zs k hlt)
      obtain ⟨ad, rfl, hlb, hc⟩ := T.ints.at_ hlt
      have c1 := T.c1
      obtain ⟨z, hz0⟩ : ∃ z, z = zs[k] := ⟨_, rfl⟩
      have hzw := HW.out zs[k] (List.getElem_mem _)
      rw [← hz0] at HS hc hzw
      have HZ := Lib.hid hzw
      clear hz0 hzw
      go_wp2
      obtain ⟨wo, rfl⟩ : ∃ wo : World, wo = wr := ⟨_, rfl⟩
      clear hc c1
      go_loopw [5, 20] (fun v j U => ∃ m : Nat, m ≤ a1.toNat ∧ j = .int .i64 m ∧ TpW w a1 (some ad) zs (pulsesOf a1.toNat (zs.take k) ++ bitsOf m z) v U) (fun _ j _ => a1.toNat - (intOf j).toNat)
      case atStart => exact ⟨0, by omega, rfl, by simpa [bitsOf] using T⟩
      case round =>
        clear T
        obtain ⟨m, hm, rfl, T⟩ := hrel
        by_cases hlm : m < a1.toNat
        · have HB := Lib.hid (bitsOf_succ m z)
          have hm1 : (m : Int) < a1 := by omega
          have HV : Hid ((bits BinOp.and IntKind.i64 (z / 2 ^ m) 1 == 1) = decide (z / 2 ^ m % 2 = 1)) := by
            have h0 := HZ.out
            have h2 : 0 ≤ z / 2 ^ m := Int.ediv_nonneg h0.1 (Int.le_of_lt (Int.pow_pos (by decide)))
            have h3 : z / 2 ^ m ≤ z := Int.ediv_le_self _ h0.1
            refine Lib.hid ?_
            rw [band_one h2 (by omega)]
            rfl
          have hl : (pulsesOf a1.toNat (zs.take k) ++ bitsOf m z).length + 1 ≤ 1000000 := by
            have h1 : (zs.take k).length * a1.toNat ≤ 64 * 40 := Nat.mul_le_mul (by simp; omega) (by omega)
            rw [List.length_append, pulsesOf_length, bitsOf_length]; omega
          have hsz := T.size
          go_wp2_with (with_reducible refine wp_push sliceBool rfl (.tmp 23) (.tmp 29) rfl (w.heap.size + 1) _ _ _ (T.own.alloc _) wr.heap.size (.bool (bits BinOp.and IntKind.i64 (z / 2 ^ m) 1 == 1)) rfl rfl ?c4 rfl hl ?c5 ?_)
          case c4 => simp [go_sem]
          case c5 => simp; omega
          intro v' U' hown hg
          have T1 : TpW w a1 (some ad) zs (pulsesOf a1.toNat (zs.take k) ++ bitsOf (m + 1) z) v' U' := by
            have hb1 : Below w.heap.size w (wr.alloc (.cells #[.bool (bits BinOp.and IntKind.i64 (z / 2 ^ m) 1 == 1)] 4)) := T.below.alloc (by omega) _
            have hb2 := below_grown hb1 hg (by simp; omega) (T.own.alloc _) (Nat.le_succ _)
            have hgs := hg.size
            simp only [World.size_alloc] at hgs
            refine ⟨?_, ?_, ?_, hb2, by omega⟩
            · refine hg.cell ?_ (fun e => ?_)
              · exact (World.cell?_alloc_lt _ _ _ (by show w.heap.size < _; omega)).trans T.c1
              · have := (T.own.lt _ e.symm).1
                simp at this
                omega
            · exact hR.below hb2
            · rw [HB.out, ← List.append_assoc, List.map_append, List.length_append]
              rw [HV.out] at hown
              simpa [Nat.add_assoc] using hown
          clear T hown hg hl hsz
          go_wp2
          go_roundw
          case rel => exact ⟨m + 1, by omega, by go_num, T1⟩
          case measure => simp [intOf]; omega
        · obtain rfl : m = a1.toNat := by omega
          have hm1 : ¬ ((a1.toNat : Int) < a1) := by omega
          rw [← HS.out] at T
          go_wp2
          go_roundw
          case rel => exact ⟨k + 1, by omega, by go_num, T⟩
          case measure => simp [intOf]; omega
    · obtain rfl : k = zs.length := by omega
      rw [List.take_length] at T
      obtain ⟨A', c', rfl, hlen, hcap, hnew, hB⟩ := ListAt.own T.own
      have HL := Lib.hid hlen
      clear hlen
      have T' := T.below
      clear T
      go_wp2
      go_ret
      exact ⟨A', c', rfl, hcap, fun ad e => Nat.le_of_succ_le (hnew ad e), hB, T'⟩
end Go.Proofs.Ytplipfcnjmgicaa
