/-
  CONTRACT OF Check of kinds, of the program. No statement is proved here.
-/
import Derived.Test.YtgbignkkieoffaaMg3
namespace Go.Proofs.Ytgbignkkieoffaa
open Go.RowKit Mg
set_option linter.unusedVariables false
set_option linter.unusedSimpArgs false

theorem below_low {n m : Nat} (h : n ≤ m) {w v : World} (hb : Below m w v) : Below n w v := ⟨hb.os, hb.tape, hb.output, hb.size, fun k hk => hb.block k (by omega)⟩
/-- What stands in a kind's box. -/
structure KdW (w : World) (k : Kd) (A : Option Addr) (c : Nat) (U : World) : Prop where
  below : Below w.heap.size w U
  c0 : U.cell? ⟨w.heap.size, 0, none⟩ = some (.int .i64 k.new)
  c1 : U.cell? ⟨w.heap.size, 1, none⟩ = some (.int .i64 k.lo)
  c2 : U.cell? ⟨w.heap.size, 2, none⟩ = some (.int .i64 k.hi)
  c3 : U.cell? ⟨w.heap.size, 3, none⟩ = some (.slice A k.st.length c)
  size : w.heap.size < U.heap.size
theorem KdW.after {w U V : World} {k : Kd} {A : Option Addr} {c : Nat} (h : KdW w k A c U) (hb : Below U.heap.size U V) : KdW w k A c V :=
  have hs := h.size
  have e : ∀ j, V.cell? ⟨w.heap.size, j, none⟩ = U.cell? ⟨w.heap.size, j, none⟩ := fun j => hb.cell (p := ⟨w.heap.size, j, none⟩) hs
  ⟨h.below.trans (below_low (Nat.le_of_lt hs) hb), (e 0).trans h.c0, (e 1).trans h.c1, (e 2).trans h.c2, (e 3).trans h.c3, Nat.lt_of_lt_of_le hs hb.size⟩
theorem kdW_new (w : World) (k : Kd) (A : Option Addr) (c : Nat) (T : TypeId) : KdW w k A c (w.alloc (.cells #[.int .i64 k.new, .int .i64 k.lo, .int .i64 k.hi, .slice A k.st.length c] T)) :=
  ⟨by go_grown, by simp [go_sem], by simp [go_sem], by simp [go_sem], by simp [go_sem], by simp⟩
theorem KdW.steps {w U : World} {k : Kd} {A : Option Addr} {c : Nat} (h : KdW w k A c U) (hp : PairsAt w w.heap.size A k.st) : PairsAt U U.heap.size A k.st := (hp.below h.below).more h.below.size

def RetInt (w : World) (n : Int) (e : Ending) (w' : World) : Prop := e = .returned (.int .i64 n) ∧ Below w.heap.size w w'
set_option maxHeartbeats 4000000 in
theorem check_long (k : Kd) (A : Option Addr) (c : Nat) (hn : 1 ≤ k.new ∧ k.new ≤ 1000000) (hw : spanErr 1000 k.lo k.hi = 0) (hl : k.st.length ≤ maxLen) (hx : ¬ (1 ≤ k.st.length ∧ k.st.length ≤ 8)) (w : World) : Calls Try.prog 10 #[kdV k A c] w (RetInt w 3) := by
  have N := Lib.hid (show numErr 1 1000000 [k.new] = 0 by rw [numErr_1, if_pos (inS_iff.2 hn)])
  have HW := Lib.hid hw
  unfold maxLen at hl
  have P0 := kdW_new w k A c 26
  clear hn hw
  by_cases h0 : k.st.length < 1
  · have q : ((k.st.length : Int) < 1) := by omega
    go_enter Try.func10, Try.ntmps10
    go_wp2_with fail
    refine (numbers_1 1 1000000 k.new _ _ (by simp [go_sem])).mono ?_; rintro e w1 ⟨rfl, rfl⟩
    rw [N.out]
    go_wp2_with fail
    refine (span_any 1000 k.lo k.hi _).mono ?_; rintro e w2 ⟨rfl, hb⟩
    rw [HW.out]
    have P1 := (P0.after ((Below.refl _ _).alloc (Nat.le_refl _) _)).after hb
    have HB := Lib.hid P1.below
    obtain ⟨_, c0, c1, c2, c3, hs⟩ := P1
    clear P0 hb
    go_wp2
    go_ret
    exact ⟨rfl, HB.out⟩
  · have q : ¬ ((k.st.length : Int) < 1) := by omega
    have q2 : (8 : Int) < k.st.length := by omega
    go_enter Try.func10, Try.ntmps10
    go_wp2_with fail
    refine (numbers_1 1 1000000 k.new _ _ (by simp [go_sem])).mono ?_; rintro e w1 ⟨rfl, rfl⟩
    rw [N.out]
    go_wp2_with fail
    refine (span_any 1000 k.lo k.hi _).mono ?_; rintro e w2 ⟨rfl, hb⟩
    rw [HW.out]
    have P1 := (P0.after ((Below.refl _ _).alloc (Nat.le_refl _) _)).after hb
    have HB := Lib.hid P1.below
    obtain ⟨_, c0, c1, c2, c3, hs⟩ := P1
    clear P0 hb
    go_wp2
    go_ret
    exact ⟨rfl, HB.out⟩
set_option maxHeartbeats 4000000 in
theorem check_new (k : Kd) (A : Option Addr) (c : Nat) (hn : ¬ (1 ≤ k.new ∧ k.new ≤ 1000000)) (w : World) : Calls Try.prog 10 #[kdV k A c] w (RetInt w 7) := by
  have N := Lib.hid (show numErr 1 1000000 [k.new] = 7 by rw [numErr_1, if_neg (by rw [inS_iff]; exact hn)])
  clear hn
  go_enter Try.func10, Try.ntmps10
  go_wp2_with fail
  refine (numbers_1 1 1000000 k.new _ _ (by simp [go_sem])).mono ?_; rintro e w1 ⟨rfl, rfl⟩
  rw [N.out]
  go_wp2
  go_ret
  exact ⟨rfl, by go_grown⟩
set_option maxHeartbeats 4000000 in
theorem check_wear (k : Kd) (A : Option Addr) (c : Nat) (hn : 1 ≤ k.new ∧ k.new ≤ 1000000) (hw : spanErr 1000 k.lo k.hi ≠ 0) (w : World) : Calls Try.prog 10 #[kdV k A c] w (RetInt w (spanErr 1000 k.lo k.hi)) := by
  have N := Lib.hid (show numErr 1 1000000 [k.new] = 0 by rw [numErr_1, if_pos (inS_iff.2 hn)])
  have q : (spanErr 1000 k.lo k.hi != 0) = true := by simpa using hw
  have P0 := kdW_new w k A c 26
  clear hn hw
  go_enter Try.func10, Try.ntmps10
  go_wp2_with fail
  refine (numbers_1 1 1000000 k.new _ _ (by simp [go_sem])).mono ?_; rintro e w1 ⟨rfl, rfl⟩
  rw [N.out]
  go_wp2_with fail
  refine (span_any 1000 k.lo k.hi _).mono ?_; rintro e w2 ⟨rfl, hb⟩
  have P1 := (P0.after ((Below.refl _ _).alloc (Nat.le_refl _) _)).after hb
  have HB := Lib.hid P1.below
  obtain ⟨_, c0, c1, c2, c3, hs⟩ := P1
  clear P0 hb
  generalize spanErr 1000 k.lo k.hi = r at *
  go_wp2
  go_ret
  exact ⟨rfl, HB.out⟩
set_option maxHeartbeats 8000000 in
theorem check_steps (k : Kd) (A : Option Addr) (c : Nat) (hn : 1 ≤ k.new ∧ k.new ≤ 1000000) (hw : spanErr 1000 k.lo k.hi = 0) (hx : 1 ≤ k.st.length ∧ k.st.length ≤ 8) (w : World) (hp : PairsAt w w.heap.size A k.st) :
    Calls Try.prog 10 #[kdV k A c] w (RetInt w (fe (stepErr k.st) k.st.length 0)) := by
  have N := Lib.hid (show numErr 1 1000000 [k.new] = 0 by rw [numErr_1, if_pos (inS_iff.2 hn)])
  have HW := Lib.hid hw
  have P0 := kdW_new w k A c 26
  have q : ¬ ((k.st.length : Int) < 1) := by omega
  have q2 : ¬ ((8 : Int) < k.st.length) := by omega
  have hm : k.st.length ≤ maxLen := by unfold maxLen; omega
  have HP := Lib.hid hp
  clear hn hw hp
  go_enter Try.func10, Try.ntmps10
  go_wp2_with fail
  refine (numbers_1 1 1000000 k.new _ _ (by simp [go_sem])).mono ?_; rintro e w1 ⟨rfl, rfl⟩
  rw [N.out]
  go_wp2_with fail
  refine (span_any 1000 k.lo k.hi _).mono ?_; rintro e w2 ⟨rfl, hb⟩
  rw [HW.out]
  have P1 := (P0.after ((Below.refl _ _).alloc (Nat.le_refl _) _)).after hb
  have HQ := Lib.hid P1
  obtain ⟨_, c0, c1, c2, c3, hs⟩ := P1
  clear P0 hb
  go_wp2
  clear c0 c1 c2 c3 hs
  go_loopw [33] (fun i wr => ∃ j : Nat, j ≤ k.st.length ∧ i = .int .i64 j ∧ Hid (∀ m, m < j → stepErr k.st m = 0) ∧ KdW w k A c wr) (fun i _ => k.st.length - (intOf i).toNat)
  case atStart => exact ⟨0, by omega, rfl, Lib.hid (fun m hm => by omega), HQ.out⟩
  case round =>
    obtain ⟨j, hj, rfl, HZ, P⟩ := hrel
    by_cases hlt : j < k.st.length
    · have K := fun U (hU : PairsAt U U.heap.size A k.st) => step_any A c k.st hm j hlt U hU
      have HS := Lib.hid (P.steps HP.out)
      have HQ2 := Lib.hid P
      obtain ⟨_, c0, c1, c2, c3, hs⟩ := P
      have HF := Lib.hid (fun h => fe_at (f := stepErr k.st) hlt HZ.out h)
      by_cases hz : stepErr k.st j = 0
      · have HN : Hid (∀ m, m < j + 1 → stepErr k.st m = 0) := Lib.hid (fun m hm => by
          by_cases h : m < j
          · exact HZ.out m h
          · obtain rfl : m = j := by omega
            exact hz)
        rw [hz] at K
        have K' := Lib.hid K
        clear K hz HF
        go_wp2_with fail
        refine (K'.out _ HS.out).mono ?_; rintro e w3 ⟨rfl, hb3⟩
        have HR := Lib.hid (HQ2.out.after hb3)
        clear c0 c1 c2 c3 hs hb3
        go_wp2
        go_roundw
        case rel => exact ⟨j + 1, by omega, by go_num, HN, HR.out⟩
        case measure => simp [intOf]; omega
      · have HV := Lib.hid (HF.out hz)
        have qz : (stepErr k.st j != 0) = true := by simpa using hz
        have K' := Lib.hid K
        clear K hz HF
        generalize stepErr k.st j = r at *
        go_wp2_with fail
        refine (K'.out _ HS.out).mono ?_; rintro e w3 ⟨rfl, hb3⟩
        have HR := Lib.hid (HQ2.out.after hb3).below
        clear c0 c1 c2 c3 hs hb3
        go_wp2
        go_ret
        exact ⟨by rw [HV.out]; rfl, HR.out⟩
    · obtain rfl : j = k.st.length := by omega
      have HV := Lib.hid (fe_none (f := stepErr k.st) HZ.out)
      have HB := Lib.hid P.below
      clear P
      go_wp2
      go_ret
      exact ⟨by rw [HV.out]; rfl, HB.out⟩
theorem Kd.err_new {k : Kd} (h : ¬ (1 ≤ k.new ∧ k.new ≤ 1000000)) : k.err = 7 := by
  unfold Kd.err
  rw [if_neg]
  simp only [Bool.and_eq_true, inS_iff]
  exact fun g => h g.1
theorem Kd.err_wear {k : Kd} (h : 1 ≤ k.new ∧ k.new ≤ 1000000) (h2 : spanErr 1000 k.lo k.hi ≠ 0) : k.err = spanErr 1000 k.lo k.hi := by
  unfold Kd.err
  unfold spanErr at h2 ⊢
  rw [inS_iff.2 h, Bool.true_and]
  split
  · rename_i h3
    rw [if_pos h3] at h2
    split
    · rename_i h4
      rw [if_pos h4] at h2
      exact absurd rfl h2
    · rfl
  · rfl
theorem Kd.err_rest {k : Kd} (h : 1 ≤ k.new ∧ k.new ≤ 1000000) (h2 : spanErr 1000 k.lo k.hi = 0) : k.err = if 1 ≤ k.st.length ∧ k.st.length ≤ 8 then fe (stepErr k.st) k.st.length 0 else 3 := by
  unfold Kd.err
  unfold spanErr at h2
  rw [inS_iff.2 h, Bool.true_and]
  split
  · rename_i h3
    rw [if_pos h3] at h2
    split
    · rfl
    · rename_i h4
      rw [if_neg h4] at h2
      omega
  · rename_i h3
    rw [if_neg h3] at h2
    omega
theorem check_any (k : Kd) (A : Option Addr) (c : Nat) (w : World) (h : KindAt w A k) : Calls Try.prog 10 #[kdV k A c] w (RetInt w k.err) := by
  by_cases hn : 1 ≤ k.new ∧ k.new ≤ 1000000
  · by_cases hw : spanErr 1000 k.lo k.hi = 0
    · by_cases hx : 1 ≤ k.st.length ∧ k.st.length ≤ 8
      · rw [Kd.err_rest hn hw, if_pos hx]
        exact check_steps k A c hn hw hx w h.at_
      · rw [Kd.err_rest hn hw, if_neg hx]
        exact check_long k A c hn hw h.len hx w
    · rw [Kd.err_wear hn hw]
      exact check_wear k A c hn hw w
  · rw [Kd.err_new hn]
    exact check_new k A c hn w
end Go.Proofs.Ytgbignkkieoffaa
