/-
  CONTRACT OF Life of the program: its ways. No statement is proved here.
-/
import Derived.Test.YtgbignkkieoffaaMg10
namespace Go.Proofs.Ytgbignkkieoffaa
open Go.RowKit Mg Go.Sort
set_option linter.unusedVariables false
set_option linter.unusedSimpArgs false

namespace Mg
theorem com_first {n new : Int} (hn : 0 ≤ n ∧ n ≤ 1000000) (hw : 1 ≤ new ∧ new ≤ 1000000) : commonS 0 new n 1000000 = if n ≤ new then (n, new) else (0, -1) := by
  unfold commonS
  rw [show max 0 n = n by omega, show min new 1000000 = new by omega]
theorem com_second {n new m : Int} (hn : 0 ≤ n ∧ n ≤ 1000000) (hw : 1 ≤ new ∧ new ≤ 1000000) : commonS (commonS 0 new n 1000000).1 (commonS 0 new n 1000000).2 0 (m - 1) = if n ≤ min new (m - 1) then (n, min new (m - 1)) else (0, -1) := by
  rw [com_first hn hw]
  split
  · unfold commonS
    rw [show max n 0 = n by omega]
  · unfold commonS
    simp only
    rw [if_neg (by omega), if_neg (by omega)]
end Mg
set_option maxRecDepth 100000 in
set_option maxHeartbeats 4000000 in
theorem life_err (k : Kd) (A : Option Addr) (c : Nat) (step : Int) (he : k.err ≠ 0) (w : World) (hk : KindAt w A k) : Calls Try.prog 13 #[kdV k A c, .int .i64 step] w (LifeOut w k step) := by
  have q : (k.err != 0) = true := by simpa using he
  have HE := Lib.hid (show k.lifeErr step = k.err by unfold Kd.lifeErr; rw [if_neg he])
  have HV := Lib.hid (show k.lifeV step = (0, 0) by unfold Kd.lifeV; rw [HE.out, if_neg he])
  have P0 := (kdW_new w k A c 26).after ((Below.refl _ _).alloc (Nat.le_refl _) (.cells #[.int .i64 0, .int .i64 0] 34))
  have R0 := prW_new (w.alloc (.cells #[.int .i64 k.new, .int .i64 k.lo, .int .i64 k.hi, .slice A k.st.length c] 26)) 0 0 34
  rw [World.size_alloc] at R0
  clear he
  go_enter Try.func13, Try.ntmps13
  go_wp2_with fail
  refine (check_any k A c _ (P0.kind hk)).mono ?_; rintro e w1 ⟨rfl, hb⟩
  have HB := Lib.hid (P0.after hb).below
  have R1 := R0.next hb
  clear P0 R0 hb
  obtain ⟨⟨x0, r0⟩, ⟨x1, r1⟩, f0, f1, hlt⟩ := R1
  generalize k.err = r at *
  go_wp2
  refine bodyPost_ret (v := .tuple #[pairV (0, 0), .int .i64 r]) (by simp [results, Try.results13, cFl, go_sem, r0, r1]) rfl ⟨by rw [HE.out, HV.out], ?_⟩
  exact (HB.out.setCell (p := ⟨w.heap.size + 1, 0, none⟩) (by show w.heap.size ≤ w.heap.size + 1; omega) _).setCell (p := ⟨w.heap.size + 1, 1, none⟩) (by show w.heap.size ≤ w.heap.size + 1; omega) _
set_option maxRecDepth 100000 in
set_option maxHeartbeats 4000000 in
theorem life_out (k : Kd) (A : Option Addr) (c : Nat) (step : Int) (he : k.err = 0) (hs : ¬ (0 ≤ step ∧ step < k.st.length)) (w : World) (hk : KindAt w A k) : Calls Try.prog 13 #[kdV k A c, .int .i64 step] w (LifeOut w k step) := by
  have HZ := Lib.hid he
  have HE := Lib.hid (show k.lifeErr step = 4 by unfold Kd.lifeErr; rw [if_pos he, if_neg hs])
  have HV := Lib.hid (show k.lifeV step = (0, 0) by unfold Kd.lifeV; rw [HE.out]; rfl)
  have P0 := (kdW_new w k A c 26).after ((Below.refl _ _).alloc (Nat.le_refl _) (.cells #[.int .i64 0, .int .i64 0] 34))
  have R0 := prW_new (w.alloc (.cells #[.int .i64 k.new, .int .i64 k.lo, .int .i64 k.hi, .slice A k.st.length c] 26)) 0 0 34
  rw [World.size_alloc] at R0
  by_cases h0 : step < 0
  · clear he hs
    go_enter Try.func13, Try.ntmps13
    go_wp2_with fail
    refine (check_any k A c _ (P0.kind hk)).mono ?_; rintro e w1 ⟨rfl, hb⟩
    rw [HZ.out]
    have P1 := P0.after hb
    have HB := Lib.hid P1.below
    have R1 := R0.next hb
    clear P0 R0 hb
    obtain ⟨_, c0, c1, c2, c3, hs⟩ := P1
    obtain ⟨⟨x0, r0⟩, ⟨x1, r1⟩, f0, f1, hlt⟩ := R1
    go_wp2
    refine bodyPost_ret (v := .tuple #[pairV (0, 0), .int .i64 4]) (by simp [results, Try.results13, cFl, go_sem, r0, r1]) rfl ⟨by rw [HE.out, HV.out], ?_⟩
    exact (HB.out.setCell (p := ⟨w.heap.size + 1, 0, none⟩) (by show w.heap.size ≤ w.heap.size + 1; omega) _).setCell (p := ⟨w.heap.size + 1, 1, none⟩) (by show w.heap.size ≤ w.heap.size + 1; omega) _
  · have h1 : ¬ step < k.st.length := fun h => hs ⟨by omega, h⟩
    have q1 : decide ((k.st.length : Int) ≤ step) = true := by simp; omega
    clear he hs h1
    go_enter Try.func13, Try.ntmps13
    go_wp2_with fail
    refine (check_any k A c _ (P0.kind hk)).mono ?_; rintro e w1 ⟨rfl, hb⟩
    rw [HZ.out]
    have P1 := P0.after hb
    have HB := Lib.hid P1.below
    have R1 := R0.next hb
    clear P0 R0 hb
    obtain ⟨_, c0, c1, c2, c3, hs⟩ := P1
    obtain ⟨⟨x0, r0⟩, ⟨x1, r1⟩, f0, f1, hlt⟩ := R1
    go_wp2
    refine bodyPost_ret (v := .tuple #[pairV (0, 0), .int .i64 4]) (by simp [results, Try.results13, cFl, go_sem, r0, r1]) rfl ⟨by rw [HE.out, HV.out], ?_⟩
    exact (HB.out.setCell (p := ⟨w.heap.size + 1, 0, none⟩) (by show w.heap.size ≤ w.heap.size + 1; omega) _).setCell (p := ⟨w.heap.size + 1, 1, none⟩) (by show w.heap.size ≤ w.heap.size + 1; omega) _

def canS (k : Kd) (i : Nat) : Int × Int := if (lifeS k i).1 ≤ (lifeS k i).2 then lifeS k i else (0, -1)
theorem canS_last {k : Kd} {i : Nat} (hn : 0 ≤ (stG k.st i).2 ∧ (stG k.st i).2 ≤ 1000000) (hw : 1 ≤ k.new ∧ k.new ≤ 1000000) (h : ¬ i + 1 < k.st.length) : commonS 0 k.new (stG k.st i).2 1000000 = canS k i := by
  rw [com_first hn hw]
  unfold canS lifeS
  rw [if_neg h]
theorem canS_next {k : Kd} {i : Nat} (hn : 0 ≤ (stG k.st i).2 ∧ (stG k.st i).2 ≤ 1000000) (hw : 1 ≤ k.new ∧ k.new ≤ 1000000) (h : i + 1 < k.st.length) : commonS (commonS 0 k.new (stG k.st i).2 1000000).1 (commonS 0 k.new (stG k.st i).2 1000000).2 0 ((stG k.st (i + 1)).2 - 1) = canS k i := by
  rw [com_second hn hw]
  unfold canS lifeS
  rw [if_pos h]
theorem lifeS_in {k : Kd} {i : Nat} (hn : 0 ≤ (stG k.st i).2 ∧ (stG k.st i).2 ≤ 1000000) (hw : 1 ≤ k.new ∧ k.new ≤ 1000000) (h : (lifeS k i).1 ≤ (lifeS k i).2) : (0 ≤ (lifeS k i).1 ∧ (lifeS k i).1 ≤ 1000000) ∧ 0 ≤ (lifeS k i).2 ∧ (lifeS k i).2 ≤ 1000000 := by
  have h1 : (lifeS k i).1 = (stG k.st i).2 := rfl
  have h2 : (lifeS k i).2 ≤ k.new := by
    unfold lifeS
    simp only
    split <;> omega
  omega

set_option maxRecDepth 100000 in
set_option maxHeartbeats 8000000 in
theorem life_last_no (k : Kd) (A : Option Addr) (c i : Nat) (hok : k.Ok) (hi : i < k.st.length) (hnx : ¬ i + 1 < k.st.length) (hg : ¬ (lifeS k i).1 ≤ (lifeS k i).2) (w : World) (hk : KindAt w A k) : Calls Try.prog 13 #[kdV k A c, .int .i64 i] w (LifeOut w k i) := by
    have HK := Lib.hid hk
    have HZ := Lib.hid hok.err
    have hnd := (step_zero (hok.steps i hi)).2.1
    have HN := Lib.hid hnd
    have HNO := Lib.hid (needOk hok)
    have HE := Lib.hid (show k.lifeErr i = 9 by unfold Kd.lifeErr; rw [if_pos hok.err, if_pos (by omega), Int.toNat_natCast, if_neg hg])
    have HV := Lib.hid (show k.lifeV i = (0, 0) by unfold Kd.lifeV; rw [HE.out]; try rfl)
    have HCV := Lib.hid (show canS k i = (0, -1) by unfold canS; rw [if_neg hg])
    have HC1 := Lib.hid (canS_last hnd hok.new hnx)
    have hl8 := hok.len
    have q1 : ¬ (k.st.length : Int) ≤ (i : Int) := by omega
    have q2 : ¬ ((i : Int) + 1 < (k.st.length : Int)) := by omega
    have P0 := (kdW_new w k A c 26).after ((Below.refl _ _).alloc (Nat.le_refl _) (.cells #[.int .i64 0, .int .i64 0] 34))
    have R0 := prW_new (w.alloc (.cells #[.int .i64 k.new, .int .i64 k.lo, .int .i64 k.hi, .slice A k.st.length c] 26)) 0 0 34
    rw [World.size_alloc] at R0
    clear hk hok hnd hg
    go_enter Try.func13, Try.ntmps13
    go_wp2_with fail
    refine (check_any k A c _ (P0.kind HK.out)).mono ?_; rintro e w1 ⟨rfl, hb⟩
    rw [HZ.out]
    have P1 := P0.after hb
    have R1 := R0.next hb
    clear P0 R0 hb
    have P1' := P1
    obtain ⟨_, c0, c1, c2, c3, hs⟩ := P1'
    go_wp2_with fail
    refine (fresh_any k A c 0 _).mono ?_; rintro e w2 ⟨rfl, hb2⟩
    go_wp2
    have L1 : LfW w k A c w2.heap.size (k.new, k.new) (w2.alloc (.cells #[.int .i64 k.new, .int .i64 k.lo, .int .i64 k.hi, .slice A k.st.length c, .int .i64 0, .int .i64 k.new, .int .i64 k.new] 81)) :=
      ⟨(P1.after hb2).after ((Below.refl _ _).alloc (Nat.le_refl _) _), (R1.next hb2).next ((Below.refl _ _).alloc (Nat.le_refl _) _), vbW_new w2 k A c 0 (k.new, k.new) _, (R1.next hb2).lt⟩
    generalize (w2.alloc (.cells #[.int .i64 k.new, .int .i64 k.lo, .int .i64 k.hi, .slice A k.st.length c, .int .i64 0, .int .i64 k.new, .int .i64 k.new] 81)) = V at *
    generalize w2.heap.size = bv at *
    clear P1 R1 hb2 c0 c1 c2 c3 hs
    obtain ⟨ad, eA, hab, d0, d1⟩ := (L1.kd.kind HK.out).at_.at_ hi
    subst eA
    have k0 := cell_regrown L1.kd.c0
    have k3 := cell_regrown L1.kd.c3
    have kd := cell_regrown d1
    have cA : ∀ d os, Calls Try.prog 39 #[.int .i64 (stG k.st i).2, .bool true] (grow (redrawn V d) os) fun e w'' => e = .returned (.agg #[.int .i64 (stG k.st i).2, .int .i64 1000000]) ∧ ∃ p : Regrown, w'' = grow (redrawn V p.d) p.os := fun d os =>
      Calls.regrown_of (agree_any _ true HN.out _)
    have cB : ∀ d os, Calls Try.prog 38 #[.agg #[.int .i64 0, .int .i64 k.new], .agg #[.int .i64 (stG k.st i).2, .int .i64 1000000]] (grow (redrawn V d) os) fun e w'' => e = .returned (.agg #[.int .i64 (commonS 0 k.new (stG k.st i).2 1000000).1, .int .i64 (commonS 0 k.new (stG k.st i).2 1000000).2]) ∧ ∃ p : Regrown, w'' = grow (redrawn V p.d) p.os := fun d os =>
      Calls.regrown_of (common_any _ _ _ _ _)
    clear d0 d1
    refine region_below_tail 11 rfl (by kernel_rfl) ?_
    simp only [List.take_succ_cons, List.take_zero, List.drop_succ_cons, List.drop_zero]
    repeat (quiet_step (first | with_reducible exact cA _ _ | with_reducible exact cB _ _))
    refine wpQuiet_nil ?_
    intro _ hw'
    obtain ⟨⟨dq, osq⟩, hw''⟩ := hw'
    subst hw''
    have L2 := L1.after (below_regrown V dq osq)
    generalize grow (redrawn V dq) osq = X at *
    clear cA cB k0 k3 kd L1
    have L2' := L2.v
    obtain ⟨_, _, _, _, _, e5, e6, f5, f6, hlt⟩ := L2'
    have e0 := L2.kd.c3
    have L3 := L2.set (commonS 0 k.new (stG k.st i).2 1000000).1 (commonS 0 k.new (stG k.st i).2 1000000).2
    have hne : w.heap.size ≠ bv := by have := L2.ge; omega
    go_wp2
    generalize ((X.setCell ⟨bv, 5, none⟩ (.int .i64 (commonS 0 k.new (stG k.st i).2 1000000).1)).setCell ⟨bv, 6, none⟩ (.int .i64 (commonS 0 k.new (stG k.st i).2 1000000).2)) = Y at *
    clear L2 e5 e6 f5 f6 hlt e0 hne
    rw [HC1.out] at *
    have L5 := L3
    generalize Y = Z at *
    clear L3
    have k5 := cell_regrown L5.v.c5
    have k6 := cell_regrown L5.v.c6
    have cN : ∀ d os, Calls Try.prog 40 #[] (grow (redrawn Z d) os) fun e w'' => e = .returned (.agg #[.int .i64 0, .int .i64 (-1)]) ∧ ∃ p : Regrown, w'' = grow (redrawn Z p.d) p.os := fun d os =>
      Calls.regrown_of (nothing_any _)
    rw [HCV.out] at *
    refine wp_region_quiet_below rfl (by kernel_rfl) ?_
    repeat (quiet_step (first | with_reducible exact cN _ _))
    refine wpQuiet_nil ?_
    intro _ hw'
    obtain ⟨⟨dq2, osq2⟩, hw''⟩ := hw'
    subst hw''
    have L6 := L5.after (below_regrown Z dq2 osq2)
    generalize grow (redrawn Z dq2) osq2 = U at *
    clear cN k5 k6 L5
    have HB := Lib.hid L6.kd.below
    have hge := L6.ge
    obtain ⟨⟨x0, r0⟩, ⟨x1, r1⟩, f0, f1, hlt⟩ := L6.res
    go_wp2
    refine bodyPost_ret (v := .tuple #[pairV (0, 0), .int .i64 9]) (by simp [results, Try.results13, cFl, go_sem, r0, r1]) rfl ⟨by rw [HE.out, HV.out], ?_⟩
    exact (HB.out.setCell (p := ⟨w.heap.size + 1, 0, none⟩) (by show w.heap.size ≤ w.heap.size + 1; omega) _).setCell (p := ⟨w.heap.size + 1, 1, none⟩) (by show w.heap.size ≤ w.heap.size + 1; omega) _

set_option maxRecDepth 100000 in
set_option maxHeartbeats 8000000 in
theorem life_last_ok (k : Kd) (A : Option Addr) (c i : Nat) (hok : k.Ok) (hi : i < k.st.length) (hnx : ¬ i + 1 < k.st.length) (hg : (lifeS k i).1 ≤ (lifeS k i).2) (w : World) (hk : KindAt w A k) : Calls Try.prog 13 #[kdV k A c, .int .i64 i] w (LifeOut w k i) := by
    have HK := Lib.hid hk
    have HZ := Lib.hid hok.err
    have hnd := (step_zero (hok.steps i hi)).2.1
    have HN := Lib.hid hnd
    have HNO := Lib.hid (needOk hok)
    have HE := Lib.hid (show k.lifeErr i = 0 by unfold Kd.lifeErr; rw [if_pos hok.err, if_pos (by omega), Int.toNat_natCast, if_pos hg])
    have HV := Lib.hid (show k.lifeV i = failV k (lifeS k i) 0 by unfold Kd.lifeV; rw [HE.out, if_pos rfl, Int.toNat_natCast]; try rfl)
    have HCV := Lib.hid (show canS k i = lifeS k i by unfold canS; rw [if_pos hg])
    have qne : ((lifeS k i).2 == -1) = false := by have := (lifeS_in hnd hok.new hg).2; simp; omega
    have HS1 := Lib.hid (lifeS_in hnd hok.new hg).1
    have HS2 := Lib.hid (lifeS_in hnd hok.new hg).2
    have HC1 := Lib.hid (canS_last hnd hok.new hnx)
    have hl8 := hok.len
    have q1 : ¬ (k.st.length : Int) ≤ (i : Int) := by omega
    have q2 : ¬ ((i : Int) + 1 < (k.st.length : Int)) := by omega
    have P0 := (kdW_new w k A c 26).after ((Below.refl _ _).alloc (Nat.le_refl _) (.cells #[.int .i64 0, .int .i64 0] 34))
    have R0 := prW_new (w.alloc (.cells #[.int .i64 k.new, .int .i64 k.lo, .int .i64 k.hi, .slice A k.st.length c] 26)) 0 0 34
    rw [World.size_alloc] at R0
    clear hk hok hnd hg
    go_enter Try.func13, Try.ntmps13
    go_wp2_with fail
    refine (check_any k A c _ (P0.kind HK.out)).mono ?_; rintro e w1 ⟨rfl, hb⟩
    rw [HZ.out]
    have P1 := P0.after hb
    have R1 := R0.next hb
    clear P0 R0 hb
    have P1' := P1
    obtain ⟨_, c0, c1, c2, c3, hs⟩ := P1'
    go_wp2_with fail
    refine (fresh_any k A c 0 _).mono ?_; rintro e w2 ⟨rfl, hb2⟩
    go_wp2
    have L1 : LfW w k A c w2.heap.size (k.new, k.new) (w2.alloc (.cells #[.int .i64 k.new, .int .i64 k.lo, .int .i64 k.hi, .slice A k.st.length c, .int .i64 0, .int .i64 k.new, .int .i64 k.new] 81)) :=
      ⟨(P1.after hb2).after ((Below.refl _ _).alloc (Nat.le_refl _) _), (R1.next hb2).next ((Below.refl _ _).alloc (Nat.le_refl _) _), vbW_new w2 k A c 0 (k.new, k.new) _, (R1.next hb2).lt⟩
    generalize (w2.alloc (.cells #[.int .i64 k.new, .int .i64 k.lo, .int .i64 k.hi, .slice A k.st.length c, .int .i64 0, .int .i64 k.new, .int .i64 k.new] 81)) = V at *
    generalize w2.heap.size = bv at *
    clear P1 R1 hb2 c0 c1 c2 c3 hs
    obtain ⟨ad, eA, hab, d0, d1⟩ := (L1.kd.kind HK.out).at_.at_ hi
    subst eA
    have k0 := cell_regrown L1.kd.c0
    have k3 := cell_regrown L1.kd.c3
    have kd := cell_regrown d1
    have cA : ∀ d os, Calls Try.prog 39 #[.int .i64 (stG k.st i).2, .bool true] (grow (redrawn V d) os) fun e w'' => e = .returned (.agg #[.int .i64 (stG k.st i).2, .int .i64 1000000]) ∧ ∃ p : Regrown, w'' = grow (redrawn V p.d) p.os := fun d os =>
      Calls.regrown_of (agree_any _ true HN.out _)
    have cB : ∀ d os, Calls Try.prog 38 #[.agg #[.int .i64 0, .int .i64 k.new], .agg #[.int .i64 (stG k.st i).2, .int .i64 1000000]] (grow (redrawn V d) os) fun e w'' => e = .returned (.agg #[.int .i64 (commonS 0 k.new (stG k.st i).2 1000000).1, .int .i64 (commonS 0 k.new (stG k.st i).2 1000000).2]) ∧ ∃ p : Regrown, w'' = grow (redrawn V p.d) p.os := fun d os =>
      Calls.regrown_of (common_any _ _ _ _ _)
    clear d0 d1
    refine region_below_tail 11 rfl (by kernel_rfl) ?_
    simp only [List.take_succ_cons, List.take_zero, List.drop_succ_cons, List.drop_zero]
    repeat (quiet_step (first | with_reducible exact cA _ _ | with_reducible exact cB _ _))
    refine wpQuiet_nil ?_
    intro _ hw'
    obtain ⟨⟨dq, osq⟩, hw''⟩ := hw'
    subst hw''
    have L2 := L1.after (below_regrown V dq osq)
    generalize grow (redrawn V dq) osq = X at *
    clear cA cB k0 k3 kd L1
    have L2' := L2.v
    obtain ⟨_, _, _, _, _, e5, e6, f5, f6, hlt⟩ := L2'
    have e0 := L2.kd.c3
    have L3 := L2.set (commonS 0 k.new (stG k.st i).2 1000000).1 (commonS 0 k.new (stG k.st i).2 1000000).2
    have hne : w.heap.size ≠ bv := by have := L2.ge; omega
    go_wp2
    generalize ((X.setCell ⟨bv, 5, none⟩ (.int .i64 (commonS 0 k.new (stG k.st i).2 1000000).1)).setCell ⟨bv, 6, none⟩ (.int .i64 (commonS 0 k.new (stG k.st i).2 1000000).2)) = Y at *
    clear L2 e5 e6 f5 f6 hlt e0 hne
    rw [HC1.out] at *
    have L5 := L3
    generalize Y = Z at *
    clear L3
    have k5 := cell_regrown L5.v.c5
    have k6 := cell_regrown L5.v.c6
    have cN : ∀ d os, Calls Try.prog 40 #[] (grow (redrawn Z d) os) fun e w'' => e = .returned (.agg #[.int .i64 0, .int .i64 (-1)]) ∧ ∃ p : Regrown, w'' = grow (redrawn Z p.d) p.os := fun d os =>
      Calls.regrown_of (nothing_any _)
    rw [HCV.out] at *
    refine wp_region_quiet_below rfl (by kernel_rfl) ?_
    repeat (quiet_step (first | with_reducible exact cN _ _))
    refine wpQuiet_nil ?_
    intro _ hw'
    obtain ⟨⟨dq2, osq2⟩, hw''⟩ := hw'
    subst hw''
    have L6 := L5.after (below_regrown Z dq2 osq2)
    generalize grow (redrawn Z dq2) osq2 = U at *
    clear cN k5 k6 L5
    have HB := Lib.hid L6.kd.below
    have hge := L6.ge
    have L6' := L6.v
    obtain ⟨v0, v1, v2, v3, v4, v5, v6, f5, f6, hlt⟩ := L6'
    go_wp2_with fail
    refine (fails_any k _ c 0 (lifeS k i) HNO.out HS1.out HS2.out (by omega) _ (L6.kd.kind HK.out)).mono ?_; rintro e w7 ⟨rfl, hb7⟩
    have R7 := L6.res.next hb7
    have HB7 := Lib.hid (L6.kd.after hb7).below
    clear L6 hb7 v0 v1 v2 v3 v4 v5 v6 f5 f6 hlt
    obtain ⟨⟨x0, r0⟩, ⟨x1, r1⟩, f0, f1, hlt⟩ := R7
    go_wp2
    refine bodyPost_ret (v := .tuple #[pairV (failV k (lifeS k i) 0), .int .i64 0]) (by simp [results, Try.results13, cFl, go_sem, r0, r1]) rfl ⟨by rw [HE.out, HV.out], ?_⟩
    exact (HB7.out.setCell (p := ⟨w.heap.size + 1, 0, none⟩) (by show w.heap.size ≤ w.heap.size + 1; omega) _).setCell (p := ⟨w.heap.size + 1, 1, none⟩) (by show w.heap.size ≤ w.heap.size + 1; omega) _

set_option maxRecDepth 100000 in
set_option maxHeartbeats 8000000 in
theorem life_next_no (k : Kd) (A : Option Addr) (c i : Nat) (hok : k.Ok) (hi : i < k.st.length) (hnx : i + 1 < k.st.length) (hg : ¬ (lifeS k i).1 ≤ (lifeS k i).2) (w : World) (hk : KindAt w A k) : Calls Try.prog 13 #[kdV k A c, .int .i64 i] w (LifeOut w k i) := by
    have HK := Lib.hid hk
    have HZ := Lib.hid hok.err
    have hnd := (step_zero (hok.steps i hi)).2.1
    have HN := Lib.hid hnd
    have HM := Lib.hid (step_zero (hok.steps (i + 1) hnx)).2.1
    have HNO := Lib.hid (needOk hok)
    have HE := Lib.hid (show k.lifeErr i = 9 by unfold Kd.lifeErr; rw [if_pos hok.err, if_pos (by omega), Int.toNat_natCast, if_neg hg])
    have HV := Lib.hid (show k.lifeV i = (0, 0) by unfold Kd.lifeV; rw [HE.out]; try rfl)
    have HCV := Lib.hid (show canS k i = (0, -1) by unfold canS; rw [if_neg hg])
    have HC2 := Lib.hid (canS_next hnd hok.new hnx)
    have hl8 := hok.len
    have q1 : ¬ (k.st.length : Int) ≤ (i : Int) := by omega
    have q2 : ((i : Int) + 1 < (k.st.length : Int)) := by omega
    have P0 := (kdW_new w k A c 26).after ((Below.refl _ _).alloc (Nat.le_refl _) (.cells #[.int .i64 0, .int .i64 0] 34))
    have R0 := prW_new (w.alloc (.cells #[.int .i64 k.new, .int .i64 k.lo, .int .i64 k.hi, .slice A k.st.length c] 26)) 0 0 34
    rw [World.size_alloc] at R0
    clear hk hok hnd hg
    go_enter Try.func13, Try.ntmps13
    go_wp2_with fail
    refine (check_any k A c _ (P0.kind HK.out)).mono ?_; rintro e w1 ⟨rfl, hb⟩
    rw [HZ.out]
    have P1 := P0.after hb
    have R1 := R0.next hb
    clear P0 R0 hb
    have P1' := P1
    obtain ⟨_, c0, c1, c2, c3, hs⟩ := P1'
    go_wp2_with fail
    refine (fresh_any k A c 0 _).mono ?_; rintro e w2 ⟨rfl, hb2⟩
    go_wp2
    have L1 : LfW w k A c w2.heap.size (k.new, k.new) (w2.alloc (.cells #[.int .i64 k.new, .int .i64 k.lo, .int .i64 k.hi, .slice A k.st.length c, .int .i64 0, .int .i64 k.new, .int .i64 k.new] 81)) :=
      ⟨(P1.after hb2).after ((Below.refl _ _).alloc (Nat.le_refl _) _), (R1.next hb2).next ((Below.refl _ _).alloc (Nat.le_refl _) _), vbW_new w2 k A c 0 (k.new, k.new) _, (R1.next hb2).lt⟩
    generalize (w2.alloc (.cells #[.int .i64 k.new, .int .i64 k.lo, .int .i64 k.hi, .slice A k.st.length c, .int .i64 0, .int .i64 k.new, .int .i64 k.new] 81)) = V at *
    generalize w2.heap.size = bv at *
    clear P1 R1 hb2 c0 c1 c2 c3 hs
    obtain ⟨ad, eA, hab, d0, d1⟩ := (L1.kd.kind HK.out).at_.at_ hi
    subst eA
    have k0 := cell_regrown L1.kd.c0
    have k3 := cell_regrown L1.kd.c3
    have kd := cell_regrown d1
    have cA : ∀ d os, Calls Try.prog 39 #[.int .i64 (stG k.st i).2, .bool true] (grow (redrawn V d) os) fun e w'' => e = .returned (.agg #[.int .i64 (stG k.st i).2, .int .i64 1000000]) ∧ ∃ p : Regrown, w'' = grow (redrawn V p.d) p.os := fun d os =>
      Calls.regrown_of (agree_any _ true HN.out _)
    have cB : ∀ d os, Calls Try.prog 38 #[.agg #[.int .i64 0, .int .i64 k.new], .agg #[.int .i64 (stG k.st i).2, .int .i64 1000000]] (grow (redrawn V d) os) fun e w'' => e = .returned (.agg #[.int .i64 (commonS 0 k.new (stG k.st i).2 1000000).1, .int .i64 (commonS 0 k.new (stG k.st i).2 1000000).2]) ∧ ∃ p : Regrown, w'' = grow (redrawn V p.d) p.os := fun d os =>
      Calls.regrown_of (common_any _ _ _ _ _)
    clear d0 d1
    refine region_below_tail 11 rfl (by kernel_rfl) ?_
    simp only [List.take_succ_cons, List.take_zero, List.drop_succ_cons, List.drop_zero]
    repeat (quiet_step (first | with_reducible exact cA _ _ | with_reducible exact cB _ _))
    refine wpQuiet_nil ?_
    intro _ hw'
    obtain ⟨⟨dq, osq⟩, hw''⟩ := hw'
    subst hw''
    have L2 := L1.after (below_regrown V dq osq)
    generalize grow (redrawn V dq) osq = X at *
    clear cA cB k0 k3 kd L1
    have L2' := L2.v
    obtain ⟨_, _, _, _, _, e5, e6, f5, f6, hlt⟩ := L2'
    have e0 := L2.kd.c3
    have L3 := L2.set (commonS 0 k.new (stG k.st i).2 1000000).1 (commonS 0 k.new (stG k.st i).2 1000000).2
    have hne : w.heap.size ≠ bv := by have := L2.ge; omega
    go_wp2
    generalize ((X.setCell ⟨bv, 5, none⟩ (.int .i64 (commonS 0 k.new (stG k.st i).2 1000000).1)).setCell ⟨bv, 6, none⟩ (.int .i64 (commonS 0 k.new (stG k.st i).2 1000000).2)) = Y at *
    clear L2 e5 e6 f5 f6 hlt e0 hne
    obtain ⟨ad, eA, hab, g0, g1⟩ := (L3.kd.kind HK.out).at_.at_ hnx
    cases eA
    have k0 := cell_regrown L3.kd.c0
    have k3 := cell_regrown L3.kd.c3
    have k5 := cell_regrown L3.v.c5
    have k6 := cell_regrown L3.v.c6
    have kd := cell_regrown g1
    have cA : ∀ d os, Calls Try.prog 39 #[.int .i64 (stG k.st (i + 1)).2, .bool false] (grow (redrawn Y d) os) fun e w'' => e = .returned (.agg #[.int .i64 0, .int .i64 ((stG k.st (i + 1)).2 - 1)]) ∧ ∃ p : Regrown, w'' = grow (redrawn Y p.d) p.os := fun d os =>
      Calls.regrown_of (agree_any _ false HM.out _)
    have cB : ∀ d os, Calls Try.prog 38 #[.agg #[.int .i64 (commonS 0 k.new (stG k.st i).2 1000000).1, .int .i64 (commonS 0 k.new (stG k.st i).2 1000000).2], .agg #[.int .i64 0, .int .i64 ((stG k.st (i + 1)).2 - 1)]] (grow (redrawn Y d) os) fun e w'' => e = .returned (.agg #[.int .i64 (canS k i).1, .int .i64 (canS k i).2]) ∧ ∃ p : Regrown, w'' = grow (redrawn Y p.d) p.os := fun d os => by
      rw [← HC2.out]
      exact Calls.regrown_of (common_any _ _ _ _ _)
    clear g0 g1
    have qa : (0 : Int) ≤ (i : Int) + 1 := by omega
    have qt : ((i : Int) + 1).toNat = i + 1 := by omega
    have qw : IntKind.i64.wrap ((i : Int) + 1) = (i : Int) + 1 := by rw [IntKind.wrap_i64]; omega
    refine region_below_tail 11 rfl (by kernel_rfl) ?_
    simp only [List.take_succ_cons, List.take_zero, List.drop_succ_cons, List.drop_zero]
    repeat (first | quiet_step (first | with_reducible exact cA _ _ | with_reducible exact cB _ _) | (go_big_quiet_want; go_big_quiet_op; go_big_quiet_on))
    refine wpQuiet_nil ?_
    intro _ hw'
    obtain ⟨⟨dq, osq⟩, hw''⟩ := hw'
    subst hw''
    have L4 := L3.after (below_regrown Y dq osq)
    generalize grow (redrawn Y dq) osq = X2 at *
    clear cA cB k0 k3 k5 k6 kd L3
    have L4' := L4.v
    obtain ⟨_, _, _, _, _, e5, e6, f5, f6, hlt⟩ := L4'
    have L5 := L4.set (canS k i).1 (canS k i).2
    go_wp2
    generalize ((X2.setCell ⟨bv, 5, none⟩ (.int .i64 (canS k i).1)).setCell ⟨bv, 6, none⟩ (.int .i64 (canS k i).2)) = Z at *
    clear L4 e5 e6 f5 f6 hlt
    have k5 := cell_regrown L5.v.c5
    have k6 := cell_regrown L5.v.c6
    have cN : ∀ d os, Calls Try.prog 40 #[] (grow (redrawn Z d) os) fun e w'' => e = .returned (.agg #[.int .i64 0, .int .i64 (-1)]) ∧ ∃ p : Regrown, w'' = grow (redrawn Z p.d) p.os := fun d os =>
      Calls.regrown_of (nothing_any _)
    rw [HCV.out] at *
    refine wp_region_quiet_below rfl (by kernel_rfl) ?_
    repeat (quiet_step (first | with_reducible exact cN _ _))
    refine wpQuiet_nil ?_
    intro _ hw'
    obtain ⟨⟨dq2, osq2⟩, hw''⟩ := hw'
    subst hw''
    have L6 := L5.after (below_regrown Z dq2 osq2)
    generalize grow (redrawn Z dq2) osq2 = U at *
    clear cN k5 k6 L5
    have HB := Lib.hid L6.kd.below
    have hge := L6.ge
    obtain ⟨⟨x0, r0⟩, ⟨x1, r1⟩, f0, f1, hlt⟩ := L6.res
    go_wp2
    refine bodyPost_ret (v := .tuple #[pairV (0, 0), .int .i64 9]) (by simp [results, Try.results13, cFl, go_sem, r0, r1]) rfl ⟨by rw [HE.out, HV.out], ?_⟩
    exact (HB.out.setCell (p := ⟨w.heap.size + 1, 0, none⟩) (by show w.heap.size ≤ w.heap.size + 1; omega) _).setCell (p := ⟨w.heap.size + 1, 1, none⟩) (by show w.heap.size ≤ w.heap.size + 1; omega) _

set_option maxRecDepth 100000 in
set_option maxHeartbeats 8000000 in
theorem life_next_ok (k : Kd) (A : Option Addr) (c i : Nat) (hok : k.Ok) (hi : i < k.st.length) (hnx : i + 1 < k.st.length) (hg : (lifeS k i).1 ≤ (lifeS k i).2) (w : World) (hk : KindAt w A k) : Calls Try.prog 13 #[kdV k A c, .int .i64 i] w (LifeOut w k i) := by
    have HK := Lib.hid hk
    have HZ := Lib.hid hok.err
    have hnd := (step_zero (hok.steps i hi)).2.1
    have HN := Lib.hid hnd
    have HM := Lib.hid (step_zero (hok.steps (i + 1) hnx)).2.1
    have HNO := Lib.hid (needOk hok)
    have HE := Lib.hid (show k.lifeErr i = 0 by unfold Kd.lifeErr; rw [if_pos hok.err, if_pos (by omega), Int.toNat_natCast, if_pos hg])
    have HV := Lib.hid (show k.lifeV i = failV k (lifeS k i) 0 by unfold Kd.lifeV; rw [HE.out, if_pos rfl, Int.toNat_natCast]; try rfl)
    have HCV := Lib.hid (show canS k i = lifeS k i by unfold canS; rw [if_pos hg])
    have qne : ((lifeS k i).2 == -1) = false := by have := (lifeS_in hnd hok.new hg).2; simp; omega
    have HS1 := Lib.hid (lifeS_in hnd hok.new hg).1
    have HS2 := Lib.hid (lifeS_in hnd hok.new hg).2
    have HC2 := Lib.hid (canS_next hnd hok.new hnx)
    have hl8 := hok.len
    have q1 : ¬ (k.st.length : Int) ≤ (i : Int) := by omega
    have q2 : ((i : Int) + 1 < (k.st.length : Int)) := by omega
    have P0 := (kdW_new w k A c 26).after ((Below.refl _ _).alloc (Nat.le_refl _) (.cells #[.int .i64 0, .int .i64 0] 34))
    have R0 := prW_new (w.alloc (.cells #[.int .i64 k.new, .int .i64 k.lo, .int .i64 k.hi, .slice A k.st.length c] 26)) 0 0 34
    rw [World.size_alloc] at R0
    clear hk hok hnd hg
    go_enter Try.func13, Try.ntmps13
    go_wp2_with fail
    refine (check_any k A c _ (P0.kind HK.out)).mono ?_; rintro e w1 ⟨rfl, hb⟩
    rw [HZ.out]
    have P1 := P0.after hb
    have R1 := R0.next hb
    clear P0 R0 hb
    have P1' := P1
    obtain ⟨_, c0, c1, c2, c3, hs⟩ := P1'
    go_wp2_with fail
    refine (fresh_any k A c 0 _).mono ?_; rintro e w2 ⟨rfl, hb2⟩
    go_wp2
    have L1 : LfW w k A c w2.heap.size (k.new, k.new) (w2.alloc (.cells #[.int .i64 k.new, .int .i64 k.lo, .int .i64 k.hi, .slice A k.st.length c, .int .i64 0, .int .i64 k.new, .int .i64 k.new] 81)) :=
      ⟨(P1.after hb2).after ((Below.refl _ _).alloc (Nat.le_refl _) _), (R1.next hb2).next ((Below.refl _ _).alloc (Nat.le_refl _) _), vbW_new w2 k A c 0 (k.new, k.new) _, (R1.next hb2).lt⟩
    generalize (w2.alloc (.cells #[.int .i64 k.new, .int .i64 k.lo, .int .i64 k.hi, .slice A k.st.length c, .int .i64 0, .int .i64 k.new, .int .i64 k.new] 81)) = V at *
    generalize w2.heap.size = bv at *
    clear P1 R1 hb2 c0 c1 c2 c3 hs
    obtain ⟨ad, eA, hab, d0, d1⟩ := (L1.kd.kind HK.out).at_.at_ hi
    subst eA
    have k0 := cell_regrown L1.kd.c0
    have k3 := cell_regrown L1.kd.c3
    have kd := cell_regrown d1
    have cA : ∀ d os, Calls Try.prog 39 #[.int .i64 (stG k.st i).2, .bool true] (grow (redrawn V d) os) fun e w'' => e = .returned (.agg #[.int .i64 (stG k.st i).2, .int .i64 1000000]) ∧ ∃ p : Regrown, w'' = grow (redrawn V p.d) p.os := fun d os =>
      Calls.regrown_of (agree_any _ true HN.out _)
    have cB : ∀ d os, Calls Try.prog 38 #[.agg #[.int .i64 0, .int .i64 k.new], .agg #[.int .i64 (stG k.st i).2, .int .i64 1000000]] (grow (redrawn V d) os) fun e w'' => e = .returned (.agg #[.int .i64 (commonS 0 k.new (stG k.st i).2 1000000).1, .int .i64 (commonS 0 k.new (stG k.st i).2 1000000).2]) ∧ ∃ p : Regrown, w'' = grow (redrawn V p.d) p.os := fun d os =>
      Calls.regrown_of (common_any _ _ _ _ _)
    clear d0 d1
    refine region_below_tail 11 rfl (by kernel_rfl) ?_
    simp only [List.take_succ_cons, List.take_zero, List.drop_succ_cons, List.drop_zero]
    repeat (quiet_step (first | with_reducible exact cA _ _ | with_reducible exact cB _ _))
    refine wpQuiet_nil ?_
    intro _ hw'
    obtain ⟨⟨dq, osq⟩, hw''⟩ := hw'
    subst hw''
    have L2 := L1.after (below_regrown V dq osq)
    generalize grow (redrawn V dq) osq = X at *
    clear cA cB k0 k3 kd L1
    have L2' := L2.v
    obtain ⟨_, _, _, _, _, e5, e6, f5, f6, hlt⟩ := L2'
    have e0 := L2.kd.c3
    have L3 := L2.set (commonS 0 k.new (stG k.st i).2 1000000).1 (commonS 0 k.new (stG k.st i).2 1000000).2
    have hne : w.heap.size ≠ bv := by have := L2.ge; omega
    go_wp2
    generalize ((X.setCell ⟨bv, 5, none⟩ (.int .i64 (commonS 0 k.new (stG k.st i).2 1000000).1)).setCell ⟨bv, 6, none⟩ (.int .i64 (commonS 0 k.new (stG k.st i).2 1000000).2)) = Y at *
    clear L2 e5 e6 f5 f6 hlt e0 hne
    obtain ⟨ad, eA, hab, g0, g1⟩ := (L3.kd.kind HK.out).at_.at_ hnx
    cases eA
    have k0 := cell_regrown L3.kd.c0
    have k3 := cell_regrown L3.kd.c3
    have k5 := cell_regrown L3.v.c5
    have k6 := cell_regrown L3.v.c6
    have kd := cell_regrown g1
    have cA : ∀ d os, Calls Try.prog 39 #[.int .i64 (stG k.st (i + 1)).2, .bool false] (grow (redrawn Y d) os) fun e w'' => e = .returned (.agg #[.int .i64 0, .int .i64 ((stG k.st (i + 1)).2 - 1)]) ∧ ∃ p : Regrown, w'' = grow (redrawn Y p.d) p.os := fun d os =>
      Calls.regrown_of (agree_any _ false HM.out _)
    have cB : ∀ d os, Calls Try.prog 38 #[.agg #[.int .i64 (commonS 0 k.new (stG k.st i).2 1000000).1, .int .i64 (commonS 0 k.new (stG k.st i).2 1000000).2], .agg #[.int .i64 0, .int .i64 ((stG k.st (i + 1)).2 - 1)]] (grow (redrawn Y d) os) fun e w'' => e = .returned (.agg #[.int .i64 (canS k i).1, .int .i64 (canS k i).2]) ∧ ∃ p : Regrown, w'' = grow (redrawn Y p.d) p.os := fun d os => by
      rw [← HC2.out]
      exact Calls.regrown_of (common_any _ _ _ _ _)
    clear g0 g1
    have qa : (0 : Int) ≤ (i : Int) + 1 := by omega
    have qt : ((i : Int) + 1).toNat = i + 1 := by omega
    have qw : IntKind.i64.wrap ((i : Int) + 1) = (i : Int) + 1 := by rw [IntKind.wrap_i64]; omega
    refine region_below_tail 11 rfl (by kernel_rfl) ?_
    simp only [List.take_succ_cons, List.take_zero, List.drop_succ_cons, List.drop_zero]
    repeat (first | quiet_step (first | with_reducible exact cA _ _ | with_reducible exact cB _ _) | (go_big_quiet_want; go_big_quiet_op; go_big_quiet_on))
    refine wpQuiet_nil ?_
    intro _ hw'
    obtain ⟨⟨dq, osq⟩, hw''⟩ := hw'
    subst hw''
    have L4 := L3.after (below_regrown Y dq osq)
    generalize grow (redrawn Y dq) osq = X2 at *
    clear cA cB k0 k3 k5 k6 kd L3
    have L4' := L4.v
    obtain ⟨_, _, _, _, _, e5, e6, f5, f6, hlt⟩ := L4'
    have L5 := L4.set (canS k i).1 (canS k i).2
    go_wp2
    generalize ((X2.setCell ⟨bv, 5, none⟩ (.int .i64 (canS k i).1)).setCell ⟨bv, 6, none⟩ (.int .i64 (canS k i).2)) = Z at *
    clear L4 e5 e6 f5 f6 hlt
    have k5 := cell_regrown L5.v.c5
    have k6 := cell_regrown L5.v.c6
    have cN : ∀ d os, Calls Try.prog 40 #[] (grow (redrawn Z d) os) fun e w'' => e = .returned (.agg #[.int .i64 0, .int .i64 (-1)]) ∧ ∃ p : Regrown, w'' = grow (redrawn Z p.d) p.os := fun d os =>
      Calls.regrown_of (nothing_any _)
    rw [HCV.out] at *
    refine wp_region_quiet_below rfl (by kernel_rfl) ?_
    repeat (quiet_step (first | with_reducible exact cN _ _))
    refine wpQuiet_nil ?_
    intro _ hw'
    obtain ⟨⟨dq2, osq2⟩, hw''⟩ := hw'
    subst hw''
    have L6 := L5.after (below_regrown Z dq2 osq2)
    generalize grow (redrawn Z dq2) osq2 = U at *
    clear cN k5 k6 L5
    have HB := Lib.hid L6.kd.below
    have hge := L6.ge
    have L6' := L6.v
    obtain ⟨v0, v1, v2, v3, v4, v5, v6, f5, f6, hlt⟩ := L6'
    go_wp2_with fail
    refine (fails_any k _ c 0 (lifeS k i) HNO.out HS1.out HS2.out (by omega) _ (L6.kd.kind HK.out)).mono ?_; rintro e w7 ⟨rfl, hb7⟩
    have R7 := L6.res.next hb7
    have HB7 := Lib.hid (L6.kd.after hb7).below
    clear L6 hb7 v0 v1 v2 v3 v4 v5 v6 f5 f6 hlt
    obtain ⟨⟨x0, r0⟩, ⟨x1, r1⟩, f0, f1, hlt⟩ := R7
    go_wp2
    refine bodyPost_ret (v := .tuple #[pairV (failV k (lifeS k i) 0), .int .i64 0]) (by simp [results, Try.results13, cFl, go_sem, r0, r1]) rfl ⟨by rw [HE.out, HV.out], ?_⟩
    exact (HB7.out.setCell (p := ⟨w.heap.size + 1, 0, none⟩) (by show w.heap.size ≤ w.heap.size + 1; omega) _).setCell (p := ⟨w.heap.size + 1, 1, none⟩) (by show w.heap.size ≤ w.heap.size + 1; omega) _

end Go.Proofs.Ytgbignkkieoffaa
