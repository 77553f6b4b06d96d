/-
  CONTRACT OF Check of kinds, of the reference. No statement is proved here.
-/
import Derived.Test.YtgbignkkieoffaaMg5
namespace Go.Proofs.Ytgbignkkieoffaa
open Go.RowKit Mg
set_option linter.unusedVariables false
set_option linter.unusedSimpArgs false

set_option maxHeartbeats 4000000 in
theorem rcheck_new (k : Kd) (A : Option Addr) (c : Nat) (hn : (inS 1 1000000 k.new && (inS 0 1000 k.lo && inS 0 1000 k.hi)) = false) (w : World) : Calls Try.prog 11 #[kdV k A c] w (RetInt w 7) := by
  by_cases h1 : inS 1 1000000 k.new = true
  · by_cases h2 : inS 0 1000 k.lo = true
    · have h3 : inS 0 1000 k.hi = false := by simpa [h1, h2] using hn
      have H1 := Lib.hid h1
      have H2 := Lib.hid h2
      have H3 := Lib.hid h3
      clear h1 h2 h3 hn
      go_enter Try.func11, Try.ntmps11
      go_wp2_with fail
      refine (rin_any k.new 1 1000000 _).mono ?_; rintro e w1 ⟨rfl, rfl⟩
      rw [H1.out]
      go_wp2_with fail
      refine (rin_any k.lo 0 1000 _).mono ?_; rintro e w1 ⟨rfl, rfl⟩
      rw [H2.out]
      go_wp2_with fail
      refine (rin_any k.hi 0 1000 _).mono ?_; rintro e w1 ⟨rfl, rfl⟩
      rw [H3.out]
      go_wp2
      go_ret
      exact ⟨rfl, by go_grown⟩
    · have H1 := Lib.hid h1
      have H2 := Lib.hid (show inS 0 1000 k.lo = false by simpa using h2)
      clear h1 h2 hn
      go_enter Try.func11, Try.ntmps11
      go_wp2_with fail
      refine (rin_any k.new 1 1000000 _).mono ?_; rintro e w1 ⟨rfl, rfl⟩
      rw [H1.out]
      go_wp2_with fail
      refine (rin_any k.lo 0 1000 _).mono ?_; rintro e w1 ⟨rfl, rfl⟩
      rw [H2.out]
      go_wp2
      go_ret
      exact ⟨rfl, by go_grown⟩
  · have H1 := Lib.hid (show inS 1 1000000 k.new = false by simpa using h1)
    clear h1 hn
    go_enter Try.func11, Try.ntmps11
    go_wp2_with fail
    refine (rin_any k.new 1 1000000 _).mono ?_; rintro e w1 ⟨rfl, rfl⟩
    rw [H1.out]
    go_wp2
    go_ret
    exact ⟨rfl, by go_grown⟩
set_option maxHeartbeats 4000000 in
theorem rcheck_wear (k : Kd) (A : Option Addr) (c : Nat) (hn : (inS 1 1000000 k.new && (inS 0 1000 k.lo && inS 0 1000 k.hi)) = true) (hw : ¬ k.lo ≤ k.hi) (w : World) : Calls Try.prog 11 #[kdV k A c] w (RetInt w 2) := by
  simp only [Bool.and_eq_true] at hn
  have H1 := Lib.hid hn.1
  have H2 := Lib.hid hn.2.1
  have H3 := Lib.hid hn.2.2
  clear hn
  go_enter Try.func11, Try.ntmps11
  go_wp2_with fail
  refine (rin_any k.new 1 1000000 _).mono ?_; rintro e w1 ⟨rfl, rfl⟩
  rw [H1.out]
  go_wp2_with fail
  refine (rin_any k.lo 0 1000 _).mono ?_; rintro e w1 ⟨rfl, rfl⟩
  rw [H2.out]
  go_wp2_with fail
  refine (rin_any k.hi 0 1000 _).mono ?_; rintro e w1 ⟨rfl, rfl⟩
  rw [H3.out]
  go_wp2
  go_ret
  exact ⟨rfl, by go_grown⟩
set_option maxHeartbeats 4000000 in
theorem rcheck_long (k : Kd) (A : Option Addr) (c : Nat) (hn : (inS 1 1000000 k.new && (inS 0 1000 k.lo && inS 0 1000 k.hi)) = true) (hw : k.lo ≤ k.hi) (hl : k.st.length ≤ maxLen) (hx : ¬ (1 ≤ k.st.length ∧ k.st.length ≤ 8)) (w : World) : Calls Try.prog 11 #[kdV k A c] w (RetInt w 3) := by
  simp only [Bool.and_eq_true] at hn
  have H1 := Lib.hid hn.1
  have H2 := Lib.hid hn.2.1
  have H3 := Lib.hid hn.2.2
  have H4 := Lib.hid (show inS 1 8 (k.st.length : Int) = false from inS_not.2 (by omega))
  unfold maxLen at hl
  clear hn hx
  go_enter Try.func11, Try.ntmps11
  go_wp2_with fail
  refine (rin_any k.new 1 1000000 _).mono ?_; rintro e w1 ⟨rfl, rfl⟩
  rw [H1.out]
  go_wp2_with fail
  refine (rin_any k.lo 0 1000 _).mono ?_; rintro e w1 ⟨rfl, rfl⟩
  rw [H2.out]
  go_wp2_with fail
  refine (rin_any k.hi 0 1000 _).mono ?_; rintro e w1 ⟨rfl, rfl⟩
  rw [H3.out]
  go_wp2_with fail
  refine (rin_any k.st.length 1 8 _).mono ?_; rintro e w1 ⟨rfl, rfl⟩
  rw [H4.out]
  go_wp2
  go_ret
  exact ⟨rfl, by go_grown⟩
theorem below_drewN {n k : Nat} {w W : World} (h : Below n w W) : Below n w (W.drewN k) := h.trans ⟨rfl, rfl, rfl, Nat.le_refl _, fun _ _ => rfl⟩
/-- What stands in the step's box. -/
structure SbW (U : World) (b : Nat) (s : VN) : Prop where
  e0 : U.cell? ⟨b, 0, none⟩ = some (.int .i64 s.1)
  e1 : U.cell? ⟨b, 1, none⟩ = some (.int .i64 s.2)
theorem sbW_new (w : World) (s : VN) (T : TypeId) : SbW (w.alloc (.cells #[.int .i64 s.1, .int .i64 s.2] T)) w.heap.size s := ⟨by simp [go_sem], by simp [go_sem]⟩
set_option maxHeartbeats 8000000 in
theorem rcheck_steps (k : Kd) (A : Option Addr) (c : Nat) (hn : (inS 1 1000000 k.new && (inS 0 1000 k.lo && inS 0 1000 k.hi)) = true) (hw : k.lo ≤ k.hi) (hx : 1 ≤ k.st.length ∧ k.st.length ≤ 8) (w : World) (hp : PairsAt w w.heap.size A k.st) :
    Calls Try.prog 11 #[kdV k A c] w (RetInt w (fe (stepErr k.st) k.st.length 0)) := by
  simp only [Bool.and_eq_true] at hn
  have H1 := Lib.hid hn.1
  have H2 := Lib.hid hn.2.1
  have H3 := Lib.hid hn.2.2
  have H4 := Lib.hid (show inS 1 8 (k.st.length : Int) = true from inS_iff.2 (by omega))
  have P0 := Lib.hid (kdW_new w k A c 26)
  have HP := Lib.hid hp
  clear hn hp
  go_enter Try.func11, Try.ntmps11
  go_wp2_with fail
  refine (rin_any k.new 1 1000000 _).mono ?_; rintro e w1 ⟨rfl, rfl⟩
  rw [H1.out]
  go_wp2_with fail
  refine (rin_any k.lo 0 1000 _).mono ?_; rintro e w1 ⟨rfl, rfl⟩
  rw [H2.out]
  go_wp2_with fail
  refine (rin_any k.hi 0 1000 _).mono ?_; rintro e w1 ⟨rfl, rfl⟩
  rw [H3.out]
  go_wp2_with fail
  refine (rin_any k.st.length 1 8 _).mono ?_; rintro e w1 ⟨rfl, rfl⟩
  rw [H4.out]
  go_wp2
  go_loopw [3] (fun i wr => ∃ j : Nat, j ≤ k.st.length ∧ i = .int .i64 j ∧ Hid (∀ m, m < j → stepErr k.st m = 0) ∧ KdW w k A c wr) (fun i _ => k.st.length - (intOf i).toNat)
  case atStart => exact ⟨0, by omega, rfl, Lib.hid (fun m hm => by omega), P0.out⟩
  case round =>
    obtain ⟨j, hj, rfl, HZ, P⟩ := hrel
    by_cases hlt : j < k.st.length
    · obtain ⟨ad, rfl, hab, d0, d1⟩ := (P.steps HP.out).at_ hlt
      have HF := Lib.hid (fun h => fe_at (f := stepErr k.st) hlt HZ.out h)
      have HNX : Hid (stepErr k.st j = 0 → ∀ m, m < j + 1 → stepErr k.st m = 0) := Lib.hid (fun hz m hm => by
        by_cases h : m < j
        · exact HZ.out m h
        · obtain rfl : m = j := by omega
          exact hz)
      have P1 := Lib.hid (P.after ((Below.refl _ _).alloc (Nat.le_refl _) (.cells #[.int .i64 (stG k.st j).1, .int .i64 (stG k.st j).2] 55)))
      have S1 := Lib.hid (sbW_new wr (stG k.st j) 55)
      have HS := Lib.hid (show wr.heap.size < (wr.alloc (.cells #[.int .i64 (stG k.st j).1, .int .i64 (stG k.st j).2] 55)).heap.size by simp)
      obtain ⟨_, c0, c1, c2, c3, hs⟩ := P
      have hdef : stepErr k.st j = if inS 0 1000 (stG k.st j).1 && inS 0 1000000 (stG k.st j).2 then
        (if (if j = 0 then decide ((stG k.st j).1 = 1000) else decide ((stG k.st j).1 < (stG k.st (j - 1)).1) && decide ((stG k.st (j - 1)).2 ≤ (stG k.st j).2)) then 0 else 2) else 7 := rfl
      by_cases h1 : inS 0 1000 (stG k.st j).1 = true
      · have H5 := Lib.hid h1
        by_cases h2 : inS 0 1000000 (stG k.st j).2 = true
        · have H6 := Lib.hid h2
          rw [h1, h2] at hdef
          have HD := Lib.hid hdef
          clear h1 h2 hdef
          go_wp2_with fail
          generalize (wr.alloc (.cells #[.int .i64 (stG k.st j).1, .int .i64 (stG k.st j).2] 55)) = U at *
          have S1' := S1.out
          obtain ⟨e0, e1⟩ := S1'
          clear c0 c1 c2 c3 d0 d1
          refine (rin_any _ 0 1000 _).mono ?_; rintro e w1 ⟨rfl, rfl⟩
          rw [H5.out]
          go_wp2_with fail
          refine (rin_any _ 0 1000000 _).mono ?_; rintro e w1 ⟨rfl, rfl⟩
          rw [H6.out]
          have P1' := P1.out
          obtain ⟨_, c0, c1, c2, c3, hs1⟩ := P1'
          rcases j with _ | j
          · have q0 : (((0 : Nat) : Int) == 0) = true := rfl
            by_cases h3 : (stG k.st 0).1 = 1000
            · have q1 : ((stG k.st 0).1 != 1000) = false := by simpa using h3
              have HN := Lib.hid (HNX.out (by rw [HD.out]; simp [h3]))
              clear h3
              go_wp2
              go_quiet (fail)
              go_wp2
              go_roundw
              case rel => exact ⟨1, by omega, rfl, HN, P1.out.after (below_drewN (Below.refl _ _))⟩
              case measure => simp [intOf]; omega
            · have q1 : ((stG k.st 0).1 != 1000) = true := by simpa using h3
              have HV : Hid (fe (stepErr k.st) k.st.length 0 = 2) := Lib.hid (by
                have hz : stepErr k.st 0 = 2 := by rw [HD.out]; simp [h3]
                rw [HF.out (by rw [hz]; decide), hz])
              clear h3
              go_wp2
              go_quiet (fail)
              go_wp2
              go_ret
              exact ⟨by rw [HV.out]; rfl, below_drewN P1.out.below⟩
          · have hj1 : j < k.st.length := by omega
            obtain ⟨ad2, ea, hab2, f0, f1⟩ := (P1.out.steps HP.out).at_ hj1
            cases ea
            have q0 : (((j + 1 : Nat) : Int) == 0) = false := by simp; omega
            have q0' : ((j : Int) + 1 == 0) = false := by simp; omega
            have HD' := Lib.hid (show stepErr k.st (j + 1) = if (decide ((stG k.st (j + 1)).1 < (stG k.st j).1) && decide ((stG k.st j).2 ≤ (stG k.st (j + 1)).2)) = true then 0 else 2 by rw [HD.out]; simp)
            by_cases h3 : (stG k.st (j + 1)).1 < (stG k.st j).1
            · have q1 : decide ((stG k.st j).1 ≤ (stG k.st (j + 1)).1) = false := by simpa using h3
              by_cases h4 : (stG k.st j).2 ≤ (stG k.st (j + 1)).2
              · have q2 : decide ((stG k.st (j + 1)).2 < (stG k.st j).2) = false := by simpa using h4
                have HN := Lib.hid (HNX.out (by rw [HD'.out]; simp [h3, h4]))
                clear h3 h4
                go_wp2
                go_quiet (fail)
                go_wp2
                go_roundw
                case rel => exact ⟨j + 1 + 1, by omega, by go_num, HN, P1.out.after (below_drewN (Below.refl _ _))⟩
                case measure => simp [intOf]; omega
              · have q2 : decide ((stG k.st (j + 1)).2 < (stG k.st j).2) = true := by simpa using h4
                have HV : Hid (fe (stepErr k.st) k.st.length 0 = 2) := Lib.hid (by
                  have hz : stepErr k.st (j + 1) = 2 := by rw [HD'.out]; simp [h4]
                  rw [HF.out (by rw [hz]; decide), hz])
                clear h3 h4
                go_wp2
                go_quiet (fail)
                go_wp2
                go_ret
                exact ⟨by rw [HV.out]; rfl, below_drewN P1.out.below⟩
            · have q1 : decide ((stG k.st j).1 ≤ (stG k.st (j + 1)).1) = true := by simpa using h3
              have HV : Hid (fe (stepErr k.st) k.st.length 0 = 2) := Lib.hid (by
                have hz : stepErr k.st (j + 1) = 2 := by rw [HD'.out]; simp [h3]
                rw [HF.out (by rw [hz]; decide), hz])
              clear h3
              go_wp2
              go_quiet (fail)
              go_wp2
              go_ret
              exact ⟨by rw [HV.out]; rfl, below_drewN P1.out.below⟩
        · have H6 := Lib.hid (show inS 0 1000000 (stG k.st j).2 = false by simpa using h2)
          have HV : Hid (fe (stepErr k.st) k.st.length 0 = 7) := Lib.hid (by
            have hz : stepErr k.st j = 7 := by rw [hdef]; simp [h2]
            rw [HF.out (by rw [hz]; decide), hz])
          clear h1 h2 hdef
          go_wp2_with fail
          generalize (wr.alloc (.cells #[.int .i64 (stG k.st j).1, .int .i64 (stG k.st j).2] 55)) = U at *
          have S1' := S1.out
          obtain ⟨e0, e1⟩ := S1'
          clear c0 c1 c2 c3 d0 d1
          refine (rin_any _ 0 1000 _).mono ?_; rintro e w1 ⟨rfl, rfl⟩
          rw [H5.out]
          go_wp2_with fail
          refine (rin_any _ 0 1000000 _).mono ?_; rintro e w1 ⟨rfl, rfl⟩
          rw [H6.out]
          go_wp2
          go_ret
          exact ⟨by rw [HV.out]; rfl, P1.out.below⟩
      · have H5 := Lib.hid (show inS 0 1000 (stG k.st j).1 = false by simpa using h1)
        have HV : Hid (fe (stepErr k.st) k.st.length 0 = 7) := Lib.hid (by
          have hz : stepErr k.st j = 7 := by rw [hdef]; simp [h1]
          rw [HF.out (by rw [hz]; decide), hz])
        clear h1 hdef
        go_wp2_with fail
        generalize (wr.alloc (.cells #[.int .i64 (stG k.st j).1, .int .i64 (stG k.st j).2] 55)) = U at *
        have S1' := S1.out
        obtain ⟨e0, e1⟩ := S1'
        clear c0 c1 c2 c3 d0 d1
        refine (rin_any _ 0 1000 _).mono ?_; rintro e w1 ⟨rfl, rfl⟩
        rw [H5.out]
        go_wp2
        go_ret
        exact ⟨by rw [HV.out]; rfl, P1.out.below⟩
    · obtain rfl : j = k.st.length := by omega
      have HV := Lib.hid (fe_none (f := stepErr k.st) HZ.out)
      have HB := Lib.hid P.below
      obtain ⟨_, c0, c1, c2, c3, hs⟩ := P
      go_wp2
      go_ret
      exact ⟨by rw [HV.out]; rfl, HB.out⟩
theorem rcheck_any (k : Kd) (A : Option Addr) (c : Nat) (w : World) (h : KindAt w A k) : Calls Try.prog 11 #[kdV k A c] w (RetInt w k.err) := by
  cases hn : (inS 1 1000000 k.new && (inS 0 1000 k.lo && inS 0 1000 k.hi)) with
  | false =>
    rw [show k.err = 7 by unfold Kd.err; rw [hn]; rfl]
    exact rcheck_new k A c hn w
  | true =>
    by_cases hw : k.lo ≤ k.hi
    · by_cases hx : 1 ≤ k.st.length ∧ k.st.length ≤ 8
      · rw [show k.err = fe (stepErr k.st) k.st.length 0 by unfold Kd.err; rw [hn, if_pos rfl, if_pos hw, if_pos hx]]
        exact rcheck_steps k A c hn hw hx w h.at_
      · rw [show k.err = 3 by unfold Kd.err; rw [hn, if_pos rfl, if_pos hw, if_neg hx]]
        exact rcheck_long k A c hn hw h.len hx w
    · rw [show k.err = 2 by unfold Kd.err; rw [hn, if_pos rfl, if_neg hw]]
      exact rcheck_wear k A c hn hw w
end Go.Proofs.Ytgbignkkieoffaa
