/-
  CONTRACTS OF Check of kinds, of the program. No statement is proved here.
-/
import Derived.Test.YtgbignkkieoffaaMg2
namespace Go.Proofs.Ytgbignkkieoffaa
open Go.RowKit Mg
set_option linter.unusedVariables false
set_option linter.unusedSimpArgs false

/-- The error of a span of numbers up to a greatest one. -/
def spanErr (g lo hi : Int) : Int := if inS 0 g lo && inS 0 g hi then (if lo ≤ hi then 0 else 2) else 7
theorem span_any (g lo hi : Int) (w : World) : Calls Try.prog 26 #[.agg #[.int .i64 lo, .int .i64 hi], .int .i64 g] w fun e w' => e = .returned (.int .i64 (spanErr g lo hi)) ∧ Below w.heap.size w w' := by
  by_cases h : (inS 0 g lo && inS 0 g hi) = true
  · have N := Lib.hid (show numErr 0 g [lo, hi] = 0 by rw [numErr_2, if_pos h])
    by_cases h2 : lo ≤ hi
    · have HV := Lib.hid (show spanErr g lo hi = 0 by unfold spanErr; rw [if_pos h, if_pos h2])
      clear h
      go_enter Try.func26, Try.ntmps26
      go_wp2_with fail
      refine (numbers_2 0 g lo hi _ _ (by simp [go_sem]) (by simp [go_sem])).mono ?_; rintro e w1 ⟨rfl, rfl⟩
      rw [N.out]
      go_wp2
      go_ret
      exact ⟨by rw [HV.out]; rfl, by go_grown⟩
    · have HV := Lib.hid (show spanErr g lo hi = 2 by unfold spanErr; rw [if_pos h, if_neg h2])
      clear h
      go_enter Try.func26, Try.ntmps26
      go_wp2_with fail
      refine (numbers_2 0 g lo hi _ _ (by simp [go_sem]) (by simp [go_sem])).mono ?_; rintro e w1 ⟨rfl, rfl⟩
      rw [N.out]
      go_wp2
      go_ret
      exact ⟨by rw [HV.out]; rfl, by go_grown⟩
  · have N := Lib.hid (show numErr 0 g [lo, hi] = 7 by rw [numErr_2, if_neg h])
    have HV := Lib.hid (show spanErr g lo hi = 7 by unfold spanErr; rw [if_neg h])
    clear h
    go_enter Try.func26, Try.ntmps26
    go_wp2_with fail
    refine (numbers_2 0 g lo hi _ _ (by simp [go_sem]) (by simp [go_sem])).mono ?_; rintro e w1 ⟨rfl, rfl⟩
    rw [N.out]
    go_wp2
    go_ret
    exact ⟨by rw [HV.out]; rfl, by go_grown⟩

set_option maxHeartbeats 4000000 in
theorem step_any (A : Option Addr) (c : Nat) (st : List VN) (hl : st.length ≤ maxLen) (i : Nat) (hi : i < st.length) (w : World) (h : PairsAt w w.heap.size A st) :
    Calls Try.prog 27 #[.slice A st.length c, .int .i64 i] w fun e w' => e = .returned (.int .i64 (stepErr st i)) ∧ Below w.heap.size w w' := by
  obtain ⟨ad, rfl, hlb, c0, c1⟩ := h.at_ hi
  rcases i with _ | i
  · have hd : stepErr st 0 = if inS 0 1000 (stG st 0).1 && inS 0 1000000 (stG st 0).2 then (if decide ((stG st 0).1 = 1000) then 0 else 2) else 7 := by simp [stepErr]
    replace c0 : w.cell? ad = some (.int .i64 (stG st 0).1) := by simpa [Addr.add] using c0
    replace c1 : w.cell? ⟨ad.block, ad.off + 1, none⟩ = some (.int .i64 (stG st 0).2) := by simpa [Addr.add] using c1
    generalize stepErr st 0 = r at *
    generalize stG st 0 = s at *
    obtain ⟨v, n⟩ := s
    simp only at hd c0 c1
    unfold maxLen at hl
    by_cases h1 : inS 0 1000 v = true
    · have N1 := Lib.hid (show numErr 0 1000 [v] = 0 by rw [numErr_1, if_pos h1])
      by_cases h2 : inS 0 1000000 n = true
      · have N2 := Lib.hid (show numErr 0 1000000 [n] = 0 by rw [numErr_1, if_pos h2])
        rw [h1, h2] at hd
        clear h1 h2
        by_cases h3 : v = 1000
        · have HV := Lib.hid (show r = 0 by rw [hd]; simp [h3])
          have q : (v == 1000) = true := by simpa using h3
          clear hd h3 h
          go_enter Try.func27, Try.ntmps27
          go_wp2_with fail
          refine (numbers_1 0 1000 v _ _ (by simp [go_sem])).mono ?_; rintro e w1 ⟨rfl, rfl⟩
          rw [N1.out]
          go_wp2_with fail
          refine (numbers_1 0 1000000 n _ _ (by simp [go_sem])).mono ?_; rintro e w1 ⟨rfl, rfl⟩
          rw [N2.out]
          go_wp2
          go_ret
          exact ⟨by rw [HV.out]; rfl, by go_grown⟩
        · have HV := Lib.hid (show r = 2 by rw [hd]; simp [h3])
          have q : (v == 1000) = false := by simpa using h3
          clear hd h3 h
          go_enter Try.func27, Try.ntmps27
          go_wp2_with fail
          refine (numbers_1 0 1000 v _ _ (by simp [go_sem])).mono ?_; rintro e w1 ⟨rfl, rfl⟩
          rw [N1.out]
          go_wp2_with fail
          refine (numbers_1 0 1000000 n _ _ (by simp [go_sem])).mono ?_; rintro e w1 ⟨rfl, rfl⟩
          rw [N2.out]
          go_wp2
          go_ret
          exact ⟨by rw [HV.out]; rfl, by go_grown⟩
      · have N2 := Lib.hid (show numErr 0 1000000 [n] = 7 by rw [numErr_1, if_neg h2])
        have HV := Lib.hid (show r = 7 by rw [hd]; simp [h2])
        clear hd h1 h2 h
        go_enter Try.func27, Try.ntmps27
        go_wp2_with fail
        refine (numbers_1 0 1000 v _ _ (by simp [go_sem])).mono ?_; rintro e w1 ⟨rfl, rfl⟩
        rw [N1.out]
        go_wp2_with fail
        refine (numbers_1 0 1000000 n _ _ (by simp [go_sem])).mono ?_; rintro e w1 ⟨rfl, rfl⟩
        rw [N2.out]
        go_wp2
        go_ret
        exact ⟨by rw [HV.out]; rfl, by go_grown⟩
    · have N1 := Lib.hid (show numErr 0 1000 [v] = 7 by rw [numErr_1, if_neg h1])
      have HV := Lib.hid (show r = 7 by rw [hd]; simp [h1])
      clear hd h1 h
      go_enter Try.func27, Try.ntmps27
      go_wp2_with fail
      refine (numbers_1 0 1000 v _ _ (by simp [go_sem])).mono ?_; rintro e w1 ⟨rfl, rfl⟩
      rw [N1.out]
      go_wp2
      go_ret
      exact ⟨by rw [HV.out]; rfl, by go_grown⟩
  · obtain ⟨ad', e', _, d0, d1⟩ := h.at_ (show i < st.length by omega)
    cases e'
    have hd : stepErr st (i + 1) = if inS 0 1000 (stG st (i + 1)).1 && inS 0 1000000 (stG st (i + 1)).2 then (if decide ((stG st (i + 1)).1 < (stG st i).1) && decide ((stG st i).2 ≤ (stG st (i + 1)).2) then 0 else 2) else 7 := by simp [stepErr]
    generalize stepErr st (i + 1) = r at *
    generalize stG st (i + 1) = s at *
    generalize stG st i = p at *
    obtain ⟨v, n⟩ := s
    obtain ⟨pv, pn⟩ := p
    simp only at hd c0 c1 d0 d1
    unfold maxLen at hl
    have hi2 : i < st.length := by omega
    by_cases h1 : inS 0 1000 v = true
    · have N1 := Lib.hid (show numErr 0 1000 [v] = 0 by rw [numErr_1, if_pos h1])
      by_cases h2 : inS 0 1000000 n = true
      · have N2 := Lib.hid (show numErr 0 1000000 [n] = 0 by rw [numErr_1, if_pos h2])
        rw [h1, h2] at hd
        clear h1 h2
        have tail : ∀ (b : Bool), (decide (v < pv) && decide (pn ≤ n)) = b → r = (if b then 0 else 2) := fun b hb => by rw [hd, hb]; simp
        clear hd
        by_cases h3 : v < pv
        · by_cases h4 : pn ≤ n
          · have HV := Lib.hid (tail true (by simp [h3, h4]))
            clear tail h
            go_enter Try.func27, Try.ntmps27
            go_wp2_with fail
            refine (numbers_1 0 1000 v _ _ (by simp [go_sem])).mono ?_; rintro e w1 ⟨rfl, rfl⟩
            rw [N1.out]
            go_wp2_with fail
            refine (numbers_1 0 1000000 n _ _ (by simp [go_sem])).mono ?_; rintro e w1 ⟨rfl, rfl⟩
            rw [N2.out]
            generalize hW : (((w.alloc (.cells #[.int .i64 v, .int .i64 n] 55)).alloc (.cells #[.int .i64 v] 3)).alloc (.cells #[.int .i64 n] 3)) = V
            have bV : Below w.heap.size w V := by rw [← hW]; clear hW; go_grown
            have b0 : V.cell? ⟨w.heap.size, 0, none⟩ = some (.int .i64 v) := by rw [← hW]; clear hW; simp [go_sem]
            have b1 : V.cell? ⟨w.heap.size, 1, none⟩ = some (.int .i64 n) := by rw [← hW]; clear hW; simp [go_sem]
            have e0 := (bV.cell (p := ad.add (i * 2)) (by rw [add_block]; exact hlb)).trans d0
            have e1 := (bV.cell (p := ⟨(ad.add (i * 2)).block, (ad.add (i * 2)).off + 1, none⟩) (by show (ad.add (i * 2)).block < _; rw [add_block]; exact hlb)).trans d1
            have hs : w.heap.size < V.heap.size := by rw [← hW]; clear hW; simp [go_sem] <;> omega
            clear hW c0 c1 d0 d1
            go_wp2
            all_goals first | (exfalso; omega) | skip
            go_ret
            exact ⟨by rw [HV.out]; rfl, bV.alloc (Nat.le_of_lt hs) _⟩
          · have HV := Lib.hid (tail false (by simp [h4]))
            have q4 : decide (pn ≤ n) = false := by simpa using h4
            clear tail h h4
            go_enter Try.func27, Try.ntmps27
            go_wp2_with fail
            refine (numbers_1 0 1000 v _ _ (by simp [go_sem])).mono ?_; rintro e w1 ⟨rfl, rfl⟩
            rw [N1.out]
            go_wp2_with fail
            refine (numbers_1 0 1000000 n _ _ (by simp [go_sem])).mono ?_; rintro e w1 ⟨rfl, rfl⟩
            rw [N2.out]
            generalize hW : (((w.alloc (.cells #[.int .i64 v, .int .i64 n] 55)).alloc (.cells #[.int .i64 v] 3)).alloc (.cells #[.int .i64 n] 3)) = V
            have bV : Below w.heap.size w V := by rw [← hW]; clear hW; go_grown
            have b0 : V.cell? ⟨w.heap.size, 0, none⟩ = some (.int .i64 v) := by rw [← hW]; clear hW; simp [go_sem]
            have b1 : V.cell? ⟨w.heap.size, 1, none⟩ = some (.int .i64 n) := by rw [← hW]; clear hW; simp [go_sem]
            have e0 := (bV.cell (p := ad.add (i * 2)) (by rw [add_block]; exact hlb)).trans d0
            have e1 := (bV.cell (p := ⟨(ad.add (i * 2)).block, (ad.add (i * 2)).off + 1, none⟩) (by show (ad.add (i * 2)).block < _; rw [add_block]; exact hlb)).trans d1
            have hs : w.heap.size < V.heap.size := by rw [← hW]; clear hW; simp [go_sem] <;> omega
            clear hW c0 c1 d0 d1
            go_wp2
            all_goals first | (exfalso; omega) | skip
            go_ret
            exact ⟨by rw [HV.out]; rfl, bV.alloc (Nat.le_of_lt hs) _⟩
        · have HV := Lib.hid (tail false (by simp [h3]))
          clear tail h
          go_enter Try.func27, Try.ntmps27
          go_wp2_with fail
          refine (numbers_1 0 1000 v _ _ (by simp [go_sem])).mono ?_; rintro e w1 ⟨rfl, rfl⟩
          rw [N1.out]
          go_wp2_with fail
          refine (numbers_1 0 1000000 n _ _ (by simp [go_sem])).mono ?_; rintro e w1 ⟨rfl, rfl⟩
          rw [N2.out]
          generalize hW : (((w.alloc (.cells #[.int .i64 v, .int .i64 n] 55)).alloc (.cells #[.int .i64 v] 3)).alloc (.cells #[.int .i64 n] 3)) = V
          have bV : Below w.heap.size w V := by rw [← hW]; clear hW; go_grown
          have b0 : V.cell? ⟨w.heap.size, 0, none⟩ = some (.int .i64 v) := by rw [← hW]; clear hW; simp [go_sem]
          have b1 : V.cell? ⟨w.heap.size, 1, none⟩ = some (.int .i64 n) := by rw [← hW]; clear hW; simp [go_sem]
          have e0 := (bV.cell (p := ad.add (i * 2)) (by rw [add_block]; exact hlb)).trans d0
          have e1 := (bV.cell (p := ⟨(ad.add (i * 2)).block, (ad.add (i * 2)).off + 1, none⟩) (by show (ad.add (i * 2)).block < _; rw [add_block]; exact hlb)).trans d1
          have hs : w.heap.size < V.heap.size := by rw [← hW]; clear hW; simp [go_sem] <;> omega
          clear hW c0 c1 d0 d1
          go_wp2
          go_ret
          exact ⟨by rw [HV.out]; rfl, bV.alloc (Nat.le_of_lt hs) _⟩
      · have N2 := Lib.hid (show numErr 0 1000000 [n] = 7 by rw [numErr_1, if_neg h2])
        have HV := Lib.hid (show r = 7 by rw [hd]; simp [h2])
        clear hd h1 h2 h
        go_enter Try.func27, Try.ntmps27
        go_wp2_with fail
        refine (numbers_1 0 1000 v _ _ (by simp [go_sem])).mono ?_; rintro e w1 ⟨rfl, rfl⟩
        rw [N1.out]
        go_wp2_with fail
        refine (numbers_1 0 1000000 n _ _ (by simp [go_sem])).mono ?_; rintro e w1 ⟨rfl, rfl⟩
        rw [N2.out]
        go_wp2
        go_ret
        exact ⟨by rw [HV.out]; rfl, by go_grown⟩
    · have N1 := Lib.hid (show numErr 0 1000 [v] = 7 by rw [numErr_1, if_neg h1])
      have HV := Lib.hid (show r = 7 by rw [hd]; simp [h1])
      clear hd h1 h
      go_enter Try.func27, Try.ntmps27
      go_wp2_with fail
      refine (numbers_1 0 1000 v _ _ (by simp [go_sem])).mono ?_; rintro e w1 ⟨rfl, rfl⟩
      rw [N1.out]
      go_wp2
      go_ret
      exact ⟨by rw [HV.out]; rfl, by go_grown⟩
end Go.Proofs.Ytgbignkkieoffaa
