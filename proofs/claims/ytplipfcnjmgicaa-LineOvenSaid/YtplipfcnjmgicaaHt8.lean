/-
  THE ERRORS OF AN OVEN. No statement is proved here.
-/
import Derived.Test.YtplipfcnjmgicaaHt2
import Derived.Test.YtplipfcnjmgicaaSafe2
namespace Go.Proofs.Ytplipfcnjmgicaa
open Go.RowKit
set_option linter.unusedVariables false
set_option linter.unusedSimpArgs false

def tB (x : Int) : Bool := decide (-500 ≤ x) && decide (x ≤ 1000)
def wB (x : Int) : Bool := decide (0 ≤ x) && decide (x ≤ 100)
theorem tB_t {x : Int} (h : tB x = true) : -500 ≤ x ∧ x ≤ 1000 := by simpa [tB] using h
theorem tB_f {x : Int} (h : tB x = false) : ¬ (-500 ≤ x ∧ x ≤ 1000) := fun h2 => Bool.noConfusion (h.symm.trans (show tB x = true by simp [tB, h2]))
theorem wB_t {x : Int} (h : wB x = true) : 0 ≤ x ∧ x ≤ 100 := by simpa [wB] using h
theorem wB_f {x : Int} (h : wB x = false) : ¬ (0 ≤ x ∧ x ≤ 100) := fun h2 => Bool.noConfusion (h.symm.trans (show wB x = true by simp [wB, h2]))
theorem below_two {w V : World} {a b : Obj} (h : Below ((w.alloc a).alloc b).heap.size ((w.alloc a).alloc b) V) : Below w.heap.size w V :=
  (((Below.refl _ w).alloc (Nat.le_refl _) a).alloc (by simp) b).trans (h.mono (by simp; omega))
/-- The error of a span of temperatures. -/
def spanErr (lo hi : Int) : Int := if (tB lo && tB hi) = true then (if hi < lo then 2 else 0) else 7
/-- The error of an oven, of temperatures, of minutes. -/
def ovenErr (o : Ov) (tl th mi : Int) : Int :=
  if (tB o.low && (tB o.high && (wB o.wl && (wB o.wh && (wB o.cl && wB o.ch))))) = true then
    if o.high < o.low ∨ o.wh < o.wl ∨ o.ch < o.cl then 2
    else if spanErr tl th = 0 then (if 0 ≤ mi ∧ mi ≤ 200 then 0 else 7) else spanErr tl th
  else 7
theorem ovenErr_ok {o : Ov} {tl th mi : Int} (h : ovenErr o tl th mi = 0) : o.Ok ∧ -500 ≤ tl ∧ th ≤ 1000 ∧ tl ≤ th ∧ 0 ≤ mi ∧ mi ≤ 200 := by
  unfold ovenErr spanErr at h
  by_cases h1 : (tB o.low && (tB o.high && (wB o.wl && (wB o.wh && (wB o.cl && wB o.ch))))) = true
  · rw [if_pos h1] at h
    simp only [Bool.and_eq_true] at h1
    obtain ⟨a1, a2, a3, a4, a5, a6⟩ := h1
    have b1 := tB_t a1
    have b2 := tB_t a2
    have b3 := wB_t a3
    have b4 := wB_t a4
    have b5 := wB_t a5
    have b6 := wB_t a6
    by_cases h2 : o.high < o.low ∨ o.wh < o.wl ∨ o.ch < o.cl
    · rw [if_pos h2] at h; cases h
    · rw [if_neg h2] at h
      by_cases h3 : (tB tl && tB th) = true
      · simp only [if_pos h3] at h
        simp only [Bool.and_eq_true] at h3
        have c1 := tB_t h3.1
        have c2 := tB_t h3.2
        by_cases h4 : th < tl
        · simp [if_pos h4] at h
        · simp only [if_neg h4, if_true] at h
          by_cases h5 : 0 ≤ mi ∧ mi ≤ 200
          · exact ⟨⟨b1, b2, by omega, by omega, by omega⟩, by omega, by omega, by omega, h5⟩
          · rw [if_neg h5] at h; cases h
      · simp only [if_neg h3] at h
        simp at h
  · rw [if_neg h1] at h; cases h
theorem ovenErr_of {o : Ov} {tl th mi : Int} (ok : o.Ok) (h1 : -500 ≤ tl) (h2 : th ≤ 1000) (h3 : tl ≤ th) (h4 : 0 ≤ mi ∧ mi ≤ 200) : ovenErr o tl th mi = 0 := by
  obtain ⟨l, h, lh, w, c⟩ := ok
  have e1 : (tB o.low && (tB o.high && (wB o.wl && (wB o.wh && (wB o.cl && wB o.ch))))) = true := by
    simp only [tB, wB, Bool.and_eq_true, decide_eq_true_eq]
    omega
  have e2 : (tB tl && tB th) = true := by
    simp only [tB, Bool.and_eq_true, decide_eq_true_eq]
    omega
  have e3 : spanErr tl th = 0 := by
    unfold spanErr
    rw [if_pos e2, if_neg (show ¬ th < tl by omega)]
  unfold ovenErr
  rw [if_pos e1, if_neg (show ¬ (o.high < o.low ∨ o.wh < o.wl ∨ o.ch < o.cl) by omega), if_pos e3, if_pos h4]

set_option maxRecDepth 100000 in
set_option maxHeartbeats 400000 in
theorem spanE_any (lo hi : Int) (w : World) : Calls Try.prog 69 #[.agg #[.int .i64 lo, .int .i64 hi]] w fun e w' => e = .returned (.int .i64 (spanErr lo hi)) ∧ Below w.heap.size w w' := by
  unfold spanErr
  cases h1 : tB lo with
  | false =>
    have H1 := Lib.hid (tB_f h1)
    clear h1
    go_enter Try.func69, Try.ntmps69
    go_wp2_with fail
    refine (temp_f lo H1.out _).mono ?_; rintro e w' ⟨rfl, rfl⟩
    go_wp2
    go_ret
    exact ⟨by simp, by go_grown⟩
  | true =>
    have H1 := Lib.hid (tB_t h1)
    clear h1
    cases h2 : tB hi with
    | false =>
      have H2 := Lib.hid (tB_f h2)
      clear h2
      go_enter Try.func69, Try.ntmps69
      go_wp2_with fail
      refine (temp_t lo H1.out _).mono ?_; rintro e w' ⟨rfl, rfl⟩
      go_wp2_with fail
      refine (temp_f hi H2.out _).mono ?_; rintro e w' ⟨rfl, rfl⟩
      go_wp2
      go_ret
      exact ⟨by simp, by go_grown⟩
    | true =>
      have H2 := Lib.hid (tB_t h2)
      clear h2
      by_cases h3 : hi < lo
      · have d3 : decide (hi < lo) = true := by simpa using h3
        rw [if_pos (by rfl), if_pos h3]
        clear h3
        go_enter Try.func69, Try.ntmps69
        go_wp2_with fail
        refine (temp_t lo H1.out _).mono ?_; rintro e w' ⟨rfl, rfl⟩
        go_wp2_with fail
        refine (temp_t hi H2.out _).mono ?_; rintro e w' ⟨rfl, rfl⟩
        go_wp2
        go_ret
        exact ⟨rfl, by go_grown⟩
      · have d3 : decide (hi < lo) = false := by simpa using h3
        rw [if_pos (by rfl), if_neg h3]
        clear h3
        go_enter Try.func69, Try.ntmps69
        go_wp2_with fail
        refine (temp_t lo H1.out _).mono ?_; rintro e w' ⟨rfl, rfl⟩
        go_wp2_with fail
        refine (temp_t hi H2.out _).mono ?_; rintro e w' ⟨rfl, rfl⟩
        go_wp2
        go_ret
        exact ⟨rfl, by go_grown⟩

set_option maxRecDepth 100000 in
set_option maxHeartbeats 400000 in
theorem rspanE_any (lo hi : Int) (w : World) : Calls Try.prog 73 #[.agg #[.int .i64 lo, .int .i64 hi]] w fun e w' => e = .returned (.int .i64 (spanErr lo hi)) ∧ Below w.heap.size w w' := by
  unfold spanErr
  cases h1 : tB lo with
  | false =>
    have H1 := Lib.hid (tB_f h1)
    clear h1
    go_enter Try.func73, Try.ntmps73
    go_wp2_with fail
    refine (rtemp_f lo H1.out _).mono ?_; rintro e w' ⟨rfl, rfl⟩
    go_wp2
    go_ret
    exact ⟨by simp, by go_grown⟩
  | true =>
    have H1 := Lib.hid (tB_t h1)
    clear h1
    cases h2 : tB hi with
    | false =>
      have H2 := Lib.hid (tB_f h2)
      clear h2
      go_enter Try.func73, Try.ntmps73
      go_wp2_with fail
      refine (rtemp_t lo H1.out _).mono ?_; rintro e w' ⟨rfl, rfl⟩
      go_wp2_with fail
      refine (rtemp_f hi H2.out _).mono ?_; rintro e w' ⟨rfl, rfl⟩
      go_wp2
      go_ret
      exact ⟨by simp, by go_grown⟩
    | true =>
      have H2 := Lib.hid (tB_t h2)
      clear h2
      by_cases h3 : hi < lo
      · have d3 : decide (hi < lo) = true := by simpa using h3
        rw [if_pos (by rfl), if_pos h3]
        clear h3
        go_enter Try.func73, Try.ntmps73
        go_wp2_with fail
        refine (rtemp_t lo H1.out _).mono ?_; rintro e w' ⟨rfl, rfl⟩
        go_wp2_with fail
        refine (rtemp_t hi H2.out _).mono ?_; rintro e w' ⟨rfl, rfl⟩
        go_wp2
        go_ret
        exact ⟨rfl, by go_grown⟩
      · have d3 : decide (hi < lo) = false := by simpa using h3
        rw [if_pos (by rfl), if_neg h3]
        clear h3
        go_enter Try.func73, Try.ntmps73
        go_wp2_with fail
        refine (rtemp_t lo H1.out _).mono ?_; rintro e w' ⟨rfl, rfl⟩
        go_wp2_with fail
        refine (rtemp_t hi H2.out _).mono ?_; rintro e w' ⟨rfl, rfl⟩
        go_wp2
        go_ret
        exact ⟨rfl, by go_grown⟩


set_option maxRecDepth 100000 in
set_option maxHeartbeats 1000000 in
theorem roven_range (o : Ov) (tl th mi : Int) (h : ¬ (tB o.low && (tB o.high && (wB o.wl && (wB o.wh && (wB o.cl && wB o.ch))))) = true) (w : World) :
    Calls Try.prog 78 #[ovV o, .agg #[.int .i64 tl, .int .i64 th], .int .i64 mi] w fun e w' => e = .returned (.int .i64 7) ∧ Below w.heap.size w w' := by
  cases h0 : tB o.low with
  | false =>
    have H0 := Lib.hid (tB_f h0)
    clear h h0
    go_enter Try.func78, Try.ntmps78
    go_wp2_with fail
    refine (rtemp_f o.low H0.out _).mono ?_; rintro e w' ⟨rfl, rfl⟩
    go_wp2
    go_ret
    exact ⟨rfl, by go_grown⟩
  | true =>
  have H0 := Lib.hid (tB_t h0)
  cases h1 : tB o.high with
  | false =>
    have H1 := Lib.hid (tB_f h1)
    clear h h1
    go_enter Try.func78, Try.ntmps78
    go_wp2_with fail
    refine (rtemp_t o.low H0.out _).mono ?_; rintro e w' ⟨rfl, rfl⟩
    go_wp2_with fail
    refine (rtemp_f o.high H1.out _).mono ?_; rintro e w' ⟨rfl, rfl⟩
    go_wp2
    go_ret
    exact ⟨rfl, by go_grown⟩
  | true =>
  have H1 := Lib.hid (tB_t h1)
  cases h2 : wB o.wl with
  | false =>
    have H2 := Lib.hid (wB_f h2)
    clear h h2
    go_enter Try.func78, Try.ntmps78
    go_wp2_with fail
    refine (rtemp_t o.low H0.out _).mono ?_; rintro e w' ⟨rfl, rfl⟩
    go_wp2_with fail
    refine (rtemp_t o.high H1.out _).mono ?_; rintro e w' ⟨rfl, rfl⟩
    go_wp2_with fail
    refine (rin_f o.wl 0 100 H2.out _).mono ?_; rintro e w' ⟨rfl, rfl⟩
    go_wp2
    go_ret
    exact ⟨rfl, by go_grown⟩
  | true =>
  have H2 := Lib.hid (wB_t h2)
  cases h3 : wB o.wh with
  | false =>
    have H3 := Lib.hid (wB_f h3)
    clear h h3
    go_enter Try.func78, Try.ntmps78
    go_wp2_with fail
    refine (rtemp_t o.low H0.out _).mono ?_; rintro e w' ⟨rfl, rfl⟩
    go_wp2_with fail
    refine (rtemp_t o.high H1.out _).mono ?_; rintro e w' ⟨rfl, rfl⟩
    go_wp2_with fail
    refine (rin_t o.wl 0 100 H2.out _).mono ?_; rintro e w' ⟨rfl, rfl⟩
    go_wp2_with fail
    refine (rin_f o.wh 0 100 H3.out _).mono ?_; rintro e w' ⟨rfl, rfl⟩
    go_wp2
    go_ret
    exact ⟨rfl, by go_grown⟩
  | true =>
  have H3 := Lib.hid (wB_t h3)
  cases h4 : wB o.cl with
  | false =>
    have H4 := Lib.hid (wB_f h4)
    clear h h4
    go_enter Try.func78, Try.ntmps78
    go_wp2_with fail
    refine (rtemp_t o.low H0.out _).mono ?_; rintro e w' ⟨rfl, rfl⟩
    go_wp2_with fail
    refine (rtemp_t o.high H1.out _).mono ?_; rintro e w' ⟨rfl, rfl⟩
    go_wp2_with fail
    refine (rin_t o.wl 0 100 H2.out _).mono ?_; rintro e w' ⟨rfl, rfl⟩
    go_wp2_with fail
    refine (rin_t o.wh 0 100 H3.out _).mono ?_; rintro e w' ⟨rfl, rfl⟩
    go_wp2_with fail
    refine (rin_f o.cl 0 100 H4.out _).mono ?_; rintro e w' ⟨rfl, rfl⟩
    go_wp2
    go_ret
    exact ⟨rfl, by go_grown⟩
  | true =>
  have H4 := Lib.hid (wB_t h4)
  cases h5 : wB o.ch with
  | false =>
    have H5 := Lib.hid (wB_f h5)
    clear h h5
    go_enter Try.func78, Try.ntmps78
    go_wp2_with fail
    refine (rtemp_t o.low H0.out _).mono ?_; rintro e w' ⟨rfl, rfl⟩
    go_wp2_with fail
    refine (rtemp_t o.high H1.out _).mono ?_; rintro e w' ⟨rfl, rfl⟩
    go_wp2_with fail
    refine (rin_t o.wl 0 100 H2.out _).mono ?_; rintro e w' ⟨rfl, rfl⟩
    go_wp2_with fail
    refine (rin_t o.wh 0 100 H3.out _).mono ?_; rintro e w' ⟨rfl, rfl⟩
    go_wp2_with fail
    refine (rin_t o.cl 0 100 H4.out _).mono ?_; rintro e w' ⟨rfl, rfl⟩
    go_wp2_with fail
    refine (rin_f o.ch 0 100 H5.out _).mono ?_; rintro e w' ⟨rfl, rfl⟩
    go_wp2
    go_ret
    exact ⟨rfl, by go_grown⟩
  | true =>
  have H5 := Lib.hid (wB_t h5)
  exact (h (by rw [h0, h1, h2, h3, h4, h5]; rfl)).elim

set_option maxRecDepth 100000 in
set_option maxHeartbeats 2000000 in
theorem roven_any (o : Ov) (tl th mi : Int) (w : World) :
    Calls Try.prog 78 #[ovV o, .agg #[.int .i64 tl, .int .i64 th], .int .i64 mi] w fun e w' => e = .returned (.int .i64 (ovenErr o tl th mi)) ∧ Below w.heap.size w w' := by
  unfold ovenErr
  by_cases hr : (tB o.low && (tB o.high && (wB o.wl && (wB o.wh && (wB o.cl && wB o.ch))))) = true
  · rw [if_pos hr]
    simp only [Bool.and_eq_true] at hr
    obtain ⟨a0, a1, a2, a3, a4, a5⟩ := hr
    have H0 := Lib.hid (tB_t a0)
    have H1 := Lib.hid (tB_t a1)
    have H2 := Lib.hid (wB_t a2)
    have H3 := Lib.hid (wB_t a3)
    have H4 := Lib.hid (wB_t a4)
    have H5 := Lib.hid (wB_t a5)
    clear a0 a1 a2 a3 a4 a5
    by_cases c0 : o.high < o.low
    · have d0 : decide (o.high < o.low) = true := by simpa using c0
      rw [if_pos (show o.high < o.low ∨ o.wh < o.wl ∨ o.ch < o.cl by omega)]
      clear c0
      go_enter Try.func78, Try.ntmps78
      go_wp2_with fail
      refine (rtemp_t o.low H0.out _).mono ?_; rintro e w' ⟨rfl, rfl⟩
      go_wp2_with fail
      refine (rtemp_t o.high H1.out _).mono ?_; rintro e w' ⟨rfl, rfl⟩
      go_wp2_with fail
      refine (rin_t o.wl 0 100 H2.out _).mono ?_; rintro e w' ⟨rfl, rfl⟩
      go_wp2_with fail
      refine (rin_t o.wh 0 100 H3.out _).mono ?_; rintro e w' ⟨rfl, rfl⟩
      go_wp2_with fail
      refine (rin_t o.cl 0 100 H4.out _).mono ?_; rintro e w' ⟨rfl, rfl⟩
      go_wp2_with fail
      refine (rin_t o.ch 0 100 H5.out _).mono ?_; rintro e w' ⟨rfl, rfl⟩
      go_wp2
      go_ret
      exact ⟨rfl, by go_grown⟩
    have d0 : decide (o.high < o.low) = false := by simpa using c0
    by_cases c1 : o.wh < o.wl
    · have d1 : decide (o.wh < o.wl) = true := by simpa using c1
      rw [if_pos (show o.high < o.low ∨ o.wh < o.wl ∨ o.ch < o.cl by omega)]
      clear c0 c1
      go_enter Try.func78, Try.ntmps78
      go_wp2_with fail
      refine (rtemp_t o.low H0.out _).mono ?_; rintro e w' ⟨rfl, rfl⟩
      go_wp2_with fail
      refine (rtemp_t o.high H1.out _).mono ?_; rintro e w' ⟨rfl, rfl⟩
      go_wp2_with fail
      refine (rin_t o.wl 0 100 H2.out _).mono ?_; rintro e w' ⟨rfl, rfl⟩
      go_wp2_with fail
      refine (rin_t o.wh 0 100 H3.out _).mono ?_; rintro e w' ⟨rfl, rfl⟩
      go_wp2_with fail
      refine (rin_t o.cl 0 100 H4.out _).mono ?_; rintro e w' ⟨rfl, rfl⟩
      go_wp2_with fail
      refine (rin_t o.ch 0 100 H5.out _).mono ?_; rintro e w' ⟨rfl, rfl⟩
      go_wp2
      go_ret
      exact ⟨rfl, by go_grown⟩
    have d1 : decide (o.wh < o.wl) = false := by simpa using c1
    by_cases c2 : o.ch < o.cl
    · have d2 : decide (o.ch < o.cl) = true := by simpa using c2
      rw [if_pos (show o.high < o.low ∨ o.wh < o.wl ∨ o.ch < o.cl by omega)]
      clear c0 c1 c2
      go_enter Try.func78, Try.ntmps78
      go_wp2_with fail
      refine (rtemp_t o.low H0.out _).mono ?_; rintro e w' ⟨rfl, rfl⟩
      go_wp2_with fail
      refine (rtemp_t o.high H1.out _).mono ?_; rintro e w' ⟨rfl, rfl⟩
      go_wp2_with fail
      refine (rin_t o.wl 0 100 H2.out _).mono ?_; rintro e w' ⟨rfl, rfl⟩
      go_wp2_with fail
      refine (rin_t o.wh 0 100 H3.out _).mono ?_; rintro e w' ⟨rfl, rfl⟩
      go_wp2_with fail
      refine (rin_t o.cl 0 100 H4.out _).mono ?_; rintro e w' ⟨rfl, rfl⟩
      go_wp2_with fail
      refine (rin_t o.ch 0 100 H5.out _).mono ?_; rintro e w' ⟨rfl, rfl⟩
      go_wp2
      go_ret
      exact ⟨rfl, by go_grown⟩
    have d2 : decide (o.ch < o.cl) = false := by simpa using c2
    rw [if_neg (show ¬ (o.high < o.low ∨ o.wh < o.wl ∨ o.ch < o.cl) by omega)]
    clear c0 c1 c2
    obtain ⟨s, hs⟩ : ∃ s, s = spanErr tl th := ⟨_, rfl⟩
    have KS := Lib.hid (fun w => rspanE_any tl th w)
    rw [← hs] at KS ⊢
    clear hs
    by_cases hs0 : s = 0
    · subst hs0
      rw [if_pos rfl]
      by_cases hm : 0 ≤ mi ∧ mi ≤ 200
      · rw [if_pos hm]
        have HM := Lib.hid hm
        clear hm
        go_enter Try.func78, Try.ntmps78
        go_wp2_with fail
        refine (rtemp_t o.low H0.out _).mono ?_; rintro e w' ⟨rfl, rfl⟩
        go_wp2_with fail
        refine (rtemp_t o.high H1.out _).mono ?_; rintro e w' ⟨rfl, rfl⟩
        go_wp2_with fail
        refine (rin_t o.wl 0 100 H2.out _).mono ?_; rintro e w' ⟨rfl, rfl⟩
        go_wp2_with fail
        refine (rin_t o.wh 0 100 H3.out _).mono ?_; rintro e w' ⟨rfl, rfl⟩
        go_wp2_with fail
        refine (rin_t o.cl 0 100 H4.out _).mono ?_; rintro e w' ⟨rfl, rfl⟩
        go_wp2_with fail
        refine (rin_t o.ch 0 100 H5.out _).mono ?_; rintro e w' ⟨rfl, rfl⟩
        go_wp2_with fail
        refine (KS.out _).mono ?_; rintro e V ⟨rfl, hV⟩
        go_wp2_with fail
        refine (rin_t mi 0 200 HM.out _).mono ?_; rintro e w' ⟨rfl, rfl⟩
        go_wp2
        go_ret
        exact ⟨rfl, below_two hV⟩
      · rw [if_neg hm]
        have HM := Lib.hid hm
        clear hm
        go_enter Try.func78, Try.ntmps78
        go_wp2_with fail
        refine (rtemp_t o.low H0.out _).mono ?_; rintro e w' ⟨rfl, rfl⟩
        go_wp2_with fail
        refine (rtemp_t o.high H1.out _).mono ?_; rintro e w' ⟨rfl, rfl⟩
        go_wp2_with fail
        refine (rin_t o.wl 0 100 H2.out _).mono ?_; rintro e w' ⟨rfl, rfl⟩
        go_wp2_with fail
        refine (rin_t o.wh 0 100 H3.out _).mono ?_; rintro e w' ⟨rfl, rfl⟩
        go_wp2_with fail
        refine (rin_t o.cl 0 100 H4.out _).mono ?_; rintro e w' ⟨rfl, rfl⟩
        go_wp2_with fail
        refine (rin_t o.ch 0 100 H5.out _).mono ?_; rintro e w' ⟨rfl, rfl⟩
        go_wp2_with fail
        refine (KS.out _).mono ?_; rintro e V ⟨rfl, hV⟩
        go_wp2_with fail
        refine (rin_f mi 0 200 HM.out _).mono ?_; rintro e w' ⟨rfl, rfl⟩
        go_wp2
        go_ret
        exact ⟨rfl, below_two hV⟩
    · rw [if_neg hs0]
      have hs1 : (s == 0) = false := by simpa using hs0
      have HS := Lib.hid hs0
      clear hs0
      go_enter Try.func78, Try.ntmps78
      go_wp2_with fail
      refine (rtemp_t o.low H0.out _).mono ?_; rintro e w' ⟨rfl, rfl⟩
      go_wp2_with fail
      refine (rtemp_t o.high H1.out _).mono ?_; rintro e w' ⟨rfl, rfl⟩
      go_wp2_with fail
      refine (rin_t o.wl 0 100 H2.out _).mono ?_; rintro e w' ⟨rfl, rfl⟩
      go_wp2_with fail
      refine (rin_t o.wh 0 100 H3.out _).mono ?_; rintro e w' ⟨rfl, rfl⟩
      go_wp2_with fail
      refine (rin_t o.cl 0 100 H4.out _).mono ?_; rintro e w' ⟨rfl, rfl⟩
      go_wp2_with fail
      refine (rin_t o.ch 0 100 H5.out _).mono ?_; rintro e w' ⟨rfl, rfl⟩
      go_wp2_with fail
      refine (KS.out _).mono ?_; rintro e V ⟨rfl, hV⟩
      go_wp2
      go_ret
      exact ⟨rfl, below_two hV⟩
  · rw [if_neg hr]
    exact roven_range o tl th mi hr w
end Go.Proofs.Ytplipfcnjmgicaa
