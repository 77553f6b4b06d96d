/-
  The reference's Begin REFUSES what is no word. No statement is proved here.
-/
import Derived.Test.YtmkcijecncdhpaaOw18
import Derived.Test.YtmkcijecncdhpaaOw13
namespace Go.Proofs.Ytmkcijecncdhpaa
open Go.RowKit
set_option linter.unusedVariables false
set_option linter.unusedSimpArgs false

theorem oddI_bad {zs : List Int} (h : zs.all (inB 16777215) = false) : (decide (oddI zs ≥ 0) : Bool) = true := by
  have h1 : oddI zs ≠ -1 := fun e => by rw [oddI_words e] at h; cases h
  simpa using oddI_pos h1
set_option maxHeartbeats 4000000 in
theorem rbegin_bad (A0 A1 : Option Addr) (n0 n1 : Nat) (z0 z1 : List Int) (st : Int) (l0 : z0.length ≤ 128) (l1 : z1.length ≤ 200) (q : begGood z0 z1 st = false) (w : World)
    (i0 : IntsAt w w.heap.size A0 z0) (i1 : IntsAt w w.heap.size A1 z1) :
    Calls Try.prog 34 #[.slice A0 z0.length n0, .slice A1 z1.length n1, .int .i64 st] w (BeginNo w 7) := by
  have H0 := rodd_any A0 n0 z0 (by unfold maxLen; omega) w.heap.size
  have H1 := rodd_any A1 n1 z1 (by unfold maxLen; omega) w.heap.size
  have H2 := Lib.hid (raddr_any st)
  have e0 : ¬ (128 : Int) < z0.length := by omega
  have e1 : ¬ (200 : Int) < z1.length := by omega
  have Q := Lib.hid q
  clear q
  by_cases b0 : z0.all (inB 16777215) = true
  · rw [oddI_none b0] at H0
    have H0' := Lib.hid H0
    by_cases b1 : z1.all (inB 16777215) = true
    · have b2 : inB 127 st = false := by have := Q.out; unfold begGood at this; rw [b0, b1] at this; simpa using this
      rw [oddI_none b1] at H1; rw [b2] at H2
      have H1' := Lib.hid H1
      clear b0 b1 b2 Q H0 H1
      go_enter Try.func34, Try.ntmps34
      go_wp2_with fail
      refine (H0'.out _ (i0.below (by go_grown))).mono ?_; rintro e w' ⟨rfl, rfl⟩
      go_wp2_with fail
      refine (H1'.out _ (i1.below (by go_grown))).mono ?_; rintro e w' ⟨rfl, rfl⟩
      go_wp2_with fail
      refine (H2.out _).mono ?_; rintro e w' ⟨rfl, rfl⟩
      go_wp2
      refine bodyPost_ret (v := .tuple #[zeroV, .int .i64 7]) (by simp [results, Try.results34, go_sem]) rfl ⟨rfl, by go_grown⟩
    · rw [Bool.not_eq_true] at b1
      have hp := oddI_bad b1
      generalize oddI z1 = k at *
      have hk : (0 : Int) ≤ k := by simpa using hp
      have H1' := Lib.hid H1
      clear b0 b1 Q H2 H0 H1 hp
      go_enter Try.func34, Try.ntmps34
      go_wp2_with fail
      refine (H0'.out _ (i0.below (by go_grown))).mono ?_; rintro e w' ⟨rfl, rfl⟩
      go_wp2_with fail
      refine (H1'.out _ (i1.below (by go_grown))).mono ?_; rintro e w' ⟨rfl, rfl⟩
      go_wp2
      refine bodyPost_ret (v := .tuple #[zeroV, .int .i64 7]) (by simp [results, Try.results34, go_sem]) rfl ⟨rfl, by go_grown⟩
  · rw [Bool.not_eq_true] at b0
    have hp := oddI_bad b0
    generalize oddI z0 = k at *
    have hk : (0 : Int) ≤ k := by simpa using hp
    have H0' := Lib.hid H0
    clear b0 Q H2 H1 H0 hp
    go_enter Try.func34, Try.ntmps34
    go_wp2_with fail
    refine (H0'.out _ (i0.below (by go_grown))).mono ?_; rintro e w' ⟨rfl, rfl⟩
    go_wp2
    refine bodyPost_ret (v := .tuple #[zeroV, .int .i64 7]) (by simp [results, Try.results34, go_sem]) rfl ⟨rfl, by go_grown⟩
end Go.Proofs.Ytmkcijecncdhpaa
