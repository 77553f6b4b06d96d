/-
  Begin, THE REFUSALS. No statement is proved here.
-/
import Derived.Test.YtmkcijecncdhpaaOw17
namespace Go.Proofs.Ytmkcijecncdhpaa
open Go.RowKit
set_option linter.unusedVariables false
set_option linter.unusedSimpArgs false

/-- Begin refuses. -/
def BeginNo (w : World) (k : Int) (e : Ending) (w' : World) : Prop :=
  e = .returned (.tuple #[zeroV, .int .i64 k]) ∧ Below w.heap.size w w'
/-- Both lists and the start are good. -/
def begGood (z0 z1 : List Int) (st : Int) : Bool := z0.all (inB 16777215) && z1.all (inB 16777215) && inB 127 st
set_option maxHeartbeats 2000000 in
theorem begin_long0 (A0 A1 : Option Addr) (n0 n1 : Nat) (z0 z1 : List Int) (st : Int) (l0 : z0.length ≤ maxLen) (l1 : z1.length ≤ maxLen) (h : 128 < z0.length) (w : World) :
    Calls Try.prog 17 #[.slice A0 z0.length n0, .slice A1 z1.length n1, .int .i64 st] w (BeginNo w 3) := by
  unfold maxLen at l0 l1
  have e0 : (128 : Int) < z0.length := by omega
  go_enter Try.func17, Try.ntmps17
  go_wp2
  refine bodyPost_ret (v := .tuple #[zeroV, .int .i64 3]) (by simp [results, Try.results17, go_sem]) rfl ⟨rfl, by go_grown⟩
set_option maxHeartbeats 2000000 in
theorem begin_long1 (A0 A1 : Option Addr) (n0 n1 : Nat) (z0 z1 : List Int) (st : Int) (l1 : z1.length ≤ maxLen) (h0 : z0.length ≤ 128) (h : 200 < z1.length) (w : World) :
    Calls Try.prog 17 #[.slice A0 z0.length n0, .slice A1 z1.length n1, .int .i64 st] w (BeginNo w 3) := by
  unfold maxLen at l1
  have e0 : ¬ (128 : Int) < z0.length := by omega
  have e1 : (200 : Int) < z1.length := by omega
  go_enter Try.func17, Try.ntmps17
  go_wp2
  refine bodyPost_ret (v := .tuple #[zeroV, .int .i64 3]) (by simp [results, Try.results17, go_sem]) rfl ⟨rfl, by go_grown⟩
set_option maxHeartbeats 2000000 in
theorem rbegin_long0 (A0 A1 : Option Addr) (n0 n1 : Nat) (z0 z1 : List Int) (st : Int) (l0 : z0.length ≤ maxLen) (l1 : z1.length ≤ maxLen) (h : 128 < z0.length) (w : World) :
    Calls Try.prog 34 #[.slice A0 z0.length n0, .slice A1 z1.length n1, .int .i64 st] w (BeginNo w 3) := by
  unfold maxLen at l0 l1
  have e0 : (128 : Int) < z0.length := by omega
  go_enter Try.func34, Try.ntmps34
  go_wp2
  refine bodyPost_ret (v := .tuple #[zeroV, .int .i64 3]) (by simp [results, Try.results34, go_sem]) rfl ⟨rfl, by go_grown⟩
set_option maxHeartbeats 2000000 in
theorem rbegin_long1 (A0 A1 : Option Addr) (n0 n1 : Nat) (z0 z1 : List Int) (st : Int) (l1 : z1.length ≤ maxLen) (h0 : z0.length ≤ 128) (h : 200 < z1.length) (w : World) :
    Calls Try.prog 34 #[.slice A0 z0.length n0, .slice A1 z1.length n1, .int .i64 st] w (BeginNo w 3) := by
  unfold maxLen at l1
  have e0 : ¬ (128 : Int) < z0.length := by omega
  have e1 : (200 : Int) < z1.length := by omega
  go_enter Try.func34, Try.ntmps34
  go_wp2
  refine bodyPost_ret (v := .tuple #[zeroV, .int .i64 3]) (by simp [results, Try.results34, go_sem]) rfl ⟨rfl, by go_grown⟩
theorem no_in {g x : Int} (h : inB g x = false) : inB g x = false := h
set_option maxHeartbeats 4000000 in
theorem begin_bad (A0 A1 : Option Addr) (n0 n1 : Nat) (z0 z1 : List Int) (st : Int) (l0 : z0.length ≤ 128) (l1 : z1.length ≤ 200) (q : begGood z0 z1 st = false) (w : World)
    (i0 : IntsAt w w.heap.size A0 z0) (i1 : IntsAt w w.heap.size A1 z1) :
    Calls Try.prog 17 #[.slice A0 z0.length n0, .slice A1 z1.length n1, .int .i64 st] w (BeginNo w 7) := by
  have H0 := Lib.hid (areWords_any A0 n0 z0 (by unfold maxLen; omega) w.heap.size)
  have H1 := Lib.hid (areWords_any A1 n1 z1 (by unfold maxLen; omega) w.heap.size)
  have H2 := Lib.hid (areAddr_1 st)
  have e0 : ¬ (128 : Int) < z0.length := by omega
  have e1 : ¬ (200 : Int) < z1.length := by omega
  have Q := Lib.hid q
  clear q
  by_cases b0 : z0.all (inB 16777215) = true
  · by_cases b1 : z1.all (inB 16777215) = true
    · have b2 : inB 127 st = false := by have := Q.out; unfold begGood at this; rw [b0, b1] at this; simpa using this
      rw [b0] at H0; rw [b1] at H1; rw [b2] at H2
      clear b0 b1 b2 Q
      go_enter Try.func17, Try.ntmps17
      go_wp2_with fail
      refine (H0.out _ (i0.below (by go_grown))).mono ?_; rintro e w' ⟨rfl, rfl⟩
      go_wp2_with fail
      refine (H1.out _ (i1.below (by go_grown))).mono ?_; rintro e w' ⟨rfl, rfl⟩
      go_wp2_with fail
      refine (H2.out _ _ _ _ (by simp [go_sem])).mono ?_; rintro e w' ⟨rfl, rfl⟩
      go_wp2
      refine bodyPost_ret (v := .tuple #[zeroV, .int .i64 7]) (by simp [results, Try.results17, go_sem]) rfl ⟨rfl, by go_grown⟩
    · rw [Bool.not_eq_true] at b1
      rw [b0] at H0; rw [b1] at H1
      clear b0 b1 Q H2
      go_enter Try.func17, Try.ntmps17
      go_wp2_with fail
      refine (H0.out _ (i0.below (by go_grown))).mono ?_; rintro e w' ⟨rfl, rfl⟩
      go_wp2_with fail
      refine (H1.out _ (i1.below (by go_grown))).mono ?_; rintro e w' ⟨rfl, rfl⟩
      go_wp2
      refine bodyPost_ret (v := .tuple #[zeroV, .int .i64 7]) (by simp [results, Try.results17, go_sem]) rfl ⟨rfl, by go_grown⟩
  · rw [Bool.not_eq_true] at b0
    rw [b0] at H0
    clear b0 Q H2 H1
    go_enter Try.func17, Try.ntmps17
    go_wp2_with fail
    refine (H0.out _ (i0.below (by go_grown))).mono ?_; rintro e w' ⟨rfl, rfl⟩
    go_wp2
    refine bodyPost_ret (v := .tuple #[zeroV, .int .i64 7]) (by simp [results, Try.results17, go_sem]) rfl ⟨rfl, by go_grown⟩
end Go.Proofs.Ytmkcijecncdhpaa
