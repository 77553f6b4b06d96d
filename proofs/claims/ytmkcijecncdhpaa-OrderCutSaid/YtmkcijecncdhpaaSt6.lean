/-
  Run FOR EVERY STATE AND NUMBER; what runs do. No statement is proved here.
-/
import Derived.Test.YtmkcijecncdhpaaSt5
namespace Go.Proofs.Ytmkcijecncdhpaa
open Go.RowKit
set_option linter.unusedVariables false
set_option linter.unusedSimpArgs false

namespace MS
def check (s : MS) : Int := (checkV s.store s.tape s.printed s.taken s.time s.at_ s.done s.why).2.2
def zero : MS := ⟨[], [], [], 0, 0, 0, 0, 0⟩
theorem inB_iff {g z : Int} : inB g z = true ↔ 0 ≤ z ∧ z ≤ g := by unfold inB; simp
theorem ok_of_check {s : MS} (h : s.check = 0) : s.Ok := by
  unfold check checkV at h
  split at h
  · simp at h
  split at h
  · simp at h
  split at h
  · simp at h
  split at h
  · simp at h
  split at h
  · simp at h
  split at h
  · simp at h
  rename_i h1 h2 h3 h4 h5 h6
  simp only [not_not] at h2 h3 h4 h5 h6
  simp only [Bool.and_eq_true, inB_iff] at h5
  obtain ⟨p1, p2, p3, p4, p5⟩ := h5
  exact ⟨by omega, oddI_words h2, by omega, oddI_words h3, by omega, oddI_words h4, p1, p2, p3, p4, p5, h6⟩
theorem check_of_ok {s : MS} (h : s.Ok) : s.check = 0 := by
  unfold check checkV
  rw [if_neg (by have := h.n0; have := h.n1; have := h.n3; omega), if_neg (by simp [oddI_none h.w0]), if_neg (by simp [oddI_none h.w1]), if_neg (by simp [oddI_none h.w3]),
    if_neg (by simp only [not_not, Bool.and_eq_true, inB_iff]; exact ⟨h.taken, h.time, h.at_, h.done, h.why⟩), if_neg (by simp only [not_not]; exact h.place)]
def err (s : MS) (most : Int) : Int := errRun s.check most
def out (s : MS) (most : Int) : MS := if s.err most = 0 then run most.toNat s else zero
theorem err_zero {s : MS} {most : Int} (h : s.err most = 0) : s.Ok ∧ 0 ≤ most ∧ most ≤ 5000 := by
  unfold err errRun at h
  split at h
  · omega
  · rename_i h1
    split at h
    · rename_i h2
      rw [inB_iff] at h2
      exact ⟨ok_of_check (by omega), h2⟩
    · omega
theorem err_ok {s : MS} {most : Int} (h : s.Ok) (hm : 0 ≤ most ∧ most ≤ 5000) : s.err most = 0 := by
  unfold err errRun
  rw [check_of_ok h, if_neg (by simp), if_pos (inB_iff.2 hm)]
theorem out_ok {s : MS} {most : Int} (h : s.err most = 0) : s.out most = run most.toNat s := if_pos h
theorem out_bad {s : MS} {most : Int} (h : s.err most ≠ 0) : s.out most = zero := if_neg h
end MS
theorem errorOfRun_any (s : MS) (most : Int) (A0 A1 A3 : Option Addr) (n0 n1 n3 : Nat) (l0 : s.store.length ≤ maxLen) (l1 : s.tape.length ≤ maxLen) (l3 : s.printed.length ≤ maxLen) (W : World) (i0 : IntsAt W W.heap.size A0 s.store) (i1 : IntsAt W W.heap.size A1 s.tape) (i3 : IntsAt W W.heap.size A3 s.printed) :
    Calls Try.prog 44 #[stV A0 A1 A3 n0 n1 n3 s.store s.tape s.printed s.taken s.time s.at_ s.done s.why, .int .i64 most] W fun e W' => e = .returned (.int .i64 (s.err most)) ∧ Below W.heap.size W W' :=
  errorOfRun_of A0 A1 A3 n0 n1 n3 s.store s.tape s.printed s.taken s.time s.at_ s.done s.why most _ W i0 i1 i3 (Lib.hid fun w j0 j1 j3 => check_any A0 A1 A3 n0 n1 n3 _ _ _ _ _ _ _ _ l0 l1 l3 w j0 j1 j3)
set_option maxHeartbeats 2000000 in
theorem run_bad (s : MS) (most k : Int) (hk : k ≠ 0) (A0 A1 A3 : Option Addr) (n0 n1 n3 : Nat) (W : World) (i0 : IntsAt W W.heap.size A0 s.store) (i1 : IntsAt W W.heap.size A1 s.tape) (i3 : IntsAt W W.heap.size A3 s.printed)
    (KE : Hid (∀ w, IntsAt w w.heap.size A0 s.store → IntsAt w w.heap.size A1 s.tape → IntsAt w w.heap.size A3 s.printed → Calls Try.prog 44 #[stV A0 A1 A3 n0 n1 n3 s.store s.tape s.printed s.taken s.time s.at_ s.done s.why, .int .i64 most] w fun e W' => e = .returned (.int .i64 k) ∧ Below w.heap.size w W')) :
    Calls Try.prog 19 #[stV A0 A1 A3 n0 n1 n3 s.store s.tape s.printed s.taken s.time s.at_ s.done s.why, .int .i64 most] W (StateOut W MS.zero k) := by
  have H := Lib.hid (And.intro i0 (And.intro i1 i3))
  clear i0 i1 i3
  have q : (k != 0) = true := by simpa using hk
  have R0 := ruW_new W (.slice A0 s.store.length n0) (.slice A1 s.tape.length n1) (.slice A3 s.printed.length n3) s.taken s.time s.at_ s.done s.why 24
  go_enter Try.func19, Try.ntmps19
  go_wp2_with fail
  generalize (W.alloc (.cells #[.slice A0 s.store.length n0, .slice A1 s.tape.length n1, .int .i64 s.taken, .slice A3 s.printed.length n3, .int .i64 s.time, .int .i64 s.at_, .int .i64 s.done, .int .i64 s.why] 24)).alloc (.cells #[.slice none 0 0, .slice none 0 0, .int .i64 0, .slice none 0 0, .int .i64 0, .int .i64 0, .int .i64 0, .int .i64 0] 24) = V0 at *
  refine (KE.out V0 (ints_at H.out.1 R0.below) (ints_at H.out.2.1 R0.below) (ints_at H.out.2.2 R0.below)).mono ?_; rintro e V1 ⟨rfl, hb1⟩
  have R1 := R0.after hb1 R0.size
  obtain ⟨z0, z1, z2, z3, z4, z5, z6, z7⟩ := R1.res
  have f := R1.fr
  have f0 := f 0
  have f1 := f 1
  have f2 := f 2
  have f3 := f 3
  have f4 := f 4
  have f5 := f 5
  have f6 := f 6
  have f7 := f 7
  have HB := Lib.hid R1.below
  have hS := Lib.hid (StAt.put (v0 := .slice none 0 0) (v1 := .slice none 0 0) (v3 := .slice none 0 0) (a2 := 0) (a4 := 0) (a5 := 0) (a6 := 0) (a7 := 0) R1.res)
  clear R0 R1 hb1 f
  go_wp2
  obtain ⟨k0, k1, k2, k3, k4, k5, k6, k7⟩ := hS.out
  unfold setSt at k0 k1 k2 k3 k4 k5 k6 k7
  refine bodyPost_ret (v := .tuple #[.agg #[.slice none 0 0, .slice none 0 0, .int .i64 0, .slice none 0 0, .int .i64 0, .int .i64 0, .int .i64 0, .int .i64 0], .int .i64 k]) (by simp [results, Try.results19, k0, k1, k2, k3, k4, k5, k6, k7, go_sem]) rfl ?_
  exact ⟨none, none, none, 0, 0, 0, rfl, ListAt.nil _ _ _, ListAt.nil _ _ _, ListAt.nil _ _ _, HB.out.trans (setSt_below (U := V1) (b := W.heap.size + 1) (by omega))⟩
/-- **Run**, for every state and number. -/
theorem run_any (s : MS) (most : Int) (A0 A1 A3 : Option Addr) (n0 n1 n3 : Nat) (l0 : s.store.length ≤ maxLen) (l1 : s.tape.length ≤ maxLen) (l3 : s.printed.length ≤ maxLen) (W : World) (i0 : IntsAt W W.heap.size A0 s.store) (i1 : IntsAt W W.heap.size A1 s.tape) (i3 : IntsAt W W.heap.size A3 s.printed) :
    Calls Try.prog 19 #[stV A0 A1 A3 n0 n1 n3 s.store s.tape s.printed s.taken s.time s.at_ s.done s.why, .int .i64 most] W (StateOut W (s.out most) (s.err most)) := by
  have KE := fun w j0 j1 j3 => errorOfRun_any s most A0 A1 A3 n0 n1 n3 l0 l1 l3 w j0 j1 j3
  by_cases h : s.err most = 0
  · obtain ⟨ho, hm0, hm⟩ := MS.err_zero h
    obtain ⟨m, rfl⟩ := Int.eq_ofNat_of_zero_le hm0
    rw [MS.out_ok h, h]
    rw [h] at KE
    exact run_ok s ho m (by omega) A0 A1 A3 n0 n1 n3 W i0 i1 i3 (Lib.hid KE)
  · rw [MS.out_bad h]
    exact run_bad s most _ h A0 A1 A3 n0 n1 n3 W i0 i1 i3 (Lib.hid KE)
end Go.Proofs.Ytmkcijecncdhpaa
