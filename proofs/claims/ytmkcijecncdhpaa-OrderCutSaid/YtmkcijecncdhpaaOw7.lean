/-
  CONTRACT OF the reference's when. No statement is proved here.
-/
import Derived.Test.YtmkcijecncdhpaaOw6
namespace Go.Proofs.Ytmkcijecncdhpaa
open Go.RowKit
set_option linter.unusedVariables false
set_option linter.unusedSimpArgs false

def WhenIs (w : World) (a u : Int) (e : Ending) (w' : World) : Prop := e = .returned (.tuple #[.int .i64 a, .int .i64 u]) ∧ Below w.heap.size w w'
theorem aft_rng {t a : Int} (h : 0 ≤ t ∧ t ≤ 1999999000) : 0 ≤ aft t a ∧ aft t a ≤ t + 16 := by have := aft_bd t a; omega

set_option maxHeartbeats 1000000 in
theorem rwhen_0 (f o n t : Int) (b : Bool) (hf : 0 ≤ f ∧ f ≤ 127) (ho : 0 ≤ o ∧ o ≤ 127) (hn : 0 ≤ n ∧ n ≤ 127) (ht : 0 ≤ t ∧ t ≤ 1000000100) (w : World) :
    Calls Try.prog 57 #[ordV 0 f o n, .int .i64 t, .bool b] w (WhenIs w (atO 0 o n b) (untilO 0 f o n t b)) := by
  have hu : untilO 0 f o n t b = aft (aft (aft t f) o) n := by simp [untilO, atO, waitsO, lastC]
  have ha : atO 0 o n b = n := by simp [atO]
  rw [hu, ha]
  obtain ⟨T1, hT1⟩ : ∃ T, T = aft (t) f := ⟨_, rfl⟩
  have hr1 := aft_rng (t := t) (a := f) (by omega)
  rw [← hT1] at hr1
  have K1 := rafter_any (t) f (by omega) hf
  rw [← hT1] at K1
  have H1 := Lib.hid K1
  have E1 := Lib.hid hT1
  clear hT1 K1
  obtain ⟨T2, hT2⟩ : ∃ T, T = aft (T1) o := ⟨_, rfl⟩
  have hr2 := aft_rng (t := T1) (a := o) (by omega)
  rw [← hT2] at hr2
  have K2 := rafter_any (T1) o (by omega) ho
  rw [← hT2] at K2
  have H2 := Lib.hid K2
  have E2 := Lib.hid hT2
  clear hT2 K2
  have K3 := Lib.hid (rafter_any T2 n (by omega) hn)
  obtain ⟨hr1a, hr1b⟩ := hr1
  obtain ⟨hr2a, hr2b⟩ := hr2
  have R : Hid (aft (aft t f) o = T2) := Lib.hid (by rw [E2.out, E1.out])
  rw [R.out]
  clear hu ha
  go_enter Try.func57, Try.ntmps57
  go_wp2_with fail
  refine (H1.out _).mono ?_; rintro e w' ⟨rfl, rfl⟩
  go_wp2_with fail
  refine (H2.out _).mono ?_; rintro e w' ⟨rfl, rfl⟩
  go_wp2_with fail
  refine (K3.out _).mono ?_; rintro e w' ⟨rfl, rfl⟩
  go_wp2
  go_ret2
  exact ⟨rfl, by go_grown⟩
set_option maxHeartbeats 1000000 in
theorem rwhen_1 (f o n t : Int) (b : Bool) (hf : 0 ≤ f ∧ f ≤ 127) (ho : 0 ≤ o ∧ o ≤ 127) (hn : 0 ≤ n ∧ n ≤ 127) (ht : 0 ≤ t ∧ t ≤ 1000000100) (w : World) :
    Calls Try.prog 57 #[ordV 1 f o n, .int .i64 t, .bool b] w (WhenIs w (atO 1 o n b) (untilO 1 f o n t b)) := by
  have hu : untilO 1 f o n t b = aft (aft (aft t f) o) n := by simp [untilO, atO, waitsO, lastC]
  have ha : atO 1 o n b = n := by simp [atO]
  rw [hu, ha]
  obtain ⟨T1, hT1⟩ : ∃ T, T = aft (t) f := ⟨_, rfl⟩
  have hr1 := aft_rng (t := t) (a := f) (by omega)
  rw [← hT1] at hr1
  have K1 := rafter_any (t) f (by omega) hf
  rw [← hT1] at K1
  have H1 := Lib.hid K1
  have E1 := Lib.hid hT1
  clear hT1 K1
  obtain ⟨T2, hT2⟩ : ∃ T, T = aft (T1) o := ⟨_, rfl⟩
  have hr2 := aft_rng (t := T1) (a := o) (by omega)
  rw [← hT2] at hr2
  have K2 := rafter_any (T1) o (by omega) ho
  rw [← hT2] at K2
  have H2 := Lib.hid K2
  have E2 := Lib.hid hT2
  clear hT2 K2
  have K3 := Lib.hid (rafter_any T2 n (by omega) hn)
  obtain ⟨hr1a, hr1b⟩ := hr1
  obtain ⟨hr2a, hr2b⟩ := hr2
  have R : Hid (aft (aft t f) o = T2) := Lib.hid (by rw [E2.out, E1.out])
  rw [R.out]
  clear hu ha
  go_enter Try.func57, Try.ntmps57
  go_wp2_with fail
  refine (H1.out _).mono ?_; rintro e w' ⟨rfl, rfl⟩
  go_wp2_with fail
  refine (H2.out _).mono ?_; rintro e w' ⟨rfl, rfl⟩
  go_wp2_with fail
  refine (K3.out _).mono ?_; rintro e w' ⟨rfl, rfl⟩
  go_wp2
  go_ret2
  exact ⟨rfl, by go_grown⟩
set_option maxHeartbeats 1000000 in
theorem rwhen_2 (f o n t : Int) (b : Bool) (hf : 0 ≤ f ∧ f ≤ 127) (ho : 0 ≤ o ∧ o ≤ 127) (hn : 0 ≤ n ∧ n ≤ 127) (ht : 0 ≤ t ∧ t ≤ 1000000100) (w : World) :
    Calls Try.prog 57 #[ordV 2 f o n, .int .i64 t, .bool b] w (WhenIs w (atO 2 o n b) (untilO 2 f o n t b)) := by
  have hu : untilO 2 f o n t b = aft (aft (aft t f) o) n := by simp [untilO, atO, waitsO, lastC]
  have ha : atO 2 o n b = n := by simp [atO]
  rw [hu, ha]
  obtain ⟨T1, hT1⟩ : ∃ T, T = aft (t) f := ⟨_, rfl⟩
  have hr1 := aft_rng (t := t) (a := f) (by omega)
  rw [← hT1] at hr1
  have K1 := rafter_any (t) f (by omega) hf
  rw [← hT1] at K1
  have H1 := Lib.hid K1
  have E1 := Lib.hid hT1
  clear hT1 K1
  obtain ⟨T2, hT2⟩ : ∃ T, T = aft (T1) o := ⟨_, rfl⟩
  have hr2 := aft_rng (t := T1) (a := o) (by omega)
  rw [← hT2] at hr2
  have K2 := rafter_any (T1) o (by omega) ho
  rw [← hT2] at K2
  have H2 := Lib.hid K2
  have E2 := Lib.hid hT2
  clear hT2 K2
  have K3 := Lib.hid (rafter_any T2 n (by omega) hn)
  obtain ⟨hr1a, hr1b⟩ := hr1
  obtain ⟨hr2a, hr2b⟩ := hr2
  have R : Hid (aft (aft t f) o = T2) := Lib.hid (by rw [E2.out, E1.out])
  rw [R.out]
  clear hu ha
  go_enter Try.func57, Try.ntmps57
  go_wp2_with fail
  refine (H1.out _).mono ?_; rintro e w' ⟨rfl, rfl⟩
  go_wp2_with fail
  refine (H2.out _).mono ?_; rintro e w' ⟨rfl, rfl⟩
  go_wp2_with fail
  refine (K3.out _).mono ?_; rintro e w' ⟨rfl, rfl⟩
  go_wp2
  go_ret2
  exact ⟨rfl, by go_grown⟩
set_option maxHeartbeats 1000000 in
theorem rwhen_3 (f o n t : Int) (b : Bool) (hf : 0 ≤ f ∧ f ≤ 127) (ho : 0 ≤ o ∧ o ≤ 127) (hn : 0 ≤ n ∧ n ≤ 127) (ht : 0 ≤ t ∧ t ≤ 1000000100) (w : World) :
    Calls Try.prog 57 #[ordV 3 f o n, .int .i64 t, .bool b] w (WhenIs w (atO 3 o n b) (untilO 3 f o n t b)) := by
  have hu : untilO 3 f o n t b = aft (aft (aft t f) o) n := by simp [untilO, atO, waitsO, lastC]
  have ha : atO 3 o n b = n := by simp [atO]
  rw [hu, ha]
  obtain ⟨T1, hT1⟩ : ∃ T, T = aft (t) f := ⟨_, rfl⟩
  have hr1 := aft_rng (t := t) (a := f) (by omega)
  rw [← hT1] at hr1
  have K1 := rafter_any (t) f (by omega) hf
  rw [← hT1] at K1
  have H1 := Lib.hid K1
  have E1 := Lib.hid hT1
  clear hT1 K1
  obtain ⟨T2, hT2⟩ : ∃ T, T = aft (T1) o := ⟨_, rfl⟩
  have hr2 := aft_rng (t := T1) (a := o) (by omega)
  rw [← hT2] at hr2
  have K2 := rafter_any (T1) o (by omega) ho
  rw [← hT2] at K2
  have H2 := Lib.hid K2
  have E2 := Lib.hid hT2
  clear hT2 K2
  have K3 := Lib.hid (rafter_any T2 n (by omega) hn)
  obtain ⟨hr1a, hr1b⟩ := hr1
  obtain ⟨hr2a, hr2b⟩ := hr2
  have R : Hid (aft (aft t f) o = T2) := Lib.hid (by rw [E2.out, E1.out])
  rw [R.out]
  clear hu ha
  go_enter Try.func57, Try.ntmps57
  go_wp2_with fail
  refine (H1.out _).mono ?_; rintro e w' ⟨rfl, rfl⟩
  go_wp2_with fail
  refine (H2.out _).mono ?_; rintro e w' ⟨rfl, rfl⟩
  go_wp2_with fail
  refine (K3.out _).mono ?_; rintro e w' ⟨rfl, rfl⟩
  go_wp2
  go_ret2
  exact ⟨rfl, by go_grown⟩
set_option maxHeartbeats 1000000 in
theorem rwhen_4 (f o n t : Int) (b : Bool) (hf : 0 ≤ f ∧ f ≤ 127) (ho : 0 ≤ o ∧ o ≤ 127) (hn : 0 ≤ n ∧ n ≤ 127) (ht : 0 ≤ t ∧ t ≤ 1000000100) (w : World) :
    Calls Try.prog 57 #[ordV 4 f o n, .int .i64 t, .bool b] w (WhenIs w (atO 4 o n b) (untilO 4 f o n t b)) := by
  have hu : untilO 4 f o n t b = aft (aft (aft (aft t f) o + 12) o) n := by simp [untilO, atO, waitsO, lastC]
  have ha : atO 4 o n b = n := by simp [atO]
  rw [hu, ha]
  obtain ⟨T1, hT1⟩ : ∃ T, T = aft (t) f := ⟨_, rfl⟩
  have hr1 := aft_rng (t := t) (a := f) (by omega)
  rw [← hT1] at hr1
  have K1 := rafter_any (t) f (by omega) hf
  rw [← hT1] at K1
  have H1 := Lib.hid K1
  have E1 := Lib.hid hT1
  clear hT1 K1
  obtain ⟨T2, hT2⟩ : ∃ T, T = aft (T1) o := ⟨_, rfl⟩
  have hr2 := aft_rng (t := T1) (a := o) (by omega)
  rw [← hT2] at hr2
  have K2 := rafter_any (T1) o (by omega) ho
  rw [← hT2] at K2
  have H2 := Lib.hid K2
  have E2 := Lib.hid hT2
  clear hT2 K2
  obtain ⟨T3, hT3⟩ : ∃ T, T = aft (T2 + 12) o := ⟨_, rfl⟩
  have hr3 := aft_rng (t := T2 + 12) (a := o) (by omega)
  rw [← hT3] at hr3
  have K3 := rafter_any (T2 + 12) o (by omega) ho
  rw [← hT3] at K3
  have H3 := Lib.hid K3
  have E3 := Lib.hid hT3
  clear hT3 K3
  have K4 := Lib.hid (rafter_any T3 n (by omega) hn)
  obtain ⟨hr1a, hr1b⟩ := hr1
  obtain ⟨hr2a, hr2b⟩ := hr2
  obtain ⟨hr3a, hr3b⟩ := hr3
  have R : Hid (aft (aft (aft t f) o + 12) o = T3) := Lib.hid (by rw [E3.out, E2.out, E1.out])
  rw [R.out]
  clear hu ha
  go_enter Try.func57, Try.ntmps57
  go_wp2_with fail
  refine (H1.out _).mono ?_; rintro e w' ⟨rfl, rfl⟩
  go_wp2_with fail
  refine (H2.out _).mono ?_; rintro e w' ⟨rfl, rfl⟩
  go_wp2_with fail
  refine (H3.out _).mono ?_; rintro e w' ⟨rfl, rfl⟩
  go_wp2_with fail
  refine (K4.out _).mono ?_; rintro e w' ⟨rfl, rfl⟩
  go_wp2
  go_ret2
  exact ⟨rfl, by go_grown⟩
set_option maxHeartbeats 1000000 in
theorem rwhen_5t (f o n t : Int) (hf : 0 ≤ f ∧ f ≤ 127) (ho : 0 ≤ o ∧ o ≤ 127) (hn : 0 ≤ n ∧ n ≤ 127) (ht : 0 ≤ t ∧ t ≤ 1000000100) (w : World) :
    Calls Try.prog 57 #[ordV 5 f o n, .int .i64 t, .bool true] w (WhenIs w (atO 5 o n true) (untilO 5 f o n t true)) := by
  have hu : untilO 5 f o n t true = aft (aft t f) o := by simp [untilO, atO, waitsO, lastC]
  have ha : atO 5 o n true = o := by simp [atO]
  rw [hu, ha]
  obtain ⟨T1, hT1⟩ : ∃ T, T = aft (t) f := ⟨_, rfl⟩
  have hr1 := aft_rng (t := t) (a := f) (by omega)
  rw [← hT1] at hr1
  have K1 := rafter_any (t) f (by omega) hf
  rw [← hT1] at K1
  have H1 := Lib.hid K1
  have E1 := Lib.hid hT1
  clear hT1 K1
  have K2 := Lib.hid (rafter_any T1 o (by omega) ho)
  obtain ⟨hr1a, hr1b⟩ := hr1
  have R : Hid (aft t f = T1) := Lib.hid (by rw [E1.out])
  rw [R.out]
  clear hu ha
  go_enter Try.func57, Try.ntmps57
  go_wp2_with fail
  refine (H1.out _).mono ?_; rintro e w' ⟨rfl, rfl⟩
  go_wp2_with fail
  refine (K2.out _).mono ?_; rintro e w' ⟨rfl, rfl⟩
  go_wp2
  go_ret2
  exact ⟨rfl, by go_grown⟩
set_option maxHeartbeats 1000000 in
theorem rwhen_5f (f o n t : Int) (hf : 0 ≤ f ∧ f ≤ 127) (ho : 0 ≤ o ∧ o ≤ 127) (hn : 0 ≤ n ∧ n ≤ 127) (ht : 0 ≤ t ∧ t ≤ 1000000100) (w : World) :
    Calls Try.prog 57 #[ordV 5 f o n, .int .i64 t, .bool false] w (WhenIs w (atO 5 o n false) (untilO 5 f o n t false)) := by
  have hu : untilO 5 f o n t false = aft (aft t f) n := by simp [untilO, atO, waitsO, lastC]
  have ha : atO 5 o n false = n := by simp [atO]
  rw [hu, ha]
  obtain ⟨T1, hT1⟩ : ∃ T, T = aft (t) f := ⟨_, rfl⟩
  have hr1 := aft_rng (t := t) (a := f) (by omega)
  rw [← hT1] at hr1
  have K1 := rafter_any (t) f (by omega) hf
  rw [← hT1] at K1
  have H1 := Lib.hid K1
  have E1 := Lib.hid hT1
  clear hT1 K1
  have K2 := Lib.hid (rafter_any T1 n (by omega) hn)
  obtain ⟨hr1a, hr1b⟩ := hr1
  have R : Hid (aft t f = T1) := Lib.hid (by rw [E1.out])
  rw [R.out]
  clear hu ha
  go_enter Try.func57, Try.ntmps57
  go_wp2_with fail
  refine (H1.out _).mono ?_; rintro e w' ⟨rfl, rfl⟩
  go_wp2_with fail
  refine (K2.out _).mono ?_; rintro e w' ⟨rfl, rfl⟩
  go_wp2
  go_ret2
  exact ⟨rfl, by go_grown⟩
set_option maxHeartbeats 1000000 in
theorem rwhen_6 (f o n t : Int) (b : Bool) (hf : 0 ≤ f ∧ f ≤ 127) (ho : 0 ≤ o ∧ o ≤ 127) (hn : 0 ≤ n ∧ n ≤ 127) (ht : 0 ≤ t ∧ t ≤ 1000000100) (w : World) :
    Calls Try.prog 57 #[ordV 6 f o n, .int .i64 t, .bool b] w (WhenIs w (atO 6 o n b) (untilO 6 f o n t b)) := by
  have hu : untilO 6 f o n t b = aft (aft t o) n := by simp [untilO, atO, waitsO, lastC]
  have ha : atO 6 o n b = n := by simp [atO]
  rw [hu, ha]
  obtain ⟨T1, hT1⟩ : ∃ T, T = aft (t) o := ⟨_, rfl⟩
  have hr1 := aft_rng (t := t) (a := o) (by omega)
  rw [← hT1] at hr1
  have K1 := rafter_any (t) o (by omega) ho
  rw [← hT1] at K1
  have H1 := Lib.hid K1
  have E1 := Lib.hid hT1
  clear hT1 K1
  have K2 := Lib.hid (rafter_any T1 n (by omega) hn)
  obtain ⟨hr1a, hr1b⟩ := hr1
  have R : Hid (aft t o = T1) := Lib.hid (by rw [E1.out])
  rw [R.out]
  clear hu ha
  go_enter Try.func57, Try.ntmps57
  go_wp2_with fail
  refine (H1.out _).mono ?_; rintro e w' ⟨rfl, rfl⟩
  go_wp2_with fail
  refine (K2.out _).mono ?_; rintro e w' ⟨rfl, rfl⟩
  go_wp2
  go_ret2
  exact ⟨rfl, by go_grown⟩
set_option maxHeartbeats 1000000 in
theorem rwhen_7 (f o n t : Int) (b : Bool) (hf : 0 ≤ f ∧ f ≤ 127) (ho : 0 ≤ o ∧ o ≤ 127) (hn : 0 ≤ n ∧ n ≤ 127) (ht : 0 ≤ t ∧ t ≤ 1000000100) (w : World) :
    Calls Try.prog 57 #[ordV 7 f o n, .int .i64 t, .bool b] w (WhenIs w (atO 7 o n b) (untilO 7 f o n t b)) := by
  have hu : untilO 7 f o n t b = aft (aft t f) n := by simp [untilO, atO, waitsO, lastC]
  have ha : atO 7 o n b = n := by simp [atO]
  rw [hu, ha]
  obtain ⟨T1, hT1⟩ : ∃ T, T = aft (t) f := ⟨_, rfl⟩
  have hr1 := aft_rng (t := t) (a := f) (by omega)
  rw [← hT1] at hr1
  have K1 := rafter_any (t) f (by omega) hf
  rw [← hT1] at K1
  have H1 := Lib.hid K1
  have E1 := Lib.hid hT1
  clear hT1 K1
  have K2 := Lib.hid (rafter_any T1 n (by omega) hn)
  obtain ⟨hr1a, hr1b⟩ := hr1
  have R : Hid (aft t f = T1) := Lib.hid (by rw [E1.out])
  rw [R.out]
  clear hu ha
  go_enter Try.func57, Try.ntmps57
  go_wp2_with fail
  refine (H1.out _).mono ?_; rintro e w' ⟨rfl, rfl⟩
  go_wp2_with fail
  refine (K2.out _).mono ?_; rintro e w' ⟨rfl, rfl⟩
  go_wp2
  go_ret2
  exact ⟨rfl, by go_grown⟩
theorem rwhen_any (a f o n t : Int) (b : Bool) (h : OkOrder a f o n) (ht : 0 ≤ t ∧ t ≤ 1000000100) (w : World) :
    Calls Try.prog 57 #[ordV a f o n, .int .i64 t, .bool b] w (WhenIs w (atO a o n b) (untilO a f o n t b)) := by
  obtain ⟨ha, hf, ho, hn⟩ := h
  obtain rfl | rfl | rfl | rfl | rfl | rfl | rfl | rfl : a = 0 ∨ a = 1 ∨ a = 2 ∨ a = 3 ∨ a = 4 ∨ a = 5 ∨ a = 6 ∨ a = 7 := by omega
  · exact rwhen_0 f o n t b hf ho hn ht w
  · exact rwhen_1 f o n t b hf ho hn ht w
  · exact rwhen_2 f o n t b hf ho hn ht w
  · exact rwhen_3 f o n t b hf ho hn ht w
  · exact rwhen_4 f o n t b hf ho hn ht w
  · cases b
    · exact rwhen_5f f o n t hf ho hn ht w
    · exact rwhen_5t f o n t hf ho hn ht w
  · exact rwhen_6 f o n t b hf ho hn ht w
  · exact rwhen_7 f o n t b hf ho hn ht w
end Go.Proofs.Ytmkcijecncdhpaa
