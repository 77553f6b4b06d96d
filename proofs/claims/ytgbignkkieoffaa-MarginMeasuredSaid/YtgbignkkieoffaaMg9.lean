/-
  CONTRACTS OF when a valve fails, and of Life of the program. No statement is proved here.
-/
import Derived.Test.YtgbignkkieoffaaMg8
namespace Go.Proofs.Ytgbignkkieoffaa
open Go.RowKit Mg Go.Sort
set_option linter.unusedVariables false
set_option linter.unusedSimpArgs false

/-- A pair of numbers in a block that can be written. -/
structure PrW (b : Nat) (U : World) : Prop where
  c0 : ∃ x : Int, U.cell? ⟨b, 0, none⟩ = some (.int .i64 x)
  c1 : ∃ x : Int, U.cell? ⟨b, 1, none⟩ = some (.int .i64 x)
  f0 : U.frozen? ⟨b, 0, none⟩ = false
  f1 : U.frozen? ⟨b, 1, none⟩ = false
  lt : b < U.heap.size
theorem PrW.after {b n : Nat} {U V : World} (h : PrW b U) (hb : Below n U V) (hn : b < n) : PrW b V :=
  have e : ∀ j, V.cell? ⟨b, j, none⟩ = U.cell? ⟨b, j, none⟩ := fun j => hb.cell (p := ⟨b, j, none⟩) hn
  have g : ∀ j, V.frozen? ⟨b, j, none⟩ = U.frozen? ⟨b, j, none⟩ := fun j => hb.frozen (p := ⟨b, j, none⟩) hn
  ⟨h.c0.imp fun _ hx => (e 0).trans hx, h.c1.imp fun _ hx => (e 1).trans hx, (g 0).trans h.f0, (g 1).trans h.f1, Nat.lt_of_lt_of_le h.lt hb.size⟩
theorem prW_new (w : World) (x y : Int) (T : TypeId) : PrW w.heap.size (w.alloc (.cells #[.int .i64 x, .int .i64 y] T)) :=
  ⟨⟨x, by simp [go_sem]⟩, ⟨y, by simp [go_sem]⟩, by simp [go_sem], by simp [go_sem], by simp⟩
theorem PrW.next {b : Nat} {U V : World} (h : PrW b U) (hb : Below U.heap.size U V) : PrW b V := h.after hb h.lt
theorem below_reg {w : World} (V : World) (d : Nat) (os : Array Obj) (h : Below w.heap.size w V) : Below w.heap.size w (grow (redrawn V d) os) := h.trans (below_low h.size (below_regrown V d os))

set_option maxRecDepth 100000 in
set_option maxHeartbeats 4000000 in
theorem fails_any (k : Kd) (A : Option Addr) (c : Nat) (hour : Int) (s : Int × Int) (hN : NeedOk k) (h1 : 0 ≤ s.1 ∧ s.1 ≤ 1000000) (h2 : 0 ≤ s.2 ∧ s.2 ≤ 1000000) (hh : 0 ≤ hour ∧ hour ≤ 100000) (w : World) (hk : KindAt w A k) :
    Calls Try.prog 41 #[vlV k A c hour s] w (RetPair w (failV k s hour)) := by
  have P0 := vlW_new w k A c hour s 81
  have HK := Lib.hid hk
  have HV := Lib.hid (show failV k s hour = (fb (need k.st 1000) s.1 k.hi hour, fb (need k.st 1000) s.2 k.lo hour) from rfl)
  have KA := fun U (hU : KindAt U A k) => firstBelow_any k A c hour s s.1 k.hi hN h1 hN.wear.2 hh U hU
  have KB := fun U (hU : KindAt U A k) => firstBelow_any k A c hour s s.2 k.lo hN h2 hN.wear.1 hh U hU
  clear hk h1 h2 hh hN
  generalize fb (need k.st 1000) s.1 k.hi hour = x at *
  generalize fb (need k.st 1000) s.2 k.lo hour = y at *
  have KA' := Lib.hid KA
  have KB' := Lib.hid KB
  clear KA KB
  go_enter Try.func41, Try.ntmps41
  go_wp2
  have P1 := P0.after ((Below.refl _ _).alloc (Nat.le_refl _) (.cells #[.int .i64 0, .int .i64 0] 34))
  have R1 := prW_new (w.alloc (.cells #[.int .i64 k.new, .int .i64 k.lo, .int .i64 k.hi, .slice A k.st.length c, .int .i64 hour, .int .i64 s.1, .int .i64 s.2] 81)) 0 0 34
  rw [World.size_alloc] at R1
  generalize (w.alloc (.cells #[.int .i64 k.new, .int .i64 k.lo, .int .i64 k.hi, .slice A k.st.length c, .int .i64 hour, .int .i64 s.1, .int .i64 s.2] 81)).alloc (.cells #[.int .i64 0, .int .i64 0] 34) = V at *
  have hKV := P1.kind HK.out
  have HB := Lib.hid P1.below
  have k0 := cell_regrown P1.c0
  have k1 := cell_regrown P1.c1
  have k2 := cell_regrown P1.c2
  have k3 := cell_regrown P1.c3
  have k4 := cell_regrown P1.c4
  have k5 := cell_regrown P1.c5
  have k6 := cell_regrown P1.c6
  have cA : ∀ d os, Calls Try.prog 52 #[vlV k A c hour s, .int .i64 s.1, .int .i64 k.hi] (grow (redrawn V d) os) fun e w'' => e = .returned (.int .i64 x) ∧ ∃ p : Regrown, w'' = grow (redrawn V p.d) p.os := fun d os =>
    Calls.regrown_of (KA'.out _ (hKV.below (below_regrown V d os)))
  have cB : ∀ d os, Calls Try.prog 52 #[vlV k A c hour s, .int .i64 s.2, .int .i64 k.lo] (grow (redrawn V d) os) fun e w'' => e = .returned (.int .i64 y) ∧ ∃ p : Regrown, w'' = grow (redrawn V p.d) p.os := fun d os =>
    Calls.regrown_of (KB'.out _ (hKV.below (below_regrown V d os)))
  clear P0 P1 hKV
  refine region_below_tail 19 rfl (by kernel_rfl) ?_
  simp only [List.take_succ_cons, List.take_zero, List.drop_succ_cons, List.drop_zero]
  repeat (quiet_step (first | with_reducible exact cA _ _ | with_reducible exact cB _ _))
  refine wpQuiet_nil ?_
  intro _ hw'
  obtain ⟨⟨dq, osq⟩, hw''⟩ := hw'
  subst hw''
  have R2 := R1.next (below_regrown V dq osq)
  have HB2 := Lib.hid (below_reg V dq osq HB.out)
  generalize grow (redrawn V dq) osq = X at *
  clear cA cB k0 k1 k2 k3 k4 k5 k6 R1
  obtain ⟨⟨x0, r0⟩, ⟨x1, r1⟩, f0, f1, hlt⟩ := R2
  go_wp2
  refine bodyPost_ret (v := pairV (x, y)) (by simp [results, Try.results41, cFl, go_sem, r0, r1]) rfl ⟨by rw [HV.out], ?_⟩
  exact (HB2.out.setCell (p := ⟨w.heap.size + 1, 0, none⟩) (by show w.heap.size ≤ w.heap.size + 1; omega) _).setCell (p := ⟨w.heap.size + 1, 1, none⟩) (by show w.heap.size ≤ w.heap.size + 1; omega) _
end Go.Proofs.Ytgbignkkieoffaa
