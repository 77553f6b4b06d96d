/-
  OrderCut: the walk and the frame: for every argument the law answers true. No condition.
-/
import Derived.Test.YtmkcijecncdhpaaSt7
import Derived.Test.YtmkcijecncdhpaaOAwake
import Derived.Test.YtmkcijecncdhpaaRows
import Derived.Test.YtmkcijecncdhpaaSt8
import Derived.Test.YtmkcijecncdhpaaOw10
import Derived.Test.YtmkcijecncdhpaaOFrame
import Derived.Test.YtmkcijecncdhpaaOFrame2
import Derived.Deep.QuietTactic
namespace Go.Proofs.Ytmkcijecncdhpaa
open Go.RowKit
set_option linter.unusedVariables false
set_option linter.unusedSimpArgs false

theorem awake_r (w : World) : Calls Try.prog 22 #[] w (fun e w' => e = .returned (.bool true) ∧ Below w.heap.size w w') := Ev.awake w
/-- What the arguments' boxes hold. -/
structure EnW (W : World) (v0 v1 v3 : Value) (a2 a4 a5 a6 a7 x0 x1 : Int) (U : World) : Prop where
  below : Below W.heap.size W U
  arg : StAt U W.heap.size v0 v1 v3 a2 a4 a5 a6 a7
  e0 : U.cell? ⟨W.heap.size + 1, 0, none⟩ = some (.int .u16 x0)
  e1 : U.cell? ⟨W.heap.size + 1, 1, none⟩ = some (.int .u16 x1)
  size : W.heap.size + 2 ≤ U.heap.size
theorem EnW.after {W U V : World} {v0 v1 v3 : Value} {a2 a4 a5 a6 a7 x0 x1 : Int} (h : EnW W v0 v1 v3 a2 a4 a5 a6 a7 x0 x1 U) (hb : Below U.heap.size U V) : EnW W v0 v1 v3 a2 a4 a5 a6 a7 x0 x1 V :=
  have hs := h.size
  ⟨h.below.trans (below_lower (by omega) hb), h.arg.below hb (by omega), (hb.cell (p := ⟨W.heap.size + 1, 0, none⟩) (by show W.heap.size + 1 < _; omega)).trans h.e0, (hb.cell (p := ⟨W.heap.size + 1, 1, none⟩) (by show W.heap.size + 1 < _; omega)).trans h.e1, Nat.le_trans hs hb.size⟩
theorem enW_new (W : World) (v0 v1 v3 : Value) (a2 a4 a5 a6 a7 x0 x1 : Int) (T T' : TypeId) : EnW W v0 v1 v3 a2 a4 a5 a6 a7 x0 x1 ((W.alloc (.cells #[v0, v1, .int .i64 a2, v3, .int .i64 a4, .int .i64 a5, .int .i64 a6, .int .i64 a7] T)).alloc (.cells #[.int .u16 x0, .int .u16 x1] T')) :=
  ⟨by go_grown, (StAt.new W v0 v1 v3 a2 a4 a5 a6 a7 T).below ((Below.refl _ _).alloc (Nat.le_refl _) _) (by simp), by simp [go_sem], by simp [go_sem], by simp⟩
set_option maxRecDepth 100000 in
set_option maxHeartbeats 4000000 in
theorem ended_bad (s : MS) (A0 A1 A3 : Option Addr) (n0 n1 n3 : Nat) (x0 x1 m k : Int) (hm : x0.tmod 5001 = m) (hx : 0 ≤ x0 ∧ x0 < 65536) (hk : k ≠ 0) (W : World) (i0 : IntsAt W W.heap.size A0 s.store) (i1 : IntsAt W W.heap.size A1 s.tape) (i3 : IntsAt W W.heap.size A3 s.printed)
    (K : Hid (∀ w, IntsAt w w.heap.size A0 s.store → IntsAt w w.heap.size A1 s.tape → IntsAt w w.heap.size A3 s.printed → Calls Try.prog 19 #[stV A0 A1 A3 n0 n1 n3 s.store s.tape s.printed s.taken s.time s.at_ s.done s.why, .int .i64 m] w (StateOut w MS.zero k))) :
    Calls Try.prog 14 #[stV A0 A1 A3 n0 n1 n3 s.store s.tape s.printed s.taken s.time s.at_ s.done s.why, .agg #[.int .u16 x0, .int .u16 x1]] W fun e W' => e = .returned (.bool true) ∧ Below W.heap.size W W' := by
  have H := Lib.hid (And.intro i0 (And.intro i1 i3))
  clear i0 i1 i3
  have q : (k != 0) = true := by simpa using hk
  have R0 := enW_new W (.slice A0 s.store.length n0) (.slice A1 s.tape.length n1) (.slice A3 s.printed.length n3) s.taken s.time s.at_ s.done s.why x0 x1 24 62
  go_enter Try.func14, Try.ntmps14
  go_wp2_with fail
  generalize (W.alloc (.cells #[.slice A0 s.store.length n0, .slice A1 s.tape.length n1, .int .i64 s.taken, .slice A3 s.printed.length n3, .int .i64 s.time, .int .i64 s.at_, .int .i64 s.done, .int .i64 s.why] 24)).alloc (.cells #[.int .u16 x0, .int .u16 x1] 62) = V0 at *
  refine (K.out V0 (ints_at H.out.1 R0.below) (ints_at H.out.2.1 R0.below) (ints_at H.out.2.2 R0.below)).mono ?_; rintro e V1 ⟨B0, B1, B3, d0, d1, d3, rfl, j0, j1, j3, hb1⟩
  have HB := Lib.hid (R0.after hb1).below
  clear R0 hb1 j0 j1 j3
  simp only [MS.zero, List.length_nil]
  go_wp2_with fail
  refine (awake_r _).mono ?_; rintro e w7 ⟨rfl, hb7⟩
  go_wp2
  go_ret
  exact ⟨rfl, HB.out.trans (below_lower HB.out.size ((alloc_below V1 _).trans (below_lower (by simp) hb7)))⟩
/-- A run that is done, or goes on. -/
structure EndF (s t : MS) (m : Int) : Prop where
  d : 0 ≤ s.done ∧ s.done ≤ t.done ∧ t.done ≤ 1000000000
  m : t.done - s.done ≤ m ∧ m ≤ 5000
  tm : s.time ≤ t.time
set_option maxRecDepth 100000 in
set_option maxHeartbeats 4000000 in
theorem ended_going (s t : MS) (A0 A1 A3 : Option Addr) (n0 n1 n3 : Nat) (x0 x1 m : Int) (hm : x0.tmod 5001 = m) (hx : 0 ≤ x0 ∧ x0 < 65536) (hf : EndF s t m) (hg : t.why = 0) (hd : t.done - s.done = m) (W : World) (i0 : IntsAt W W.heap.size A0 s.store) (i1 : IntsAt W W.heap.size A1 s.tape) (i3 : IntsAt W W.heap.size A3 s.printed)
    (K : Hid (∀ w, IntsAt w w.heap.size A0 s.store → IntsAt w w.heap.size A1 s.tape → IntsAt w w.heap.size A3 s.printed → Calls Try.prog 19 #[stV A0 A1 A3 n0 n1 n3 s.store s.tape s.printed s.taken s.time s.at_ s.done s.why, .int .i64 m] w (StateOut w t 0))) :
    Calls Try.prog 14 #[stV A0 A1 A3 n0 n1 n3 s.store s.tape s.printed s.taken s.time s.at_ s.done s.why, .agg #[.int .u16 x0, .int .u16 x1]] W fun e W' => e = .returned (.bool true) ∧ Below W.heap.size W W' := by
  have H := Lib.hid (And.intro i0 (And.intro i1 i3))
  clear i0 i1 i3
  obtain ⟨⟨p1, p2, p3⟩, ⟨p4, p5⟩, p6⟩ := hf
  have R0 := enW_new W (.slice A0 s.store.length n0) (.slice A1 s.tape.length n1) (.slice A3 s.printed.length n3) s.taken s.time s.at_ s.done s.why x0 x1 24 62
  go_enter Try.func14, Try.ntmps14
  go_wp2_with fail
  generalize (W.alloc (.cells #[.slice A0 s.store.length n0, .slice A1 s.tape.length n1, .int .i64 s.taken, .slice A3 s.printed.length n3, .int .i64 s.time, .int .i64 s.at_, .int .i64 s.done, .int .i64 s.why] 24)).alloc (.cells #[.int .u16 x0, .int .u16 x1] 62) = V0 at *
  refine (K.out V0 (ints_at H.out.1 R0.below) (ints_at H.out.2.1 R0.below) (ints_at H.out.2.2 R0.below)).mono ?_; rintro e V1 ⟨B0, B1, B3, d0, d1, d3, rfl, j0, j1, j3, hb1⟩
  have R1 := R0.after hb1
  obtain ⟨c0, c1, c2, c3, c4, c5, c6, c7⟩ := R1.arg
  have hs1 : W.heap.size < V1.heap.size := by have := R1.size; omega
  have hs2 : W.heap.size + 1 < V1.heap.size := by have := R1.size; omega
  have HB := Lib.hid R1.below
  clear R0 R1 hb1 j0 j1 j3
  generalize s.done = sd at *
  generalize s.time = st at *
  generalize t.done = td at *
  generalize t.time = tt at *
  generalize t.why = tw at *
  subst hg
  have e1 : IntKind.i64.wrap (td - sd) = m := by rw [IntKind.wrap_i64]; omega
  go_wp2_with fail
  refine (awake_r _).mono ?_; rintro e w7 ⟨rfl, hb7⟩
  go_wp2
  go_ret
  exact ⟨rfl, HB.out.trans (below_lower HB.out.size ((alloc_below V1 _).trans (below_lower (by simp) hb7)))⟩
set_option maxRecDepth 100000 in
set_option maxHeartbeats 4000000 in
theorem ended_done (s t : MS) (A0 A1 A3 : Option Addr) (n0 n1 n3 : Nat) (x0 x1 m m2 : Int) (hm : x0.tmod 5001 = m) (hm2 : x1.tmod 5001 = m2) (hx : 0 ≤ x0 ∧ x0 < 65536) (hx1 : 0 ≤ x1 ∧ x1 < 65536) (hf : EndF s t m) (hg : t.why ≠ 0) (l0 : t.store.length ≤ maxLen) (l1 : t.tape.length ≤ maxLen) (l3 : t.printed.length ≤ maxLen) (W : World) (i0 : IntsAt W W.heap.size A0 s.store) (i1 : IntsAt W W.heap.size A1 s.tape) (i3 : IntsAt W W.heap.size A3 s.printed)
    (K : Hid (∀ w, IntsAt w w.heap.size A0 s.store → IntsAt w w.heap.size A1 s.tape → IntsAt w w.heap.size A3 s.printed → Calls Try.prog 19 #[stV A0 A1 A3 n0 n1 n3 s.store s.tape s.printed s.taken s.time s.at_ s.done s.why, .int .i64 m] w (StateOut w t 0)))
    (K2 : Hid (∀ A0 A1 A3 n0 n1 n3 w, IntsAt w w.heap.size A0 t.store → IntsAt w w.heap.size A1 t.tape → IntsAt w w.heap.size A3 t.printed → Calls Try.prog 19 #[stV A0 A1 A3 n0 n1 n3 t.store t.tape t.printed t.taken t.time t.at_ t.done t.why, .int .i64 m2] w (StateOut w t 0))) :
    Calls Try.prog 14 #[stV A0 A1 A3 n0 n1 n3 s.store s.tape s.printed s.taken s.time s.at_ s.done s.why, .agg #[.int .u16 x0, .int .u16 x1]] W fun e W' => e = .returned (.bool true) ∧ Below W.heap.size W W' := by
  have H := Lib.hid (And.intro i0 (And.intro i1 i3))
  clear i0 i1 i3
  obtain ⟨⟨p1, p2, p3⟩, ⟨p4, p5⟩, p6⟩ := hf
  have q : (t.why == 0) = false := by simpa using hg
  have R0 := enW_new W (.slice A0 s.store.length n0) (.slice A1 s.tape.length n1) (.slice A3 s.printed.length n3) s.taken s.time s.at_ s.done s.why x0 x1 24 62
  go_enter Try.func14, Try.ntmps14
  go_wp2_with fail
  generalize (W.alloc (.cells #[.slice A0 s.store.length n0, .slice A1 s.tape.length n1, .int .i64 s.taken, .slice A3 s.printed.length n3, .int .i64 s.time, .int .i64 s.at_, .int .i64 s.done, .int .i64 s.why] 24)).alloc (.cells #[.int .u16 x0, .int .u16 x1] 62) = V0 at *
  refine (K.out V0 (ints_at H.out.1 R0.below) (ints_at H.out.2.1 R0.below) (ints_at H.out.2.2 R0.below)).mono ?_; rintro e V1 ⟨B0, B1, B3, d0, d1, d3, rfl, j0, j1, j3, hb1⟩
  have R1 := R0.after hb1
  obtain ⟨c0, c1, c2, c3, c4, c5, c6, c7⟩ := R1.arg
  have u1 := R1.e1
  have hs1 : W.heap.size < V1.heap.size := by have := R1.size; omega
  have hs2 : W.heap.size + 1 < V1.heap.size := by have := R1.size; omega
  have HB := Lib.hid R1.below
  have HJ := Lib.hid (And.intro j0 (And.intro j1 j3))
  clear R0 R1 hb1 j0 j1 j3 K H
  have e1 : IntKind.i64.wrap (t.done - s.done) = t.done - s.done := by rw [IntKind.wrap_i64]; omega
  go_wp2_with fail
  have hbA := alloc_below V1 (.cells #[.slice B0 t.store.length d0, .slice B1 t.tape.length d1, .int .i64 t.taken, .slice B3 t.printed.length d3, .int .i64 t.time, .int .i64 t.at_, .int .i64 t.done, .int .i64 t.why] 24)
  have S1 := StAt.new V1 (.slice B0 t.store.length d0) (.slice B1 t.tape.length d1) (.slice B3 t.printed.length d3) t.taken t.time t.at_ t.done t.why 24
  have hsA : V1.heap.size < (V1.alloc (.cells #[.slice B0 t.store.length d0, .slice B1 t.tape.length d1, .int .i64 t.taken, .slice B3 t.printed.length d3, .int .i64 t.time, .int .i64 t.at_, .int .i64 t.done, .int .i64 t.why] 24)).heap.size := by simp
  generalize V1.alloc (.cells #[.slice B0 t.store.length d0, .slice B1 t.tape.length d1, .int .i64 t.taken, .slice B3 t.printed.length d3, .int .i64 t.time, .int .i64 t.at_, .int .i64 t.done, .int .i64 t.why] 24) = V2 at *
  refine (K2.out B0 B1 B3 d0 d1 d3 V2 (ints_at HJ.out.1 hbA) (ints_at HJ.out.2.1 hbA) (ints_at HJ.out.2.2 hbA)).mono ?_; rintro e V3 ⟨C0, C1, C3, g0, g1, g3, rfl, r0, r1, r3, hb3⟩
  have S2 := S1.below hb3 hsA
  have hs3 := Nat.lt_of_lt_of_le hsA hb3.size
  have hbV := hbA.trans (below_lower (Nat.le_of_lt hsA) hb3)
  have HB3 := Lib.hid (HB.out.trans (below_lower HB.out.size hbV))
  have HJ3 := Lib.hid (And.intro (ints_at HJ.out.1 hbV) (And.intro (ints_at HJ.out.2.1 hbV) (ints_at HJ.out.2.2 hbV)))
  have HR3 := Lib.hid (And.intro r0 (And.intro r1 r3))
  obtain ⟨y0, y1, y2, y3, y4, y5, y6, y7⟩ := S2
  clear S1 hsA hbA hb3 hbV r0 r1 r3 K2 c0 c1 c2 c3 c4 c5 c6 c7 u1 HJ HB
  go_wp2_with fail
  have hbN := alloc_below V3 (.cells #[.slice C0 t.store.length g0, .slice C1 t.tape.length g1, .int .i64 t.taken, .slice C3 t.printed.length g3, .int .i64 t.time, .int .i64 t.at_, .int .i64 t.done, .int .i64 t.why] 24)
  refine (states_same B0 B1 B3 C0 C1 C3 d0 d1 d3 g0 g1 g3 t.store t.tape t.printed t.taken t.time t.at_ t.done t.why l0 l1 l3 _ (ints_at HJ3.out.1 hbN) (ints_at HJ3.out.2.1 hbN) (ints_at HJ3.out.2.2 hbN) (ints_at HR3.out.1 hbN) (ints_at HR3.out.2.1 hbN) (ints_at HR3.out.2.2 hbN)).mono ?_
  rintro e W4 ⟨rfl, hb4⟩
  have HB4 := Lib.hid ((HB3.out.trans (below_lower HB3.out.size hbN)).trans (below_lower (Nat.le_trans HB3.out.size hbN.size) hb4))
  clear hbN hb4 y0 y1 y2 y3 y4 y5 y6 y7
  go_wp2_with fail
  refine (awake_r _).mono ?_; rintro e w7 ⟨rfl, hb7⟩
  go_wp2
  go_ret
  exact ⟨rfl, HB4.out.trans (below_lower HB4.out.size hb7)⟩
theorem okLens {s : MS} (h : s.Ok) : s.store.length ≤ maxLen ∧ s.tape.length ≤ maxLen ∧ s.printed.length ≤ maxLen := by
  have h0 := h.n0
  have h1 := h.n1
  have h3 := h.n3
  unfold maxLen
  omega
theorem orderEnded_walk (w : World) (A0 A1 A3 : Option Addr) (n0 n1 n3 : Nat) (z0 z1 z3 : List Int) (a2 a4 a5 a6 a7 : Int)
    (s0 : z0.length ≤ maxLen ∧ IntsAt w w.heap.size A0 z0 ∧ ∀ n ∈ z0, (Lit.int .i64 n).wf = true) (s1 : z1.length ≤ maxLen ∧ IntsAt w w.heap.size A1 z1 ∧ ∀ n ∈ z1, (Lit.int .i64 n).wf = true) (s3 : z3.length ≤ maxLen ∧ IntsAt w w.heap.size A3 z3 ∧ ∀ n ∈ z3, (Lit.int .i64 n).wf = true)
    (w2 : (Lit.int .i64 a2).wf = true) (w4 : (Lit.int .i64 a4).wf = true) (w5 : (Lit.int .i64 a5).wf = true) (w6 : (Lit.int .i64 a6).wf = true) (w7 : (Lit.int .i64 a7).wf = true) (x0 x1 : Int) (y0 : 0 ≤ x0 ∧ x0 ≤ 65535) (y1 : 0 ≤ x1 ∧ x1 ≤ 65535) :
    Calls Try.prog 14 #[stV A0 A1 A3 n0 n1 n3 z0 z1 z3 a2 a4 a5 a6 a7, .agg #[.int .u16 x0, .int .u16 x1]] w fun e w' => e = .returned (.bool true) ∧ Below w.heap.size w w' := by
  have hm : x0.tmod 5001 = x0 % 5001 := Int.tmod_eq_emod_of_nonneg (by omega)
  have hm2 : x1.tmod 5001 = x1 % 5001 := Int.tmod_eq_emod_of_nonneg (by omega)
  obtain ⟨s, hs⟩ : ∃ s : MS, s = ⟨z0, z1, z3, a2, a4, a5, a6, a7⟩ := ⟨_, rfl⟩
  have K := fun w j0 j1 j3 => run_any s (x0 % 5001) A0 A1 A3 n0 n1 n3 (by rw [hs]; exact s0.1) (by rw [hs]; exact s1.1) (by rw [hs]; exact s3.1) w j0 j1 j3
  show Calls Try.prog _ #[stV A0 A1 A3 n0 n1 n3 (⟨z0, z1, z3, a2, a4, a5, a6, a7⟩ : MS).store (⟨z0, z1, z3, a2, a4, a5, a6, a7⟩ : MS).tape (⟨z0, z1, z3, a2, a4, a5, a6, a7⟩ : MS).printed (⟨z0, z1, z3, a2, a4, a5, a6, a7⟩ : MS).taken (⟨z0, z1, z3, a2, a4, a5, a6, a7⟩ : MS).time (⟨z0, z1, z3, a2, a4, a5, a6, a7⟩ : MS).at_ (⟨z0, z1, z3, a2, a4, a5, a6, a7⟩ : MS).done (⟨z0, z1, z3, a2, a4, a5, a6, a7⟩ : MS).why, _] _ _
  have i0 : IntsAt w w.heap.size A0 s.store := by rw [hs]; exact s0.2.1
  have i1 : IntsAt w w.heap.size A1 s.tape := by rw [hs]; exact s1.2.1
  have i3 : IntsAt w w.heap.size A3 s.printed := by rw [hs]; exact s3.2.1
  rw [← hs]
  clear hs s0 s1 s3
  by_cases he : s.err (x0 % 5001) = 0
  · obtain ⟨ho, hm0, hm5⟩ := MS.err_zero he
    rw [MS.out_ok he, he] at K
    obtain ⟨m, hmm⟩ := Int.eq_ofNat_of_zero_le hm0
    have ht : (x0 % 5001).toNat = m := by omega
    rw [ht] at K
    have hok := ho.run m
    obtain ⟨q1, q2, q3, q4⟩ := MS.run_counts m ho
    have hF : EndF s (MS.run m s) (x0 % 5001) := ⟨⟨ho.done.1, q1, by have := hok.done; have := hok.time; omega⟩, ⟨by omega, hm5⟩, q3⟩
    by_cases hg : (MS.run m s).why = 0
    · exact ended_going s (MS.run m s) A0 A1 A3 n0 n1 n3 x0 x1 _ hm (by omega) hF hg (by rw [q4 hg]; omega) w i0 i1 i3 (Lib.hid K)
    · obtain ⟨l0, l1, l3⟩ := okLens hok
      refine ended_done s (MS.run m s) A0 A1 A3 n0 n1 n3 x0 x1 _ (x1 % 5001) hm hm2 (by omega) (by omega) hF hg l0 l1 l3 w i0 i1 i3 (Lib.hid K) (Lib.hid fun B0 B1 B3 d0 d1 d3 W j0 j1 j3 => ?_)
      have h2 := run_any (MS.run m s) (x1 % 5001) B0 B1 B3 d0 d1 d3 l0 l1 l3 W j0 j1 j3
      have he2 : (MS.run m s).err (x1 % 5001) = 0 := MS.err_ok hok (by omega)
      rw [MS.out_ok he2, he2, MS.run_why hg] at h2
      exact h2
  · rw [MS.out_bad he] at K
    exact ended_bad s A0 A1 A3 n0 n1 n3 x0 x1 _ _ hm (by omega) he w i0 i1 i3 (Lib.hid K)
end Go.Proofs.Ytmkcijecncdhpaa
namespace Go.Proofs.Ytmkcijecncdhpaa
open Go.RowKit
set_option linter.unusedVariables false
namespace MS
/-- A run, and what it returns run on, is one run. -/
theorem run_add (a b : Nat) : ∀ s : MS, run (a + b) s = run b (run a s) := by
  induction a with
  | zero => intro s; rw [Nat.zero_add]; rfl
  | succ a ih =>
    intro s
    rw [show a + 1 + b = (a + b) + 1 by omega]
    by_cases h : s.ends = 0
    · have e1 : run (a + b + 1) s = run (a + b) s.go := by show (if s.ends = 0 then run (a + b) s.go else s.ended) = _; rw [if_pos h]
      have e2 : run (a + 1) s = run a s.go := by show (if s.ends = 0 then run a s.go else s.ended) = _; rw [if_pos h]
      rw [e1, e2, ih]
    · have e1 : run (a + b + 1) s = s.ended := by show (if s.ends = 0 then run (a + b) s.go else s.ended) = _; rw [if_neg h]
      have e2 : run (a + 1) s = s.ended := by show (if s.ends = 0 then run a s.go else s.ended) = _; rw [if_neg h]
      rw [e1, e2, run_why (show s.ended.why ≠ 0 from h)]
theorem goN_done (k : Nat) (s : MS) : (goN k s).done = s.done + k := by
  induction k with
  | zero => show s.done = s.done + ((0 : Nat) : Int); simp
  | succ k ih =>
    show (goN k s).done + 1 = _
    rw [ih]; omega
/-- Where, when and after how many orders a run stands. -/
theorem run_taken {n k : Nat} {s : MS} (hk : k ≤ n) (h0 : ∀ j, j < k → (goN j s).ends = 0) (h1 : k < n → (goN k s).ends ≠ 0) :
    (run n s).at_ = (goN k s).at_ ∧ (run n s).time = (goN k s).time ∧ (run n s).done = s.done + k := by
  by_cases e : k = n
  · subst e
    rw [run_goes h0]
    exact ⟨rfl, rfl, goN_done k s⟩
  · have hlt : k < n := by omega
    rw [run_ends hlt h0 (h1 hlt)]
    exact ⟨rfl, rfl, goN_done k s⟩
/-- The next order's address is one of When's two. -/
theorem follow_or (s : MS) : s.follow = atO s.op s.to s.nxt false ∨ s.follow = atO s.op s.to s.nxt true := by
  unfold follow
  cases s.neg
  · exact .inl rfl
  · exact .inr rfl
theorem until_or (s : MS) : s.until_ = untilO s.op s.frm s.to s.nxt s.time false ∨ s.until_ = untilO s.op s.frm s.to s.nxt s.time true := by
  unfold until_
  cases s.neg
  · exact .inl rfl
  · exact .inr rfl
theorem goN_at (k : Nat) (s : MS) : (goN (k + 1) s).at_ = (goN k s).follow := rfl
theorem goN_time (k : Nat) (s : MS) : (goN (k + 1) s).time = (goN k s).until_ := rfl
end MS
theorem lastC_lt : ∀ (l : List (Int × Int)) (t : Int), (∀ x ∈ l, 0 ≤ x.2) → l ≠ [] → t < lastC t l := by
  intro l
  induction l with
  | nil => intro t _ h; exact absurd rfl h
  | cons x l ih =>
    intro t h _
    obtain ⟨a, b⟩ := x
    have hb : 0 ≤ b := h (a, b) (by simp)
    have := aft_bd (t + b) a
    show t < lastC (aft (t + b) a) l
    by_cases hl : l = []
    · subst hl
      show t < aft (t + b) a
      omega
    · have := ih (aft (t + b) a) (fun y hy => h y (by simp [hy])) hl
      omega
/-- An order takes time. -/
theorem untilO_lt (op f t n time : Int) (neg : Bool) : time < untilO op f t n time neg := by
  unfold untilO
  refine lastC_lt _ _ ?_ (by simp)
  intro x hx
  rcases List.mem_append.1 hx with h | h
  · unfold waitsO at h
    split at h
    · simp at h; rw [h]; simp
    · split at h
      · simp at h; rw [h]; simp
      · split at h
        · simp at h; rcases h with h | h | h <;> rw [h] <;> simp
        · simp at h; rcases h with h | h <;> rw [h] <;> simp
  · simp at h; rw [h]; simp
theorem MS.until_lt (s : MS) : s.time < s.until_ := untilO_lt ..
end Go.Proofs.Ytmkcijecncdhpaa
namespace Go.Proofs.Ytmkcijecncdhpaa
open Go.RowKit
set_option linter.unusedVariables false
set_option linter.unusedSimpArgs false

theorem stepsC_get : ∀ (xs : List MS) (i : Nat) (h : i < xs.length) (j : Nat), j < 7 → (stepsC xs)[i * 7 + j]? = (stepC xs[i])[j]? := by
  intro xs
  induction xs with
  | nil => intro i h; exact absurd h (by simp)
  | cons x xs ih =>
    intro i h j hj
    have e : stepsC (x :: xs) = stepC x ++ stepsC xs := by simp [stepsC]
    have hl : (stepC x).length = 7 := rfl
    rw [e]
    cases i with
    | zero =>
      rw [Nat.zero_mul, Nat.zero_add, List.getElem?_append_left (by omega)]
      rfl
    | succ i =>
      rw [List.getElem?_append_right (by omega), hl, show (i + 1) * 7 + j - 7 = i * 7 + j by omega]
      exact ih i (by simpa using h) j hj
/-- A row of steps, read. -/
theorem step_cell {U : World} {base c : Nat} {A : Option Addr} {xs : List MS} (h : U.ownsRow base 60 7 (.slice A xs.length c) xs.length (stepsC xs)) {i : Nat} (hi : i < xs.length) :
    ∃ g, A = some ⟨g, 0, none⟩ ∧ base ≤ g ∧ g < U.heap.size ∧ ∀ j, j < 7 → U.cell? ⟨g, i * 7 + j, none⟩ = (stepC xs[i])[j]? := by
  rcases h.2 with ⟨_, h0⟩ | ⟨g, cap, cur, e, hb, hg, _⟩
  · omega
  · simp only [Value.slice.injEq] at e
    obtain ⟨rfl, _, rfl⟩ := e
    refine ⟨g, rfl, hb, (Array.getElem?_eq_some_iff.1 hg).1, fun j hj => ?_⟩
    rw [h.cellAt (i * 7 + j) (by omega), stepsC_get xs i hi j hj]
set_option maxRecDepth 100000 in
set_option maxHeartbeats 4000000 in
theorem cut_bad (s : MS) (A0 A1 A3 : Option Addr) (n0 n1 n3 : Nat) (x0 x1 m k : Int) (hm : x0.tmod 2500 = m) (hx : 0 ≤ x0 ∧ x0 < 65536) (hx1 : 0 ≤ x1 ∧ x1 < 65536) (hk : k ≠ 0) (W : World) (i0 : IntsAt W W.heap.size A0 s.store) (i1 : IntsAt W W.heap.size A1 s.tape) (i3 : IntsAt W W.heap.size A3 s.printed)
    (K : Hid (∀ w, IntsAt w w.heap.size A0 s.store → IntsAt w w.heap.size A1 s.tape → IntsAt w w.heap.size A3 s.printed → Calls Try.prog 19 #[stV A0 A1 A3 n0 n1 n3 s.store s.tape s.printed s.taken s.time s.at_ s.done s.why, .int .i64 m] w (StateOut w MS.zero k))) :
    Calls Try.prog 15 #[stV A0 A1 A3 n0 n1 n3 s.store s.tape s.printed s.taken s.time s.at_ s.done s.why, .agg #[.int .u16 x0, .int .u16 x1]] W fun e W' => e = .returned (.bool true) ∧ Below W.heap.size W W' := by
  have H := Lib.hid (And.intro i0 (And.intro i1 i3))
  clear i0 i1 i3
  have q : (k != 0) = true := by simpa using hk
  have R0 := enW_new W (.slice A0 s.store.length n0) (.slice A1 s.tape.length n1) (.slice A3 s.printed.length n3) s.taken s.time s.at_ s.done s.why x0 x1 24 62
  go_enter Try.func15, Try.ntmps15
  go_wp2_with fail
  generalize (W.alloc (.cells #[.slice A0 s.store.length n0, .slice A1 s.tape.length n1, .int .i64 s.taken, .slice A3 s.printed.length n3, .int .i64 s.time, .int .i64 s.at_, .int .i64 s.done, .int .i64 s.why] 24)).alloc (.cells #[.int .u16 x0, .int .u16 x1] 62) = V0 at *
  have e0 := R0.e0
  have e1 := R0.e1
  obtain ⟨a0, a1, a2, a3, a4, a5, a6, a7⟩ := R0.arg
  go_quiet (fail)
  replace R0 := R0.after (below_drewN (k := nq) (Below.refl V0.heap.size V0))
  clear e0 e1 a0 a1 a2 a3 a4 a5 a6 a7
  generalize V0.drewN nq = V at *
  obtain ⟨a0, a1, a2, a3, a4, a5, a6, a7⟩ := R0.arg
  go_wp2_with fail
  refine (K.out V (ints_at H.out.1 R0.below) (ints_at H.out.2.1 R0.below) (ints_at H.out.2.2 R0.below)).mono ?_; rintro e V1 ⟨B0, B1, B3, d0, d1, d3, rfl, j0, j1, j3, hb1⟩
  have HB := Lib.hid (R0.after hb1).below
  clear R0 hb1 j0 j1 j3 a0 a1 a2 a3 a4 a5 a6 a7
  simp only [MS.zero, List.length_nil]
  go_wp2_with fail
  refine (awake_r _).mono ?_; rintro e w7 ⟨rfl, hb7⟩
  go_wp2
  go_ret
  exact ⟨rfl, HB.out.trans (below_lower HB.out.size ((alloc_below V1 _).trans (below_lower (by simp) hb7)))⟩
/-- When, where it answers. -/
theorem cwhen_ok (a f o n t : Int) (b : Bool) (h : OkOrder a f o n) (h0 : a ≠ 0) (ht : 0 ≤ t ∧ t ≤ 1000000000) (w : World) : Calls Try.prog 20 #[ordV a f o n, .int .i64 t, .bool b] w fun e w' => e = .returned (.tuple #[.int .i64 (atO a o n b), .int .i64 (untilO a f o n t b), .int .i64 0]) ∧ Below w.heap.size w w' := by
  have H1 := Lib.hid (isOrder_t a f o n h)
  have h2 := within_1 1000000000 t
  rw [inB_t ht] at h2
  have H2 := Lib.hid h2
  have H3 := Lib.hid (when_any a f o n t b h (by omega))
  have ha : (a == 0) = false := by simpa using h0
  clear h2 h ht h0
  go_enter Try.func20, Try.ntmps20
  go_wp2_with fail
  refine (H1.out _).mono ?_; rintro e w1 ⟨rfl, hb1⟩
  have c0 : w1.cell? ⟨w.heap.size, 0, none⟩ = some (.int .i64 a) := by rw [hb1.cell (by simp)]; simp [go_sem]
  have c1 : w1.cell? ⟨w.heap.size, 1, none⟩ = some (.int .i64 f) := by rw [hb1.cell (by simp)]; simp [go_sem]
  have c2 : w1.cell? ⟨w.heap.size, 2, none⟩ = some (.int .i64 o) := by rw [hb1.cell (by simp)]; simp [go_sem]
  have c3 : w1.cell? ⟨w.heap.size, 3, none⟩ = some (.int .i64 n) := by rw [hb1.cell (by simp)]; simp [go_sem]
  have bW : Below w.heap.size w w1 := by
    have hs1 := hb1.size
    simp only [World.size_alloc] at hs1 hb1
    exact ((Below.refl _ w).alloc (Nat.le_refl _) _).trans (below_lower (by omega) hb1)
  have hlt : w.heap.size < w1.heap.size := by have := hb1.size; simp at this; omega
  clear hb1
  go_wp2_with fail
  refine (H2.out _ _ _ _ (by simp [go_sem])).mono ?_; rintro e w' ⟨rfl, rfl⟩
  go_wp2_with fail
  refine (H3.out _).mono ?_; rintro e w2 ⟨rfl, hb2⟩
  have bX : Below w.heap.size w w2 := by
    have h1 := bW.size
    have hs2 := hb2.size
    simp only [World.size_alloc] at hs2 hb2
    exact (bW.alloc (by omega) _).trans (below_lower (by omega) hb2)
  clear hb2 bW c0 c1 c2 c3 hlt
  go_wp2
  go_ret3
  exact ⟨rfl, bX⟩
end Go.Proofs.Ytmkcijecncdhpaa
namespace Go.Proofs.Ytmkcijecncdhpaa
open Go.RowKit
set_option linter.unusedVariables false
set_option linter.unusedSimpArgs false

theorem own_slice {U : World} {base n size : Nat} {e : TypeId} {v : Value} {xs : List Value} (h : U.ownsRow base e size v n xs) : ∃ A c, v = .slice A n c := by
  rcases h.2 with ⟨e, h0⟩ | ⟨g, cap, cur, e, _⟩
  · exact ⟨none, 0, by rw [e, h0]⟩
  · exact ⟨_, _, e⟩
/-- What the orders taken are to the run. -/
structure CutF (s v : MS) (k : Nat) (xs : List MS) : Prop where
  len : xs.length = k
  get : ∀ j (h : j < xs.length), xs[j] = MS.goN j s
  at_ : v.at_ = (MS.goN k s).at_
  time : v.time = (MS.goN k s).time
  done : v.done = s.done + k
  ok : ∀ j, j ≤ k → (MS.goN j s).Ok
  go : ∀ j, j < k → (MS.goN j s).ends = 0
theorem cutF_of {s : MS} (hok : s.Ok) {n : Nat} {xs : List MS} (h : TakenOf n s xs) : ∃ k, k ≤ n ∧ CutF s (MS.run n s) k xs := by
  obtain ⟨k, hk, rfl, h0, h1⟩ := h
  obtain ⟨r1, r2, r3⟩ := MS.run_taken hk h0 h1
  refine ⟨k, hk, ⟨MS.taken_length k s, fun j hj => ?_, r1, r2, r3, fun j hj => hok.goN j fun i hi => h0 i (by omega), h0⟩⟩
  simp [MS.taken_]
/-- A step in a row of steps. -/
structure SpAt (U : World) (g i : Nat) (p a f o n t u : Int) : Prop where
  c0 : U.cell? ⟨g, i * 7, none⟩ = some (.int .i64 p)
  c1 : U.cell? ⟨g, i * 7 + 1, none⟩ = some (.int .i64 a)
  c2 : U.cell? ⟨g, i * 7 + 2, none⟩ = some (.int .i64 f)
  c3 : U.cell? ⟨g, i * 7 + 3, none⟩ = some (.int .i64 o)
  c4 : U.cell? ⟨g, i * 7 + 4, none⟩ = some (.int .i64 n)
  c5 : U.cell? ⟨g, i * 7 + 5, none⟩ = some (.int .i64 t)
  c6 : U.cell? ⟨g, i * 7 + 6, none⟩ = some (.int .i64 u)
theorem SpAt.below {U V : World} {g i : Nat} {p a f o n t u : Int} (h : SpAt U g i p a f o n t u) (hb : Below U.heap.size U V) (hg : g < U.heap.size) : SpAt V g i p a f o n t u :=
  ⟨(hb.cell (p := ⟨g, _, none⟩) hg).trans h.c0, (hb.cell (p := ⟨g, _, none⟩) hg).trans h.c1, (hb.cell (p := ⟨g, _, none⟩) hg).trans h.c2, (hb.cell (p := ⟨g, _, none⟩) hg).trans h.c3, (hb.cell (p := ⟨g, _, none⟩) hg).trans h.c4, (hb.cell (p := ⟨g, _, none⟩) hg).trans h.c5, (hb.cell (p := ⟨g, _, none⟩) hg).trans h.c6⟩
/-- A row of steps, at one of them. -/
theorem cut_cells {U : World} {base lc k : Nat} {LA : Option Addr} {xs : List MS} {s v : MS} (h : U.ownsRow base 60 7 (.slice LA xs.length lc) xs.length (stepsC xs)) (hF : CutF s v k xs) {j : Nat} (hj : j < k) :
    ∃ g, LA = some ⟨g, 0, none⟩ ∧ g < U.heap.size ∧ SpAt U g j (MS.goN j s).at_ (MS.goN j s).op (MS.goN j s).frm (MS.goN j s).to (MS.goN j s).nxt (MS.goN j s).time (MS.goN j s).until_ ∧ (j + 1 < k → U.cell? ⟨g, (j + 1) * 7, none⟩ = some (.int .i64 (MS.goN j s).follow)) := by
  have hl : j < xs.length := by rw [hF.len]; exact hj
  obtain ⟨g, rfl, hg1, hg2, hc⟩ := step_cell h hl
  refine ⟨g, rfl, hg2, ?_, fun hj1 => ?_⟩
  · rw [hF.get j hl] at hc
    exact ⟨hc 0 (by omega), hc 1 (by omega), hc 2 (by omega), hc 3 (by omega), hc 4 (by omega), hc 5 (by omega), hc 6 (by omega)⟩
  · have hl1 : j + 1 < xs.length := by rw [hF.len]; exact hj1
    obtain ⟨g', eg, _, _, hc'⟩ := step_cell h hl1
    cases eg
    rw [hF.get (j + 1) hl1] at hc'
    exact hc' 0 (by omega)
set_option maxRecDepth 100000 in
set_option maxHeartbeats 8000000 in
theorem cut_good (s t : MS) (n : Nat) (A0 A1 A3 : Option Addr) (n0 n1 n3 : Nat) (x0 x1 m m2 : Int) (hm : x0.tmod 2500 = m) (hm2 : x1.tmod 2500 = m2) (hx : 0 ≤ x0 ∧ x0 < 65536) (hx1 : 0 ≤ x1 ∧ x1 < 65536) (hok : s.Ok) (hn : m + m2 = n) (hn5 : n ≤ 5000) (W : World) (i0 : IntsAt W W.heap.size A0 s.store) (i1 : IntsAt W W.heap.size A1 s.tape) (i3 : IntsAt W W.heap.size A3 s.printed)
    (K : Hid (∀ w, IntsAt w w.heap.size A0 s.store → IntsAt w w.heap.size A1 s.tape → IntsAt w w.heap.size A3 s.printed → Calls Try.prog 19 #[stV A0 A1 A3 n0 n1 n3 s.store s.tape s.printed s.taken s.time s.at_ s.done s.why, .int .i64 m] w (StateOut w t 0)))
    (K2 : Hid (∀ B0 B1 B3 d0 d1 d3 w, IntsAt w w.heap.size B0 t.store → IntsAt w w.heap.size B1 t.tape → IntsAt w w.heap.size B3 t.printed → Calls Try.prog 19 #[stV B0 B1 B3 d0 d1 d3 t.store t.tape t.printed t.taken t.time t.at_ t.done t.why, .int .i64 m2] w (StateOut w (MS.run n s) 0)))
    (K3 : Hid (∀ w, IntsAt w w.heap.size A0 s.store → IntsAt w w.heap.size A1 s.tape → IntsAt w w.heap.size A3 s.printed → Calls Try.prog 19 #[stV A0 A1 A3 n0 n1 n3 s.store s.tape s.printed s.taken s.time s.at_ s.done s.why, .int .i64 n] w (StateOut w (MS.run n s) 0)))
    (K4 : Hid (∀ w, IntsAt w w.heap.size A0 s.store → IntsAt w w.heap.size A1 s.tape → IntsAt w w.heap.size A3 s.printed → Calls Try.prog 37 #[stV A0 A1 A3 n0 n1 n3 s.store s.tape s.printed s.taken s.time s.at_ s.done s.why, .int .i64 n] w (TraceOut w n s))) :
    Calls Try.prog 15 #[stV A0 A1 A3 n0 n1 n3 s.store s.tape s.printed s.taken s.time s.at_ s.done s.why, .agg #[.int .u16 x0, .int .u16 x1]] W fun e W' => e = .returned (.bool true) ∧ Below W.heap.size W W' := by
  have H := Lib.hid (And.intro i0 (And.intro i1 i3))
  have HO := Lib.hid hok
  have hokV := hok.run n
  have hl := okLens hokV
  have HF := Lib.hid (fun xs (h : TakenOf n s xs) => cutF_of hok h)
  clear i0 i1 i3 hok hokV
  obtain ⟨v, hv⟩ : ∃ v, v = MS.run n s := ⟨_, rfl⟩
  rw [← hv] at K2 K3 HF hl
  clear hv
  have hm0 : 0 ≤ m ∧ m < 2500 := by rw [← hm, Int.tmod_eq_emod_of_nonneg (by omega)]; omega
  have hm20 : 0 ≤ m2 ∧ m2 < 2500 := by rw [← hm2, Int.tmod_eq_emod_of_nonneg (by omega)]; omega
  have R0 := enW_new W (.slice A0 s.store.length n0) (.slice A1 s.tape.length n1) (.slice A3 s.printed.length n3) s.taken s.time s.at_ s.done s.why x0 x1 24 62
  go_enter Try.func15, Try.ntmps15
  go_wp2_with fail
  generalize (W.alloc (.cells #[.slice A0 s.store.length n0, .slice A1 s.tape.length n1, .int .i64 s.taken, .slice A3 s.printed.length n3, .int .i64 s.time, .int .i64 s.at_, .int .i64 s.done, .int .i64 s.why] 24)).alloc (.cells #[.int .u16 x0, .int .u16 x1] 62) = V0 at *
  have e0 := R0.e0
  have e1 := R0.e1
  obtain ⟨a0, a1, a2, a3, a4, a5, a6, a7⟩ := R0.arg
  go_quiet (fail)
  replace R0 := R0.after (below_drewN (k := nq) (Below.refl V0.heap.size V0))
  clear e0 e1 a0 a1 a2 a3 a4 a5 a6 a7
  generalize V0.drewN nq = V at *
  obtain ⟨a0, a1, a2, a3, a4, a5, a6, a7⟩ := R0.arg
  go_wp2_with fail
  -- t
  refine (K.out V (ints_at H.out.1 R0.below) (ints_at H.out.2.1 R0.below) (ints_at H.out.2.2 R0.below)).mono ?_; rintro e V1 ⟨B0, B1, B3, d0, d1, d3, rfl, j0, j1, j3, hb1⟩
  have R1 := R0.after hb1
  clear R0 hb1 K a0 a1 a2 a3 a4 a5 a6 a7
  obtain ⟨a0, a1, a2, a3, a4, a5, a6, a7⟩ := R1.arg
  have hs1 : W.heap.size < V1.heap.size := by have := R1.size; omega
  have HJ := Lib.hid (And.intro j0 (And.intro j1 j3))
  clear j0 j1 j3
  have HR1 := Lib.hid R1
  clear R1
  go_wp2_with fail
  -- u
  have hbA := alloc_below V1 (.cells #[.slice B0 t.store.length d0, .slice B1 t.tape.length d1, .int .i64 t.taken, .slice B3 t.printed.length d3, .int .i64 t.time, .int .i64 t.at_, .int .i64 t.done, .int .i64 t.why] 24)
  generalize V1.alloc (.cells #[.slice B0 t.store.length d0, .slice B1 t.tape.length d1, .int .i64 t.taken, .slice B3 t.printed.length d3, .int .i64 t.time, .int .i64 t.at_, .int .i64 t.done, .int .i64 t.why] 24) = V2 at *
  refine (K2.out B0 B1 B3 d0 d1 d3 V2 (ints_at HJ.out.1 hbA) (ints_at HJ.out.2.1 hbA) (ints_at HJ.out.2.2 hbA)).mono ?_; rintro e V3 ⟨C0, C1, C3, g0, g1, g3, rfl, r0, r1, r3, hb3⟩
  have R3 := HR1.out.after (hbA.trans (below_lower hbA.size hb3))
  have hs3 : W.heap.size < V3.heap.size := by have := R3.size; omega
  clear hbA hb3 K2 HR1 HJ a0 a1 a2 a3 a4 a5 a6 a7 hs1
  obtain ⟨a0, a1, a2, a3, a4, a5, a6, a7⟩ := R3.arg
  have HR3 := Lib.hid R3
  have HC3 := Lib.hid (And.intro r0 (And.intro r1 r3))
  clear R3 r0 r1 r3
  have en : IntKind.i64.wrap (m + m2) = n := by rw [IntKind.wrap_i64]; omega
  go_wp2_with fail
  -- v
  have hbA := alloc_below V3 (.cells #[.slice C0 v.store.length g0, .slice C1 v.tape.length g1, .int .i64 v.taken, .slice C3 v.printed.length g3, .int .i64 v.time, .int .i64 v.at_, .int .i64 v.done, .int .i64 v.why] 24)
  have SU := StAt.new V3 (.slice C0 v.store.length g0) (.slice C1 v.tape.length g1) (.slice C3 v.printed.length g3) v.taken v.time v.at_ v.done v.why 24
  have hku : V3.heap.size < (V3.alloc (.cells #[.slice C0 v.store.length g0, .slice C1 v.tape.length g1, .int .i64 v.taken, .slice C3 v.printed.length g3, .int .i64 v.time, .int .i64 v.at_, .int .i64 v.done, .int .i64 v.why] 24)).heap.size := by simp
  generalize V3.alloc (.cells #[.slice C0 v.store.length g0, .slice C1 v.tape.length g1, .int .i64 v.taken, .slice C3 v.printed.length g3, .int .i64 v.time, .int .i64 v.at_, .int .i64 v.done, .int .i64 v.why] 24) = V4 at *
  have hbH := HR3.out.below.trans (below_lower HR3.out.below.size hbA)
  refine (K3.out V4 (ints_at H.out.1 hbH) (ints_at H.out.2.1 hbH) (ints_at H.out.2.2 hbH)).mono ?_; rintro e V5 ⟨D0, D1, D3, q0, q1, q3, rfl, r0, r1, r3, hb5⟩
  have hb35 := hbA.trans (below_lower hbA.size hb5)
  have R5 := HR3.out.after hb35
  have HC5 := Lib.hid (And.intro (ints_at HC3.out.1 hb35) (And.intro (ints_at HC3.out.2.1 hb35) (ints_at HC3.out.2.2 hb35)))
  have HD5 := Lib.hid (And.intro r0 (And.intro r1 r3))
  have SU5 := Lib.hid (SU.below hb5 hku)
  have hku5 : V3.heap.size < V5.heap.size := Nat.lt_of_lt_of_le hku hb5.size
  have hs5 : W.heap.size < V5.heap.size := by have := R5.size; omega
  have HR5 := Lib.hid R5
  clear hbA hbH hb5 hb35 SU hku K3 HR3 HC3 a0 a1 a2 a3 a4 a5 a6 a7 r0 r1 r3 R5
  obtain ⟨a0, a1, a2, a3, a4, a5, a6, a7⟩ := HR5.out.arg
  go_wp2_with fail
  -- l
  have hbA := alloc_below V5 (.cells #[.slice D0 v.store.length q0, .slice D1 v.tape.length q1, .int .i64 v.taken, .slice D3 v.printed.length q3, .int .i64 v.time, .int .i64 v.at_, .int .i64 v.done, .int .i64 v.why] 24)
  have SV := StAt.new V5 (.slice D0 v.store.length q0) (.slice D1 v.tape.length q1) (.slice D3 v.printed.length q3) v.taken v.time v.at_ v.done v.why 24
  have hkv : V5.heap.size < (V5.alloc (.cells #[.slice D0 v.store.length q0, .slice D1 v.tape.length q1, .int .i64 v.taken, .slice D3 v.printed.length q3, .int .i64 v.time, .int .i64 v.at_, .int .i64 v.done, .int .i64 v.why] 24)).heap.size := by simp
  generalize V5.alloc (.cells #[.slice D0 v.store.length q0, .slice D1 v.tape.length q1, .int .i64 v.taken, .slice D3 v.printed.length q3, .int .i64 v.time, .int .i64 v.at_, .int .i64 v.done, .int .i64 v.why] 24) = V6 at *
  have hbH := HR5.out.below.trans (below_lower HR5.out.below.size hbA)
  refine (K4.out V6 (ints_at H.out.1 hbH) (ints_at H.out.2.1 hbH) (ints_at H.out.2.2 hbH)).mono ?_; rintro e V7 ⟨lv, xs, rfl, hT, hown, hb7⟩
  obtain ⟨k, hk, hF⟩ := HF.out xs hT
  obtain ⟨LA, lc, rfl⟩ := own_slice hown
  have hb57 := hbA.trans (below_lower hbA.size hb7)
  have R7 := HR5.out.after hb57
  have HC7 := Lib.hid (And.intro (ints_at HC5.out.1 hb57) (And.intro (ints_at HC5.out.2.1 hb57) (ints_at HC5.out.2.2 hb57)))
  have HD7 := Lib.hid (And.intro (ints_at HD5.out.1 hb57) (And.intro (ints_at HD5.out.2.1 hb57) (ints_at HD5.out.2.2 hb57)))
  have SU7 := Lib.hid (SU5.out.below hb57 hku5)
  have SV7 := Lib.hid (SV.below hb7 hkv)
  have hku7 : V3.heap.size < V7.heap.size := Nat.lt_of_lt_of_le hku5 hb57.size
  have hkv7 : V5.heap.size < V7.heap.size := Nat.lt_of_lt_of_le hkv hb7.size
  have hs7 : W.heap.size < V7.heap.size := by have := R7.size; omega
  have HL := Lib.hid hown
  have HR7 := Lib.hid R7
  clear hbA hbH hb7 hb57 SV SU5 hkv hku5 hs5 hs3 K4 HR5 HC5 HD5 a0 a1 a2 a3 a4 a5 a6 a7 R7 hown HF hT
  obtain ⟨a0, a1, a2, a3, a4, a5, a6, a7⟩ := HR7.out.arg
  obtain ⟨b0, b1, b2, b3, b4, b5, b6, b7⟩ := SU7.out
  obtain ⟨c0, c1, c2, c3, c4, c5, c6, c7⟩ := SV7.out
  have hlen : xs.length = k := hF.len
  have hdn : v.done = s.done + k := hF.done
  have hsd := HO.out.done
  have hst := HO.out.time
  have ew : IntKind.i64.wrap (v.done - s.done) = (xs.length : Int) := by rw [IntKind.wrap_i64, hlen, hdn]; omega
  have HF := Lib.hid hF
  clear hF hdn hsd hst hlen
  go_wp2_with fail
  refine (states_same C0 C1 C3 D0 D1 D3 g0 g1 g3 q0 q1 q3 v.store v.tape v.printed v.taken v.time v.at_ v.done v.why hl.1 hl.2.1 hl.2.2 _ HC7.out.1 HC7.out.2.1 HC7.out.2.2 HD7.out.1 HD7.out.2.1 HD7.out.2.2).mono ?_
  rintro e V8 ⟨rfl, hb8⟩
  have R8 := HR7.out.after hb8
  have SV8 := SV7.out.below hb8 hkv7
  have HL8 := Lib.hid (own_same HL.out fun k e => hb8.block k (HL.out.lt k e).2)
  have HB8 := Lib.hid R8.below
  have hkv8 : V5.heap.size < V8.heap.size := Nat.lt_of_lt_of_le hkv7 hb8.size
  have hs8 : W.heap.size < V8.heap.size := by have := R8.size; omega
  clear a0 a1 a2 a3 a4 a5 a6 a7 b0 b1 b2 b3 b4 b5 b6 b7 c0 c1 c2 c3 c4 c5 c6 c7 SU7 SV7 HR7 HC7 HD7 HL hku7 hkv7 hs7 hb8 hl H
  obtain ⟨a0, a1, a2, a3, a4, a5, a6, a7⟩ := R8.arg
  have HS8 := Lib.hid SV8
  have HR8 := Lib.hid R8
  clear R8
  obtain ⟨c0, c1, c2, c3, c4, c5, c6, c7⟩ := SV8
  go_wp2_with fail
  go_quiet (fail)
  have hbq : Below V8.heap.size V8 (V8.drewN nq) := below_drewN (Below.refl _ V8)
  have HS9 := Lib.hid (HS8.out.below hbq hkv8)
  have HL9 := Lib.hid (own_same HL8.out fun k e => hbq.block k (HL8.out.lt k e).2)
  have HB9 := Lib.hid (HB8.out.trans (below_lower HB8.out.size hbq))
  have hkv9 : V5.heap.size < (V8.drewN nq).heap.size := Nat.lt_of_lt_of_le hkv8 hbq.size
  clear a0 a1 a2 a3 a4 a5 a6 a7 c0 c1 c2 c3 c4 c5 c6 c7 HS8 HL8 HB8 HR8 hkv8 hs8 hbq ew
  generalize V8.drewN nq = V9 at *
  have HN := Lib.hid HF.out.len
  go_wp2_with fail
  go_loopw [14, 15, 16] (fun at' tm i wr => ∃ j : Nat, j ≤ k ∧ i = .int .i64 j ∧ at' = .int .i64 (MS.goN j s).at_ ∧ tm = .int .i64 (MS.goN j s).time ∧ Below V9.heap.size V9 wr) (fun _ _ i _ => k - (intOf i).toNat)
  case atStart => exact ⟨0, by omega, rfl, rfl, rfl, Below.refl _ _⟩
  case round =>
    obtain ⟨j, hj, rfl, rfl, rfl, hb⟩ := hrel
    obtain ⟨c0, c1, c2, c3, c4, c5, c6, c7⟩ := HS9.out.below hb hkv9
    by_cases hlt : j < k
    · have HLr := Lib.hid (own_same HL9.out fun k e => hb.block k (HL9.out.lt k e).2)
      obtain ⟨g, rfl, hg, hsp, hnext⟩ := cut_cells HLr.out HF.out hlt
      have hokj := HF.out.ok j (by omega)
      have hgo := HF.out.go j hlt
      have hoo := hokj.order
      have hop := (MS.ends_zero hgo).2.1
      have htm := hokj.time
      have hul := MS.until_lt (MS.goN j s)
      have W0 := cwhen_ok _ _ _ _ _ false hoo hop htm
      have W1 := cwhen_ok _ _ _ _ _ true hoo hop htm
      have hq := MS.follow_or (MS.goN j s)
      have hu := MS.until_or (MS.goN j s)
      have hvq : j + 1 = k → v.at_ = (MS.goN j s).follow := fun e => by subst e; exact HF.out.at_
      have HG := Lib.hid (And.intro (MS.goN_at j s) (MS.goN_time j s))
      have hwo := hokj.word
      clear hokj hgo hoo hop hwo
      generalize (MS.goN j s).follow = q at *
      generalize (MS.goN j s).until_ = un at *
      generalize (MS.goN j s).at_ = p at *
      generalize (MS.goN j s).time = tm at *
      generalize (MS.goN j s).op = a at *
      generalize (MS.goN j s).frm = f at *
      generalize (MS.goN j s).to = o at *
      generalize (MS.goN j s).nxt = nx at *
      generalize atO a o nx false = q0 at *
      generalize atO a o nx true = q1 at *
      generalize untilO a f o nx tm false = u0 at *
      generalize untilO a f o nx tm true = u1 at *
      have HX := Lib.hid (And.intro hnext (And.intro hvq (And.intro hq hu)))
      clear hnext hvq hq hu
      have HP := Lib.hid hsp
      obtain ⟨z0, z1, z2, z3, z4, z5, z6⟩ := hsp
      have hlk : (j : Int) < (xs.length : Int) := by have := HN.out; omega
      have hlj : j < xs.length := by have := HN.out; omega
      go_wp2_with fail
      refine (W0 wr).mono ?_; rintro e w1 ⟨rfl, hb1⟩
      have HP1 := HP.out.below hb1 hg
      have hg1 := Nat.lt_of_lt_of_le hg hb1.size
      have bw1 := hb.trans (below_lower hb.size hb1)
      clear z0 z1 z2 z3 z4 z5 z6 c0 c1 c2 c3 c4 c5 c6 c7 W0
      obtain ⟨z0, z1, z2, z3, z4, z5, z6⟩ := HP1
      go_wp2_with fail
      refine (W1 w1).mono ?_; rintro e w2 ⟨rfl, hb2⟩
      have hb12 := hb1.trans (below_lower hb1.size hb2)
      have HP2 := HP.out.below hb12 hg
      have hg2 := Nat.lt_of_lt_of_le hg1 hb2.size
      have bw2 := bw1.trans (below_lower bw1.size hb2)
      have HZ := Lib.hid (fun h => (hb12.cell (p := ⟨g, (j + 1) * 7, none⟩) hg).trans (HX.out.1 h))
      have HY := Lib.hid HX.out.2
      clear z0 z1 z2 z3 z4 z5 z6 hb1 hb2 hb12 bw1 HX HP hg hg1 W1 hb HLr
      obtain ⟨z0, z1, z2, z3, z4, z5, z6⟩ := HP2
      obtain ⟨c0, c1, c2, c3, c4, c5, c6, c7⟩ := HS9.out.below bw2 hkv9
      have CU : (u0 != un) = false ∨ ((u0 != un) = true ∧ (u1 != un) = false) := by
        by_cases h : u0 = un
        · exact .inl (by simp [h])
        · rcases HY.out.2.2 with e | e
          · exact absurd e.symm h
          · exact .inr ⟨by simpa using h, by simp [e]⟩
      have CQ : q0 = q ∨ ((q != q0) = true ∧ q1 = q) := by
        by_cases h : q0 = q
        · exact .inl h
        · rcases HY.out.2.1 with e | e
          · exact absurd e.symm h
          · exact .inr ⟨by simpa using fun e => h e.symm, e.symm⟩
      by_cases hlast : j + 1 < k
      · have zn := HZ.out hlast
        have f1 : ((j : Int) + 1 == (xs.length : Int)) = false := by have := HN.out; simp; omega
        have hlk1 : (j : Int) + 1 < (xs.length : Int) := by have := HN.out; omega
        have hlj1 : j + 1 < xs.length := by have := HN.out; omega
        have hk1 : j + 1 ≤ k := by omega
        rcases CU with d1 | ⟨d1, d2⟩
        · rcases CQ with rfl | ⟨d3, rfl⟩
          · go_wp2_with fail
            exact ⟨⟨j + 1, hk1, by simp, by rw [HG.out.1], by rw [HG.out.2], bw2⟩, by simp [intOf]; omega⟩
          · go_wp2_with fail
            exact ⟨⟨j + 1, hk1, by simp, by rw [HG.out.1], by rw [HG.out.2], bw2⟩, by simp [intOf]; omega⟩
        · rcases CQ with rfl | ⟨d3, rfl⟩
          · go_wp2_with fail
            exact ⟨⟨j + 1, hk1, by simp, by rw [HG.out.1], by rw [HG.out.2], bw2⟩, by simp [intOf]; omega⟩
          · go_wp2_with fail
            exact ⟨⟨j + 1, hk1, by simp, by rw [HG.out.1], by rw [HG.out.2], bw2⟩, by simp [intOf]; omega⟩
      · have hjk : j + 1 = k := by omega
        rw [HY.out.1 hjk] at c5
        have f1 : ((j : Int) + 1 == (xs.length : Int)) = true := by have := HN.out; simp; omega
        have hlk1 : ¬ (j : Int) + 1 < (xs.length : Int) := by have := HN.out; omega
        have hk1 : j + 1 ≤ k := by omega
        rcases CU with d1 | ⟨d1, d2⟩
        · rcases CQ with rfl | ⟨d3, rfl⟩
          · go_wp2_with fail
            exact ⟨⟨j + 1, hk1, by simp, by rw [HG.out.1], by rw [HG.out.2], bw2⟩, by simp [intOf]; omega⟩
          · go_wp2_with fail
            exact ⟨⟨j + 1, hk1, by simp, by rw [HG.out.1], by rw [HG.out.2], bw2⟩, by simp [intOf]; omega⟩
        · rcases CQ with rfl | ⟨d3, rfl⟩
          · go_wp2_with fail
            exact ⟨⟨j + 1, hk1, by simp, by rw [HG.out.1], by rw [HG.out.2], bw2⟩, by simp [intOf]; omega⟩
          · go_wp2_with fail
            exact ⟨⟨j + 1, hk1, by simp, by rw [HG.out.1], by rw [HG.out.2], bw2⟩, by simp [intOf]; omega⟩
    · have hjk : j = k := by omega
      subst hjk
      have e1 := HF.out.at_
      have e2 := HF.out.time
      rw [e1] at c5
      rw [e2] at c4
      have hge : ¬ (j : Int) < (xs.length : Int) := by have := HN.out; omega
      clear e1 e2 hlt
      generalize (MS.goN j s).at_ = p at *
      generalize (MS.goN j s).time = tm at *
      go_wp2_with fail
      refine (awake_r _).mono ?_; rintro e w9 ⟨rfl, hb9⟩
      go_wp2
      go_ret
      exact ⟨rfl, HB9.out.trans (below_lower HB9.out.size (hb.trans (below_lower hb.size hb9)))⟩
end Go.Proofs.Ytmkcijecncdhpaa
namespace Go.Proofs.Ytmkcijecncdhpaa
open Go.RowKit
set_option linter.unusedVariables false
set_option linter.unusedSimpArgs false

theorem orderCut_walk (w : World) (A0 A1 A3 : Option Addr) (n0 n1 n3 : Nat) (z0 z1 z3 : List Int) (a2 a4 a5 a6 a7 : Int)
    (s0 : z0.length ≤ maxLen ∧ IntsAt w w.heap.size A0 z0 ∧ ∀ n ∈ z0, (Lit.int .i64 n).wf = true) (s1 : z1.length ≤ maxLen ∧ IntsAt w w.heap.size A1 z1 ∧ ∀ n ∈ z1, (Lit.int .i64 n).wf = true) (s3 : z3.length ≤ maxLen ∧ IntsAt w w.heap.size A3 z3 ∧ ∀ n ∈ z3, (Lit.int .i64 n).wf = true)
    (w2 : (Lit.int .i64 a2).wf = true) (w4 : (Lit.int .i64 a4).wf = true) (w5 : (Lit.int .i64 a5).wf = true) (w6 : (Lit.int .i64 a6).wf = true) (w7 : (Lit.int .i64 a7).wf = true) (x0 x1 : Int) (y0 : 0 ≤ x0 ∧ x0 ≤ 65535) (y1 : 0 ≤ x1 ∧ x1 ≤ 65535) :
    Calls Try.prog 15 #[stV A0 A1 A3 n0 n1 n3 z0 z1 z3 a2 a4 a5 a6 a7, .agg #[.int .u16 x0, .int .u16 x1]] w fun e w' => e = .returned (.bool true) ∧ Below w.heap.size w w' := by
  have hm : x0.tmod 2500 = x0 % 2500 := Int.tmod_eq_emod_of_nonneg (by omega)
  have hm2 : x1.tmod 2500 = x1 % 2500 := Int.tmod_eq_emod_of_nonneg (by omega)
  obtain ⟨s, hs⟩ : ∃ s : MS, s = ⟨z0, z1, z3, a2, a4, a5, a6, a7⟩ := ⟨_, rfl⟩
  have l0 : s.store.length ≤ maxLen := by rw [hs]; exact s0.1
  have l1 : s.tape.length ≤ maxLen := by rw [hs]; exact s1.1
  have l3 : s.printed.length ≤ maxLen := by rw [hs]; exact s3.1
  have K := fun w j0 j1 j3 => run_any s (x0 % 2500) A0 A1 A3 n0 n1 n3 l0 l1 l3 w j0 j1 j3
  show Calls Try.prog _ #[stV A0 A1 A3 n0 n1 n3 (⟨z0, z1, z3, a2, a4, a5, a6, a7⟩ : MS).store (⟨z0, z1, z3, a2, a4, a5, a6, a7⟩ : MS).tape (⟨z0, z1, z3, a2, a4, a5, a6, a7⟩ : MS).printed (⟨z0, z1, z3, a2, a4, a5, a6, a7⟩ : MS).taken (⟨z0, z1, z3, a2, a4, a5, a6, a7⟩ : MS).time (⟨z0, z1, z3, a2, a4, a5, a6, a7⟩ : MS).at_ (⟨z0, z1, z3, a2, a4, a5, a6, a7⟩ : MS).done (⟨z0, z1, z3, a2, a4, a5, a6, a7⟩ : MS).why, _] _ _
  have i0 : IntsAt w w.heap.size A0 s.store := by rw [hs]; exact s0.2.1
  have i1 : IntsAt w w.heap.size A1 s.tape := by rw [hs]; exact s1.2.1
  have i3 : IntsAt w w.heap.size A3 s.printed := by rw [hs]; exact s3.2.1
  rw [← hs]
  clear hs s0 s1 s3
  by_cases he : s.err (x0 % 2500) = 0
  · obtain ⟨ho, hm0, hm5⟩ := MS.err_zero he
    rw [MS.out_ok he, he] at K
    obtain ⟨m, hmm⟩ := Int.eq_ofNat_of_zero_le hm0
    obtain ⟨m2, hmm2⟩ := Int.eq_ofNat_of_zero_le (show 0 ≤ x1 % 2500 by omega)
    have ht : (x0 % 2500).toNat = m := by omega
    have ht2 : (x1 % 2500).toNat = m2 := by omega
    have hn : x0 % 2500 + x1 % 2500 = ((m + m2 : Nat) : Int) := by omega
    have hn5 : m + m2 ≤ 5000 := by omega
    have htn : (((m + m2 : Nat) : Int)).toNat = m + m2 := by omega
    rw [ht] at K
    have hok := ho.run m
    obtain ⟨m0, m1, m3⟩ := okLens hok
    have hen : s.err ((m + m2 : Nat) : Int) = 0 := MS.err_ok ho (by omega)
    have K3 := fun w j0 j1 j3 => run_any s ((m + m2 : Nat) : Int) A0 A1 A3 n0 n1 n3 l0 l1 l3 w j0 j1 j3
    rw [MS.out_ok hen, hen, htn] at K3
    have KE := fun w j0 j1 j3 => errorOfRun_any s ((m + m2 : Nat) : Int) A0 A1 A3 n0 n1 n3 l0 l1 l3 w j0 j1 j3
    rw [hen] at KE
    refine cut_good s (MS.run m s) (m + m2) A0 A1 A3 n0 n1 n3 x0 x1 _ _ hm hm2 (by omega) (by omega) ho hn hn5 w i0 i1 i3 (Lib.hid K) (Lib.hid fun B0 B1 B3 d0 d1 d3 W j0 j1 j3 => ?_) (Lib.hid K3) (Lib.hid fun W j0 j1 j3 => trace_ok s ho (m + m2) hn5 A0 A1 A3 n0 n1 n3 W j0 j1 j3 (Lib.hid KE))
    have h2 := run_any (MS.run m s) (x1 % 2500) B0 B1 B3 d0 d1 d3 m0 m1 m3 W j0 j1 j3
    have he2 : (MS.run m s).err (x1 % 2500) = 0 := MS.err_ok hok (by omega)
    rw [MS.out_ok he2, he2, ht2, ← MS.run_add] at h2
    exact h2
  · rw [MS.out_bad he] at K
    exact cut_bad s A0 A1 A3 n0 n1 n3 x0 x1 _ _ hm (by omega) (by omega) he w i0 i1 i3 (Lib.hid K)
end Go.Proofs.Ytmkcijecncdhpaa
namespace Go.Proofs.Ytmkcijecncdhpaa
open Go.ChangeShapes Go.WideShapes Go.ChangeAt Go.RowKit
set_option linter.unusedVariables false
set_option linter.unusedSimpArgs false
set_option maxRecDepth 100000 in
theorem orderCut_lifted (os : Os) (started : os.Started) (H : Type) (enc : TypeId × Value → H) :
    ReturnsInHanded {} Try.checked os 15 .any (Rows.orderCutSpec.pre6 enc Try.prog Try.f15 Rows.orderCutRow.domain false) (Rows.orderCutSpec.post enc Try.prog Try.f15 false true false false) := by
  refine returnsInHanded_of_change (C := Try.checked) seat_own started (by kernel_rfl) Try.func15
    (ChangeSpec.witness6 (enc := enc) (C := Try.checked) false ⟨#[], #[.agg #[.slice none 0 0, .slice none 0 0, .int .i64 0, .slice none 0 0, .int .i64 0, .int .i64 0, .int .i64 0, .int .i64 0], .agg #[.int .u16 0, .int .u16 0]], []⟩ 8 (by kernel_rfl) (by kernel_rfl) (by kernel_rfl) (by kernel_rfl)) ?_
  intro W base args ds gs before hval0 hW hcnd _
  have hval : ∀ (j : Nat) t v, Try.f15.params[j]? = some t → args[j]? = some v → Value.okWide Try.prog W .any base t v := hval0
  have hW' := hW
  obtain ⟨p, q, hA0, hV, rfl, hfz, hnd⟩ := hW
  have hA : DataW.TrodAll enc Try.prog W 0 (fun _ => true) true Try.f15.params.toList args.toList ds p := hA0
  rw [Try.params15] at hA hval
  obtain ⟨v0, vs0, d0, ds0, p0, q0, hargs, rfl, rfl, h0, r0⟩ := trodAll_cons hA
  obtain ⟨v1, vs1, d1, ds1, p1, q1, rfl, rfl, rfl, h1, r1⟩ := trodAll_cons r0
  obtain ⟨rfl, rfl, rfl⟩ := trodAll_nil r1
  obtain rfl : args = #[v0, v1] := by cases args; simp_all
  obtain ⟨rfl, rfl⟩ := trodVars_none hV
  have k0 := h0
  have lt0 : ∀ x ∈ p0, x.block < W.heap.size := by obtain ⟨m, hm⟩ := k0; exact DataW.trod_lt m _ _ _ hm
  have k1 := h1
  have lt1 : ∀ x ∈ p1, x.block < W.heap.size := by obtain ⟨m, hm⟩ := k1; exact DataW.trod_lt m _ _ _ hm
  obtain ⟨A0, A1, A3, n0, n1, n3, z0, z1, z3, a2, a4, a5, a6, a7, rfl, s0, s1, s3, w2, w4, w5, w6, w7⟩ := state_open (hval 0 24 v0 rfl rfl) h0
  obtain ⟨x10, x11, rfl, y10, y11⟩ := u16x2_open (hval 1 62 v1 rfl rfl) h1
  clear hA0 hval0
  refine (orderCut_walk W A0 A1 A3 n0 n1 n3 z0 z1 z3 a2 a4 a5 a6 a7 s0 s1 s3 w2 w4 w5 w6 w7 x10 x11 y10 y11).mono fun e W' ⟨he, bel⟩ => ?_
  subst he
  exact ⟨_, rfl, _, _, _, [], _, [], hW', trodAll_mk1 (shut_bool Try.underlying4 _), (trodAll_cons_mk (Below.trod seat_laidOut (by kernel_rfl) (of_decide_eq_true (by kernel_rfl)) k0 bel lt0) (trodAll_cons_mk (Below.trod seat_laidOut (by kernel_rfl) (of_decide_eq_true (by kernel_rfl)) k1 bel lt1) trodAll_mk0)), rfl, bel.frame _, fun h => by cases h⟩

theorem orderCut_fn : Try.pinned.checked.prog.funcNamed Rows.orderCutRow.func = some 15 := by kernel_rfl
theorem orderCut_closed : joinedFacts Try.pinned.checked.prog 15 Try.f15 Rows.orderCutSpec Rows.orderCutRow = true := by
  show joinedFacts Try.prog 15 Try.f15 Rows.orderCutSpec Rows.orderCutRow = true
  unfold joinedFacts
  rw [prog_mayEnter, prog_lifts, prog_make]
  kernel_rfl
theorem orderCut_inst : Try.f15.isInstance Try.pinned.checked.prog Rows.orderCutRow.origin Rows.orderCutRow.targs := of_decide_eq_true (by kernel_rfl)
theorem orderCut_wrap : Try.f15.isWrapper Try.pinned.checked.prog Rows.orderCutRow.wrapper Rows.orderCutRow.mainSum := by unfold Func.isWrapper; first | (rw [if_pos (by decide +kernel)]; kernel_rfl) | (rw [if_neg (by decide +kernel)]; exact ⟨rfl, rfl⟩)

theorem orderCut_over : Rows.orderCutRow.holds Try.pinned (OpenSpec.ofChange Rows.orderCutSpec) :=
  OpenClaim.holds_of_wide 15 Try.f15 rfl rfl rfl rfl rfl rfl rfl ⟨rfl, rfl, rfl, rfl, rfl⟩ rfl rfl rfl rfl rfl orderCut_fn Try.func15 orderCut_closed
    orderCut_inst orderCut_wrap
    (fun os started H enc _ => orderCut_lifted os started H enc)

/-- The statement. -/
theorem orderCut_holds : Rows.OrderCutSaid := orderCut_over
end Go.Proofs.Ytmkcijecncdhpaa
