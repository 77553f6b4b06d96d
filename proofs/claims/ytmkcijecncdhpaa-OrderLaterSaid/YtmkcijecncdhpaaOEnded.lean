/-
  OrderEnded: the walk. No statement is proved here.
-/
import Derived.Test.YtmkcijecncdhpaaSt7
import Derived.Test.YtmkcijecncdhpaaOAwake
namespace Go.Proofs.Ytmkcijecncdhpaa
open Go.RowKit
set_option linter.unusedVariables false
set_option linter.unusedSimpArgs false

theorem awake_r (w : World) : Calls Try.prog 22 #[] w (fun e w' => e = .returned (.bool true) ∧ Below w.heap.size w w') := Ev.awake w
/-- What the arguments' boxes hold. -/
structure EnW (W : World) (v0 v1 v3 : Value) (a2 a4 a5 a6 a7 x0 x1 : Int) (U : World) : Prop where
  below : Below W.heap.size W U
  arg : StAt U W.heap.size v0 v1 v3 a2 a4 a5 a6 a7
  e0 : U.cell? ⟨W.heap.size + 1, 0, none⟩ = some (.int .u16 x0)
  e1 : U.cell? ⟨W.heap.size + 1, 1, none⟩ = some (.int .u16 x1)
  size : W.heap.size + 2 ≤ U.heap.size
theorem EnW.after {W U V : World} {v0 v1 v3 : Value} {a2 a4 a5 a6 a7 x0 x1 : Int} (h : EnW W v0 v1 v3 a2 a4 a5 a6 a7 x0 x1 U) (hb : Below U.heap.size U V) : EnW W v0 v1 v3 a2 a4 a5 a6 a7 x0 x1 V :=
  have hs := h.size
  ⟨h.below.trans (below_lower (by omega) hb), h.arg.below hb (by omega), (hb.cell (p := ⟨W.heap.size + 1, 0, none⟩) (by show W.heap.size + 1 < _; omega)).trans h.e0, (hb.cell (p := ⟨W.heap.size + 1, 1, none⟩) (by show W.heap.size + 1 < _; omega)).trans h.e1, Nat.le_trans hs hb.size⟩
theorem enW_new (W : World) (v0 v1 v3 : Value) (a2 a4 a5 a6 a7 x0 x1 : Int) (T T' : TypeId) : EnW W v0 v1 v3 a2 a4 a5 a6 a7 x0 x1 ((W.alloc (.cells #[v0, v1, .int .i64 a2, v3, .int .i64 a4, .int .i64 a5, .int .i64 a6, .int .i64 a7] T)).alloc (.cells #[.int .u16 x0, .int .u16 x1] T')) :=
  ⟨by go_grown, (StAt.new W v0 v1 v3 a2 a4 a5 a6 a7 T).below ((Below.refl _ _).alloc (Nat.le_refl _) _) (by simp), by simp [go_sem], by simp [go_sem], by simp⟩
set_option maxRecDepth 100000 in
set_option maxHeartbeats 4000000 in
theorem ended_bad (s : MS) (A0 A1 A3 : Option Addr) (n0 n1 n3 : Nat) (x0 x1 m k : Int) (hm : x0.tmod 5001 = m) (hx : 0 ≤ x0 ∧ x0 < 65536) (hk : k ≠ 0) (W : World) (i0 : IntsAt W W.heap.size A0 s.store) (i1 : IntsAt W W.heap.size A1 s.tape) (i3 : IntsAt W W.heap.size A3 s.printed)
    (K : Hid (∀ w, IntsAt w w.heap.size A0 s.store → IntsAt w w.heap.size A1 s.tape → IntsAt w w.heap.size A3 s.printed → Calls Try.prog 19 #[stV A0 A1 A3 n0 n1 n3 s.store s.tape s.printed s.taken s.time s.at_ s.done s.why, .int .i64 m] w (StateOut w MS.zero k))) :
    Calls Try.prog 14 #[stV A0 A1 A3 n0 n1 n3 s.store s.tape s.printed s.taken s.time s.at_ s.done s.why, .agg #[.int .u16 x0, .int .u16 x1]] W fun e W' => e = .returned (.bool true) ∧ Below W.heap.size W W' := by
  have H := Lib.hid (And.intro i0 (And.intro i1 i3))
  clear i0 i1 i3
  have q : (k != 0) = true := by simpa using hk
  have R0 := enW_new W (.slice A0 s.store.length n0) (.slice A1 s.tape.length n1) (.slice A3 s.printed.length n3) s.taken s.time s.at_ s.done s.why x0 x1 24 62
  go_enter Try.func14, Try.ntmps14
  go_wp2_with fail
  generalize (W.alloc (.cells #[.slice A0 s.store.length n0, .slice A1 s.tape.length n1, .int .i64 s.taken, .slice A3 s.printed.length n3, .int .i64 s.time, .int .i64 s.at_, .int .i64 s.done, .int .i64 s.why] 24)).alloc (.cells #[.int .u16 x0, .int .u16 x1] 62) = V0 at *
  refine (K.out V0 (ints_at H.out.1 R0.below) (ints_at H.out.2.1 R0.below) (ints_at H.out.2.2 R0.below)).mono ?_; rintro e V1 ⟨B0, B1, B3, d0, d1, d3, rfl, j0, j1, j3, hb1⟩
  have HB := Lib.hid (R0.after hb1).below
  clear R0 hb1 j0 j1 j3
  simp only [MS.zero, List.length_nil]
  go_wp2_with fail
  refine (awake_r _).mono ?_; rintro e w7 ⟨rfl, hb7⟩
  go_wp2
  go_ret
  exact ⟨rfl, HB.out.trans (below_lower HB.out.size ((alloc_below V1 _).trans (below_lower (by simp) hb7)))⟩
/-- A run that is done, or goes on. -/
structure EndF (s t : MS) (m : Int) : Prop where
  d : 0 ≤ s.done ∧ s.done ≤ t.done ∧ t.done ≤ 1000000000
  m : t.done - s.done ≤ m ∧ m ≤ 5000
  tm : s.time ≤ t.time
set_option maxRecDepth 100000 in
set_option maxHeartbeats 4000000 in
theorem ended_going (s t : MS) (A0 A1 A3 : Option Addr) (n0 n1 n3 : Nat) (x0 x1 m : Int) (hm : x0.tmod 5001 = m) (hx : 0 ≤ x0 ∧ x0 < 65536) (hf : EndF s t m) (hg : t.why = 0) (hd : t.done - s.done = m) (W : World) (i0 : IntsAt W W.heap.size A0 s.store) (i1 : IntsAt W W.heap.size A1 s.tape) (i3 : IntsAt W W.heap.size A3 s.printed)
    (K : Hid (∀ w, IntsAt w w.heap.size A0 s.store → IntsAt w w.heap.size A1 s.tape → IntsAt w w.heap.size A3 s.printed → Calls Try.prog 19 #[stV A0 A1 A3 n0 n1 n3 s.store s.tape s.printed s.taken s.time s.at_ s.done s.why, .int .i64 m] w (StateOut w t 0))) :
    Calls Try.prog 14 #[stV A0 A1 A3 n0 n1 n3 s.store s.tape s.printed s.taken s.time s.at_ s.done s.why, .agg #[.int .u16 x0, .int .u16 x1]] W fun e W' => e = .returned (.bool true) ∧ Below W.heap.size W W' := by
  have H := Lib.hid (And.intro i0 (And.intro i1 i3))
  clear i0 i1 i3
  obtain ⟨⟨p1, p2, p3⟩, ⟨p4, p5⟩, p6⟩ := hf
  have R0 := enW_new W (.slice A0 s.store.length n0) (.slice A1 s.tape.length n1) (.slice A3 s.printed.length n3) s.taken s.time s.at_ s.done s.why x0 x1 24 62
  go_enter Try.func14, Try.ntmps14
  go_wp2_with fail
  generalize (W.alloc (.cells #[.slice A0 s.store.length n0, .slice A1 s.tape.length n1, .int .i64 s.taken, .slice A3 s.printed.length n3, .int .i64 s.time, .int .i64 s.at_, .int .i64 s.done, .int .i64 s.why] 24)).alloc (.cells #[.int .u16 x0, .int .u16 x1] 62) = V0 at *
  refine (K.out V0 (ints_at H.out.1 R0.below) (ints_at H.out.2.1 R0.below) (ints_at H.out.2.2 R0.below)).mono ?_; rintro e V1 ⟨B0, B1, B3, d0, d1, d3, rfl, j0, j1, j3, hb1⟩
  have R1 := R0.after hb1
  obtain ⟨c0, c1, c2, c3, c4, c5, c6, c7⟩ := R1.arg
  have hs1 : W.heap.size < V1.heap.size := by have := R1.size; omega
  have hs2 : W.heap.size + 1 < V1.heap.size := by have := R1.size; omega
  have HB := Lib.hid R1.below
  clear R0 R1 hb1 j0 j1 j3
  generalize s.done = sd at *
  generalize s.time = st at *
  generalize t.done = td at *
  generalize t.time = tt at *
  generalize t.why = tw at *
  subst hg
  have e1 : IntKind.i64.wrap (td - sd) = m := by rw [IntKind.wrap_i64]; omega
  go_wp2_with fail
  refine (awake_r _).mono ?_; rintro e w7 ⟨rfl, hb7⟩
  go_wp2
  go_ret
  exact ⟨rfl, HB.out.trans (below_lower HB.out.size ((alloc_below V1 _).trans (below_lower (by simp) hb7)))⟩
set_option maxRecDepth 100000 in
set_option maxHeartbeats 4000000 in
theorem ended_done (s t : MS) (A0 A1 A3 : Option Addr) (n0 n1 n3 : Nat) (x0 x1 m m2 : Int) (hm : x0.tmod 5001 = m) (hm2 : x1.tmod 5001 = m2) (hx : 0 ≤ x0 ∧ x0 < 65536) (hx1 : 0 ≤ x1 ∧ x1 < 65536) (hf : EndF s t m) (hg : t.why ≠ 0) (l0 : t.store.length ≤ maxLen) (l1 : t.tape.length ≤ maxLen) (l3 : t.printed.length ≤ maxLen) (W : World) (i0 : IntsAt W W.heap.size A0 s.store) (i1 : IntsAt W W.heap.size A1 s.tape) (i3 : IntsAt W W.heap.size A3 s.printed)
    (K : Hid (∀ w, IntsAt w w.heap.size A0 s.store → IntsAt w w.heap.size A1 s.tape → IntsAt w w.heap.size A3 s.printed → Calls Try.prog 19 #[stV A0 A1 A3 n0 n1 n3 s.store s.tape s.printed s.taken s.time s.at_ s.done s.why, .int .i64 m] w (StateOut w t 0)))
    (K2 : Hid (∀ A0 A1 A3 n0 n1 n3 w, IntsAt w w.heap.size A0 t.store → IntsAt w w.heap.size A1 t.tape → IntsAt w w.heap.size A3 t.printed → Calls Try.prog 19 #[stV A0 A1 A3 n0 n1 n3 t.store t.tape t.printed t.taken t.time t.at_ t.done t.why, .int .i64 m2] w (StateOut w t 0))) :
    Calls Try.prog 14 #[stV A0 A1 A3 n0 n1 n3 s.store s.tape s.printed s.taken s.time s.at_ s.done s.why, .agg #[.int .u16 x0, .int .u16 x1]] W fun e W' => e = .returned (.bool true) ∧ Below W.heap.size W W' := by
  have H := Lib.hid (And.intro i0 (And.intro i1 i3))
  clear i0 i1 i3
  obtain ⟨⟨p1, p2, p3⟩, ⟨p4, p5⟩, p6⟩ := hf
  have q : (t.why == 0) = false := by simpa using hg
  have R0 := enW_new W (.slice A0 s.store.length n0) (.slice A1 s.tape.length n1) (.slice A3 s.printed.length n3) s.taken s.time s.at_ s.done s.why x0 x1 24 62
  go_enter Try.func14, Try.ntmps14
  go_wp2_with fail
  generalize (W.alloc (.cells #[.slice A0 s.store.length n0, .slice A1 s.tape.length n1, .int .i64 s.taken, .slice A3 s.printed.length n3, .int .i64 s.time, .int .i64 s.at_, .int .i64 s.done, .int .i64 s.why] 24)).alloc (.cells #[.int .u16 x0, .int .u16 x1] 62) = V0 at *
  refine (K.out V0 (ints_at H.out.1 R0.below) (ints_at H.out.2.1 R0.below) (ints_at H.out.2.2 R0.below)).mono ?_; rintro e V1 ⟨B0, B1, B3, d0, d1, d3, rfl, j0, j1, j3, hb1⟩
  have R1 := R0.after hb1
  obtain ⟨c0, c1, c2, c3, c4, c5, c6, c7⟩ := R1.arg
  have u1 := R1.e1
  have hs1 : W.heap.size < V1.heap.size := by have := R1.size; omega
  have hs2 : W.heap.size + 1 < V1.heap.size := by have := R1.size; omega
  have HB := Lib.hid R1.below
  have HJ := Lib.hid (And.intro j0 (And.intro j1 j3))
  clear R0 R1 hb1 j0 j1 j3 K H
  have e1 : IntKind.i64.wrap (t.done - s.done) = t.done - s.done := by rw [IntKind.wrap_i64]; omega
  go_wp2_with fail
  have hbA := alloc_below V1 (.cells #[.slice B0 t.store.length d0, .slice B1 t.tape.length d1, .int .i64 t.taken, .slice B3 t.printed.length d3, .int .i64 t.time, .int .i64 t.at_, .int .i64 t.done, .int .i64 t.why] 24)
  have S1 := StAt.new V1 (.slice B0 t.store.length d0) (.slice B1 t.tape.length d1) (.slice B3 t.printed.length d3) t.taken t.time t.at_ t.done t.why 24
  have hsA : V1.heap.size < (V1.alloc (.cells #[.slice B0 t.store.length d0, .slice B1 t.tape.length d1, .int .i64 t.taken, .slice B3 t.printed.length d3, .int .i64 t.time, .int .i64 t.at_, .int .i64 t.done, .int .i64 t.why] 24)).heap.size := by simp
  generalize V1.alloc (.cells #[.slice B0 t.store.length d0, .slice B1 t.tape.length d1, .int .i64 t.taken, .slice B3 t.printed.length d3, .int .i64 t.time, .int .i64 t.at_, .int .i64 t.done, .int .i64 t.why] 24) = V2 at *
  refine (K2.out B0 B1 B3 d0 d1 d3 V2 (ints_at HJ.out.1 hbA) (ints_at HJ.out.2.1 hbA) (ints_at HJ.out.2.2 hbA)).mono ?_; rintro e V3 ⟨C0, C1, C3, g0, g1, g3, rfl, r0, r1, r3, hb3⟩
  have S2 := S1.below hb3 hsA
  have hs3 := Nat.lt_of_lt_of_le hsA hb3.size
  have hbV := hbA.trans (below_lower (Nat.le_of_lt hsA) hb3)
  have HB3 := Lib.hid (HB.out.trans (below_lower HB.out.size hbV))
  have HJ3 := Lib.hid (And.intro (ints_at HJ.out.1 hbV) (And.intro (ints_at HJ.out.2.1 hbV) (ints_at HJ.out.2.2 hbV)))
  have HR3 := Lib.hid (And.intro r0 (And.intro r1 r3))
  obtain ⟨y0, y1, y2, y3, y4, y5, y6, y7⟩ := S2
  clear S1 hsA hbA hb3 hbV r0 r1 r3 K2 c0 c1 c2 c3 c4 c5 c6 c7 u1 HJ HB
  go_wp2_with fail
  have hbN := alloc_below V3 (.cells #[.slice C0 t.store.length g0, .slice C1 t.tape.length g1, .int .i64 t.taken, .slice C3 t.printed.length g3, .int .i64 t.time, .int .i64 t.at_, .int .i64 t.done, .int .i64 t.why] 24)
  refine (states_same B0 B1 B3 C0 C1 C3 d0 d1 d3 g0 g1 g3 t.store t.tape t.printed t.taken t.time t.at_ t.done t.why l0 l1 l3 _ (ints_at HJ3.out.1 hbN) (ints_at HJ3.out.2.1 hbN) (ints_at HJ3.out.2.2 hbN) (ints_at HR3.out.1 hbN) (ints_at HR3.out.2.1 hbN) (ints_at HR3.out.2.2 hbN)).mono ?_
  rintro e W4 ⟨rfl, hb4⟩
  have HB4 := Lib.hid ((HB3.out.trans (below_lower HB3.out.size hbN)).trans (below_lower (Nat.le_trans HB3.out.size hbN.size) hb4))
  clear hbN hb4 y0 y1 y2 y3 y4 y5 y6 y7
  go_wp2_with fail
  refine (awake_r _).mono ?_; rintro e w7 ⟨rfl, hb7⟩
  go_wp2
  go_ret
  exact ⟨rfl, HB4.out.trans (below_lower HB4.out.size hb7)⟩
theorem okLens {s : MS} (h : s.Ok) : s.store.length ≤ maxLen ∧ s.tape.length ≤ maxLen ∧ s.printed.length ≤ maxLen := by
  have h0 := h.n0
  have h1 := h.n1
  have h3 := h.n3
  unfold maxLen
  omega
theorem orderEnded_walk (w : World) (A0 A1 A3 : Option Addr) (n0 n1 n3 : Nat) (z0 z1 z3 : List Int) (a2 a4 a5 a6 a7 : Int)
    (s0 : z0.length ≤ maxLen ∧ IntsAt w w.heap.size A0 z0 ∧ ∀ n ∈ z0, (Lit.int .i64 n).wf = true) (s1 : z1.length ≤ maxLen ∧ IntsAt w w.heap.size A1 z1 ∧ ∀ n ∈ z1, (Lit.int .i64 n).wf = true) (s3 : z3.length ≤ maxLen ∧ IntsAt w w.heap.size A3 z3 ∧ ∀ n ∈ z3, (Lit.int .i64 n).wf = true)
    (w2 : (Lit.int .i64 a2).wf = true) (w4 : (Lit.int .i64 a4).wf = true) (w5 : (Lit.int .i64 a5).wf = true) (w6 : (Lit.int .i64 a6).wf = true) (w7 : (Lit.int .i64 a7).wf = true) (x0 x1 : Int) (y0 : 0 ≤ x0 ∧ x0 ≤ 65535) (y1 : 0 ≤ x1 ∧ x1 ≤ 65535) :
    Calls Try.prog 14 #[stV A0 A1 A3 n0 n1 n3 z0 z1 z3 a2 a4 a5 a6 a7, .agg #[.int .u16 x0, .int .u16 x1]] w fun e w' => e = .returned (.bool true) ∧ Below w.heap.size w w' := by
  have hm : x0.tmod 5001 = x0 % 5001 := Int.tmod_eq_emod_of_nonneg (by omega)
  have hm2 : x1.tmod 5001 = x1 % 5001 := Int.tmod_eq_emod_of_nonneg (by omega)
  obtain ⟨s, hs⟩ : ∃ s : MS, s = ⟨z0, z1, z3, a2, a4, a5, a6, a7⟩ := ⟨_, rfl⟩
  have K := fun w j0 j1 j3 => run_any s (x0 % 5001) A0 A1 A3 n0 n1 n3 (by rw [hs]; exact s0.1) (by rw [hs]; exact s1.1) (by rw [hs]; exact s3.1) w j0 j1 j3
  show Calls Try.prog _ #[stV A0 A1 A3 n0 n1 n3 (⟨z0, z1, z3, a2, a4, a5, a6, a7⟩ : MS).store (⟨z0, z1, z3, a2, a4, a5, a6, a7⟩ : MS).tape (⟨z0, z1, z3, a2, a4, a5, a6, a7⟩ : MS).printed (⟨z0, z1, z3, a2, a4, a5, a6, a7⟩ : MS).taken (⟨z0, z1, z3, a2, a4, a5, a6, a7⟩ : MS).time (⟨z0, z1, z3, a2, a4, a5, a6, a7⟩ : MS).at_ (⟨z0, z1, z3, a2, a4, a5, a6, a7⟩ : MS).done (⟨z0, z1, z3, a2, a4, a5, a6, a7⟩ : MS).why, _] _ _
  have i0 : IntsAt w w.heap.size A0 s.store := by rw [hs]; exact s0.2.1
  have i1 : IntsAt w w.heap.size A1 s.tape := by rw [hs]; exact s1.2.1
  have i3 : IntsAt w w.heap.size A3 s.printed := by rw [hs]; exact s3.2.1
  rw [← hs]
  clear hs s0 s1 s3
  by_cases he : s.err (x0 % 5001) = 0
  · obtain ⟨ho, hm0, hm5⟩ := MS.err_zero he
    rw [MS.out_ok he, he] at K
    obtain ⟨m, hmm⟩ := Int.eq_ofNat_of_zero_le hm0
    have ht : (x0 % 5001).toNat = m := by omega
    rw [ht] at K
    have hok := ho.run m
    obtain ⟨q1, q2, q3, q4⟩ := MS.run_counts m ho
    have hF : EndF s (MS.run m s) (x0 % 5001) := ⟨⟨ho.done.1, q1, by have := hok.done; have := hok.time; omega⟩, ⟨by omega, hm5⟩, q3⟩
    by_cases hg : (MS.run m s).why = 0
    · exact ended_going s (MS.run m s) A0 A1 A3 n0 n1 n3 x0 x1 _ hm (by omega) hF hg (by rw [q4 hg]; omega) w i0 i1 i3 (Lib.hid K)
    · obtain ⟨l0, l1, l3⟩ := okLens hok
      refine ended_done s (MS.run m s) A0 A1 A3 n0 n1 n3 x0 x1 _ (x1 % 5001) hm hm2 (by omega) (by omega) hF hg l0 l1 l3 w i0 i1 i3 (Lib.hid K) (Lib.hid fun B0 B1 B3 d0 d1 d3 W j0 j1 j3 => ?_)
      have h2 := run_any (MS.run m s) (x1 % 5001) B0 B1 B3 d0 d1 d3 l0 l1 l3 W j0 j1 j3
      have he2 : (MS.run m s).err (x1 % 5001) = 0 := MS.err_ok hok (by omega)
      rw [MS.out_ok he2, he2, MS.run_why hg] at h2
      exact h2
  · rw [MS.out_bad he] at K
    exact ended_bad s A0 A1 A3 n0 n1 n3 x0 x1 _ _ hm (by omega) he w i0 i1 i3 (Lib.hid K)
end Go.Proofs.Ytmkcijecncdhpaa
