/-
  OrderLater: the walk and the frame: for every argument the law answers true. No condition.
-/
import Derived.Test.YtmkcijecncdhpaaOEnded
import Derived.Test.YtmkcijecncdhpaaOFrame
import Derived.Test.YtmkcijecncdhpaaOFrame2
namespace Go.Proofs.Ytmkcijecncdhpaa
open Go.RowKit
set_option linter.unusedVariables false
set_option linter.unusedSimpArgs false

set_option maxRecDepth 100000 in
set_option maxHeartbeats 4000000 in
theorem later_bad (s : MS) (A0 A1 A3 : Option Addr) (n0 n1 n3 : Nat) (x0 x1 m k : Int) (hm : x0.tmod 5001 = m) (hx : 0 ≤ x0 ∧ x0 < 65536) (hk : k ≠ 0) (W : World) (i0 : IntsAt W W.heap.size A0 s.store) (i1 : IntsAt W W.heap.size A1 s.tape) (i3 : IntsAt W W.heap.size A3 s.printed)
    (K : Hid (∀ w, IntsAt w w.heap.size A0 s.store → IntsAt w w.heap.size A1 s.tape → IntsAt w w.heap.size A3 s.printed → Calls Try.prog 19 #[stV A0 A1 A3 n0 n1 n3 s.store s.tape s.printed s.taken s.time s.at_ s.done s.why, .int .i64 m] w (StateOut w MS.zero k))) :
    Calls Try.prog 16 #[stV A0 A1 A3 n0 n1 n3 s.store s.tape s.printed s.taken s.time s.at_ s.done s.why, .agg #[.int .u16 x0, .int .u16 x1]] W fun e W' => e = .returned (.bool true) ∧ Below W.heap.size W W' := by
  have H := Lib.hid (And.intro i0 (And.intro i1 i3))
  clear i0 i1 i3
  have q : (k != 0) = true := by simpa using hk
  have R0 := enW_new W (.slice A0 s.store.length n0) (.slice A1 s.tape.length n1) (.slice A3 s.printed.length n3) s.taken s.time s.at_ s.done s.why x0 x1 24 62
  go_enter Try.func16, Try.ntmps16
  go_wp2_with fail
  generalize (W.alloc (.cells #[.slice A0 s.store.length n0, .slice A1 s.tape.length n1, .int .i64 s.taken, .slice A3 s.printed.length n3, .int .i64 s.time, .int .i64 s.at_, .int .i64 s.done, .int .i64 s.why] 24)).alloc (.cells #[.int .u16 x0, .int .u16 x1] 62) = V0 at *
  refine (K.out V0 (ints_at H.out.1 R0.below) (ints_at H.out.2.1 R0.below) (ints_at H.out.2.2 R0.below)).mono ?_; rintro e V1 ⟨B0, B1, B3, d0, d1, d3, rfl, j0, j1, j3, hb1⟩
  have HB := Lib.hid (R0.after hb1).below
  clear R0 hb1 j0 j1 j3
  simp only [MS.zero, List.length_nil]
  go_wp2_with fail
  refine (awake_r _).mono ?_; rintro e w7 ⟨rfl, hb7⟩
  go_wp2
  go_ret
  exact ⟨rfl, HB.out.trans (below_lower HB.out.size ((alloc_below V1 _).trans (below_lower (by simp) hb7)))⟩
/-- What stands in OrderLater's blocks before the second run. -/
structure LaW (W : World) (k1 k2 : Nat) (u0 u1 u3 v0 v1 v3 : Value) (a2 a4 a5 a6 a7 b2 b4 b5 b6 b7 : Int) (U : World) : Prop where
  below : Below W.heap.size W U
  one : StAt U k1 u0 u1 u3 a2 a4 a5 a6 a7
  two : StAt U k2 v0 v1 v3 b2 b4 b5 b6 b7
  lt : k1 < k2
  lt2 : k2 < U.heap.size
theorem laW_new {W V1 : World} (hb : Below W.heap.size W V1) (u0 u1 u3 v0 v1 v3 : Value) (a2 a4 a5 a6 a7 b2 b4 b5 b6 b7 : Int) (T : TypeId) :
    LaW W V1.heap.size (V1.heap.size + 1) u0 u1 u3 v0 v1 v3 a2 a4 a5 a6 a7 b2 b4 b5 b6 b7 ((V1.alloc (.cells #[u0, u1, .int .i64 a2, u3, .int .i64 a4, .int .i64 a5, .int .i64 a6, .int .i64 a7] T)).alloc (.cells #[v0, v1, .int .i64 b2, v3, .int .i64 b4, .int .i64 b5, .int .i64 b6, .int .i64 b7] T)) := by
  have h1 := StAt.new V1 u0 u1 u3 a2 a4 a5 a6 a7 T
  have h2 := StAt.new (V1.alloc (.cells #[u0, u1, .int .i64 a2, u3, .int .i64 a4, .int .i64 a5, .int .i64 a6, .int .i64 a7] T)) v0 v1 v3 b2 b4 b5 b6 b7 T
  have hs := hb.size
  rw [World.size_alloc] at h2
  refine ⟨?_, h1.below (alloc_below _ _) (by simp), h2, by omega, by simp⟩
  exact (hb.trans (below_lower hs (alloc_below V1 _))).trans (below_lower (by simp; omega) (alloc_below _ _))
theorem LaW.after {W U V : World} {k1 k2 : Nat} {u0 u1 u3 v0 v1 v3 : Value} {a2 a4 a5 a6 a7 b2 b4 b5 b6 b7 : Int} (h : LaW W k1 k2 u0 u1 u3 v0 v1 v3 a2 a4 a5 a6 a7 b2 b4 b5 b6 b7 U) (hb : Below U.heap.size U V) : LaW W k1 k2 u0 u1 u3 v0 v1 v3 a2 a4 a5 a6 a7 b2 b4 b5 b6 b7 V :=
  have h1 := h.lt
  have h2 := h.lt2
  ⟨h.below.trans (below_lower h.below.size hb), h.one.below hb (by omega), h.two.below hb h2, h1, Nat.lt_of_lt_of_le h2 hb.size⟩
set_option maxRecDepth 100000 in
set_option maxHeartbeats 8000000 in
theorem later_good (s t u : MS) (A0 A1 A3 : Option Addr) (n0 n1 n3 : Nat) (x0 x1 m : Int) (hm : x0.tmod 5001 = m) (hx : 0 ≤ x0 ∧ x0 < 65536) (hx1 : 0 ≤ x1 ∧ x1 < 65536) (ht : 0 ≤ s.time ∧ s.time ≤ 1000000000) (hu' : s.time + 16 * x1 ≤ 1000000000 → 0 ≤ u.time ∧ u.time ≤ 1000000000) (l0 : t.store.length ≤ maxLen) (l1 : t.tape.length ≤ maxLen) (l3 : t.printed.length ≤ maxLen)
    (hsame : s.time + 16 * x1 ≤ 1000000000 → t.why ≠ 4 → u.why ≠ 4 → u = t.later (16 * x1)) (W : World) (i0 : IntsAt W W.heap.size A0 s.store) (i1 : IntsAt W W.heap.size A1 s.tape) (i3 : IntsAt W W.heap.size A3 s.printed)
    (K : Hid (∀ w, IntsAt w w.heap.size A0 s.store → IntsAt w w.heap.size A1 s.tape → IntsAt w w.heap.size A3 s.printed → Calls Try.prog 19 #[stV A0 A1 A3 n0 n1 n3 s.store s.tape s.printed s.taken s.time s.at_ s.done s.why, .int .i64 m] w (StateOut w t 0)))
    (K2 : Hid (s.time + 16 * x1 ≤ 1000000000 → ∀ w, IntsAt w w.heap.size A0 s.store → IntsAt w w.heap.size A1 s.tape → IntsAt w w.heap.size A3 s.printed → Calls Try.prog 19 #[stV A0 A1 A3 n0 n1 n3 s.store s.tape s.printed s.taken (s.time + 16 * x1) s.at_ s.done s.why, .int .i64 m] w (StateOut w u 0))) :
    Calls Try.prog 16 #[stV A0 A1 A3 n0 n1 n3 s.store s.tape s.printed s.taken s.time s.at_ s.done s.why, .agg #[.int .u16 x0, .int .u16 x1]] W fun e W' => e = .returned (.bool true) ∧ Below W.heap.size W W' := by
  have H := Lib.hid (And.intro i0 (And.intro i1 i3))
  have HS := Lib.hid hsame
  clear i0 i1 i3 hsame
  have R0 := enW_new W (.slice A0 s.store.length n0) (.slice A1 s.tape.length n1) (.slice A3 s.printed.length n3) s.taken s.time s.at_ s.done s.why x0 x1 24 62
  go_enter Try.func16, Try.ntmps16
  go_wp2_with fail
  generalize (W.alloc (.cells #[.slice A0 s.store.length n0, .slice A1 s.tape.length n1, .int .i64 s.taken, .slice A3 s.printed.length n3, .int .i64 s.time, .int .i64 s.at_, .int .i64 s.done, .int .i64 s.why] 24)).alloc (.cells #[.int .u16 x0, .int .u16 x1] 62) = V0 at *
  refine (K.out V0 (ints_at H.out.1 R0.below) (ints_at H.out.2.1 R0.below) (ints_at H.out.2.2 R0.below)).mono ?_; rintro e V1 ⟨B0, B1, B3, d0, d1, d3, rfl, j0, j1, j3, hb1⟩
  have R1 := R0.after hb1
  obtain ⟨c0, c1, c2, c3, c4, c5, c6, c7⟩ := R1.arg
  have u1 := R1.e1
  have hs1 : W.heap.size < V1.heap.size := by have := R1.size; omega
  have hs2 : W.heap.size + 1 < V1.heap.size := by have := R1.size; omega
  have HB := Lib.hid R1.below
  have HJ := Lib.hid (And.intro j0 (And.intro j1 j3))
  clear R0 R1 hb1 j0 j1 j3 K
  by_cases hov : 1000000000 < s.time + 16 * x1
  · go_wp2_with fail
    refine (awake_r _).mono ?_; rintro e w7 ⟨rfl, hb7⟩
    go_wp2
    go_ret
    exact ⟨rfl, HB.out.trans (below_lower HB.out.size ((alloc_below V1 _).trans (below_lower (by simp) hb7)))⟩
  · have hle : s.time + 16 * x1 ≤ 1000000000 := by omega
    have KK := Lib.hid (K2.out hle)
    have hu := hu' hle
    go_wp2_with fail
    have L2 := laW_new HB.out (.slice B0 t.store.length d0) (.slice B1 t.tape.length d1) (.slice B3 t.printed.length d3) (.slice A0 s.store.length n0) (.slice A1 s.tape.length n1) (.slice A3 s.printed.length n3) t.taken t.time t.at_ t.done t.why s.taken (s.time + 16 * x1) s.at_ s.done s.why 24
    have hV2 : Below V1.heap.size V1 ((V1.alloc (.cells #[.slice B0 t.store.length d0, .slice B1 t.tape.length d1, .int .i64 t.taken, .slice B3 t.printed.length d3, .int .i64 t.time, .int .i64 t.at_, .int .i64 t.done, .int .i64 t.why] 24)).alloc (.cells #[.slice A0 s.store.length n0, .slice A1 s.tape.length n1, .int .i64 s.taken, .slice A3 s.printed.length n3, .int .i64 (s.time + 16 * x1), .int .i64 s.at_, .int .i64 s.done, .int .i64 s.why] 24)) := by go_grown
    generalize (V1.alloc (.cells #[.slice B0 t.store.length d0, .slice B1 t.tape.length d1, .int .i64 t.taken, .slice B3 t.printed.length d3, .int .i64 t.time, .int .i64 t.at_, .int .i64 t.done, .int .i64 t.why] 24)).alloc (.cells #[.slice A0 s.store.length n0, .slice A1 s.tape.length n1, .int .i64 s.taken, .slice A3 s.printed.length n3, .int .i64 (s.time + 16 * x1), .int .i64 s.at_, .int .i64 s.done, .int .i64 s.why] 24) = V2 at *
    refine (KK.out V2 (ints_at H.out.1 L2.below) (ints_at H.out.2.1 L2.below) (ints_at H.out.2.2 L2.below)).mono ?_; rintro e V3 ⟨C0, C1, C3, g0, g1, g3, rfl, r0, r1, r3, hb3⟩
    have L3 := L2.after hb3
    have hV3 := hV2.trans (below_lower hV2.size hb3)
    have HJ3 := Lib.hid (And.intro (ints_at HJ.out.1 hV3) (And.intro (ints_at HJ.out.2.1 hV3) (ints_at HJ.out.2.2 hV3)))
    have HR3 := Lib.hid (And.intro r0 (And.intro r1 r3))
    have HB3 := Lib.hid L3.below
    obtain ⟨y0, y1, y2, y3, y4, y5, y6, y7⟩ := L3.one
    have hl3 : V1.heap.size < V3.heap.size := by have := L3.lt; have := L3.lt2; omega
    clear L2 L3 hV2 hV3 hb3 r0 r1 r3 KK K2 c0 c1 c2 c3 c4 c5 c6 c7 u1 HJ HB H hov
    by_cases h4 : t.why = 4
    · have q4 : (t.why == 4) = true := by simpa using h4
      go_wp2_with fail
      refine (awake_r _).mono ?_; rintro e w7 ⟨rfl, hb7⟩
      go_wp2
      go_ret
      exact ⟨rfl, HB3.out.trans (below_lower HB3.out.size ((alloc_below V3 _).trans (below_lower (by simp) hb7)))⟩
    · by_cases h5 : u.why = 4
      · have q4 : (t.why == 4) = false := by simpa using h4
        have q5 : (u.why == 4) = true := by simpa using h5
        go_wp2_with fail
        refine (awake_r _).mono ?_; rintro e w7 ⟨rfl, hb7⟩
        go_wp2
        go_ret
        exact ⟨rfl, HB3.out.trans (below_lower HB3.out.size ((alloc_below V3 _).trans (below_lower (by simp) hb7)))⟩
      · obtain rfl := HS.out hle h4 h5
        have HR4 : Hid (IntsAt V3 V3.heap.size C0 t.store ∧ IntsAt V3 V3.heap.size C1 t.tape ∧ IntsAt V3 V3.heap.size C3 t.printed) := HR3
        clear HR3 HS
        simp only [MS.later] at hu h5 ⊢
        have q4 : (t.why == 4) = false := by simpa using h4
        go_wp2_with fail
        have hbN := alloc_below V3 (.cells #[.slice C0 t.store.length g0, .slice C1 t.tape.length g1, .int .i64 t.taken, .slice C3 t.printed.length g3, .int .i64 t.time, .int .i64 t.at_, .int .i64 t.done, .int .i64 t.why] 24)
        refine (states_same B0 B1 B3 C0 C1 C3 d0 d1 d3 g0 g1 g3 t.store t.tape t.printed t.taken t.time t.at_ t.done t.why l0 l1 l3 _ (ints_at HJ3.out.1 hbN) (ints_at HJ3.out.2.1 hbN) (ints_at HJ3.out.2.2 hbN) (ints_at HR4.out.1 hbN) (ints_at HR4.out.2.1 hbN) (ints_at HR4.out.2.2 hbN)).mono ?_
        rintro e W4 ⟨rfl, hb4⟩
        have HB4 := Lib.hid ((HB3.out.trans (below_lower HB3.out.size hbN)).trans (below_lower (Nat.le_trans HB3.out.size hbN.size) hb4))
        clear hbN hb4 y0 y1 y2 y3 y4 y5 y6 y7
        go_wp2_with fail
        refine (awake_r _).mono ?_; rintro e w7 ⟨rfl, hb7⟩
        go_wp2
        go_ret
        exact ⟨rfl, HB4.out.trans (below_lower HB4.out.size hb7)⟩
theorem ok_later {s : MS} (h : s.Ok) {k : Int} (h0 : 0 ≤ k) (h1 : s.time + 16 * k ≤ 1000000000) : (s.later (16 * k)).Ok :=
  ⟨h.n0, h.w0, h.n1, h.w1, h.n3, h.w3, h.taken, ⟨by show 0 ≤ s.time + 16 * k; have := h.time; omega, h1⟩, h.at_, ⟨h.done.1, by show s.done ≤ s.time + 16 * k; have := h.done; omega⟩, h.why, by show (s.time + 16 * k) % 16 = s.at_ % 16; have := h.place; omega⟩
theorem orderLater_walk (w : World) (A0 A1 A3 : Option Addr) (n0 n1 n3 : Nat) (z0 z1 z3 : List Int) (a2 a4 a5 a6 a7 : Int)
    (s0 : z0.length ≤ maxLen ∧ IntsAt w w.heap.size A0 z0 ∧ ∀ n ∈ z0, (Lit.int .i64 n).wf = true) (s1 : z1.length ≤ maxLen ∧ IntsAt w w.heap.size A1 z1 ∧ ∀ n ∈ z1, (Lit.int .i64 n).wf = true) (s3 : z3.length ≤ maxLen ∧ IntsAt w w.heap.size A3 z3 ∧ ∀ n ∈ z3, (Lit.int .i64 n).wf = true)
    (w2 : (Lit.int .i64 a2).wf = true) (w4 : (Lit.int .i64 a4).wf = true) (w5 : (Lit.int .i64 a5).wf = true) (w6 : (Lit.int .i64 a6).wf = true) (w7 : (Lit.int .i64 a7).wf = true) (x0 x1 : Int) (y0 : 0 ≤ x0 ∧ x0 ≤ 65535) (y1 : 0 ≤ x1 ∧ x1 ≤ 65535) :
    Calls Try.prog 16 #[stV A0 A1 A3 n0 n1 n3 z0 z1 z3 a2 a4 a5 a6 a7, .agg #[.int .u16 x0, .int .u16 x1]] w fun e w' => e = .returned (.bool true) ∧ Below w.heap.size w w' := by
  have hm : x0.tmod 5001 = x0 % 5001 := Int.tmod_eq_emod_of_nonneg (by omega)
  obtain ⟨s, hs⟩ : ∃ s : MS, s = ⟨z0, z1, z3, a2, a4, a5, a6, a7⟩ := ⟨_, rfl⟩
  have l0 : s.store.length ≤ maxLen := by rw [hs]; exact s0.1
  have l1 : s.tape.length ≤ maxLen := by rw [hs]; exact s1.1
  have l3 : s.printed.length ≤ maxLen := by rw [hs]; exact s3.1
  have K := fun w j0 j1 j3 => run_any s (x0 % 5001) A0 A1 A3 n0 n1 n3 l0 l1 l3 w j0 j1 j3
  show Calls Try.prog _ #[stV A0 A1 A3 n0 n1 n3 (⟨z0, z1, z3, a2, a4, a5, a6, a7⟩ : MS).store (⟨z0, z1, z3, a2, a4, a5, a6, a7⟩ : MS).tape (⟨z0, z1, z3, a2, a4, a5, a6, a7⟩ : MS).printed (⟨z0, z1, z3, a2, a4, a5, a6, a7⟩ : MS).taken (⟨z0, z1, z3, a2, a4, a5, a6, a7⟩ : MS).time (⟨z0, z1, z3, a2, a4, a5, a6, a7⟩ : MS).at_ (⟨z0, z1, z3, a2, a4, a5, a6, a7⟩ : MS).done (⟨z0, z1, z3, a2, a4, a5, a6, a7⟩ : MS).why, _] _ _
  have i0 : IntsAt w w.heap.size A0 s.store := by rw [hs]; exact s0.2.1
  have i1 : IntsAt w w.heap.size A1 s.tape := by rw [hs]; exact s1.2.1
  have i3 : IntsAt w w.heap.size A3 s.printed := by rw [hs]; exact s3.2.1
  rw [← hs]
  clear hs s0 s1 s3
  by_cases he : s.err (x0 % 5001) = 0
  · obtain ⟨ho, hm0, hm5⟩ := MS.err_zero he
    rw [MS.out_ok he, he] at K
    obtain ⟨m, hmm⟩ := Int.eq_ofNat_of_zero_le hm0
    have ht : (x0 % 5001).toNat = m := by omega
    rw [ht] at K
    have hok := ho.run m
    obtain ⟨m0, m1, m3⟩ := okLens hok
    by_cases hov : s.time + 16 * x1 ≤ 1000000000
    · have ho2 := ok_later ho y1.1 hov
      have hok2 := ho2.run m
      refine later_good s (MS.run m s) (MS.run m (s.later (16 * x1))) A0 A1 A3 n0 n1 n3 x0 x1 _ hm (by omega) (by omega) ho.time (fun _ => hok2.time) m0 m1 m3 (fun _ => MS.run_later m x1) w i0 i1 i3 (Lib.hid K) (Lib.hid fun _ W j0 j1 j3 => ?_)
      have h2 := run_any (s.later (16 * x1)) (x0 % 5001) A0 A1 A3 n0 n1 n3 l0 l1 l3 W j0 j1 j3
      have he2 : (s.later (16 * x1)).err (x0 % 5001) = 0 := MS.err_ok ho2 ⟨hm0, hm5⟩
      rw [MS.out_ok he2, he2, ht] at h2
      exact h2
    · exact later_good s (MS.run m s) MS.zero A0 A1 A3 n0 n1 n3 x0 x1 _ hm (by omega) (by omega) ho.time (fun h => absurd h hov) m0 m1 m3 (fun h => absurd h hov) w i0 i1 i3 (Lib.hid K) (Lib.hid fun h => absurd h hov)
  · rw [MS.out_bad he] at K
    exact later_bad s A0 A1 A3 n0 n1 n3 x0 x1 _ _ hm (by omega) he w i0 i1 i3 (Lib.hid K)
end Go.Proofs.Ytmkcijecncdhpaa
namespace Go.Proofs.Ytmkcijecncdhpaa
open Go.ChangeShapes Go.WideShapes Go.ChangeAt Go.RowKit
set_option linter.unusedVariables false
set_option linter.unusedSimpArgs false
set_option maxRecDepth 100000 in
theorem orderLater_lifted (os : Os) (started : os.Started) (H : Type) (enc : TypeId × Value → H) :
    ReturnsInHanded {} Try.checked os 16 .any (Rows.orderLaterSpec.pre6 enc Try.prog Try.f16 Rows.orderLaterRow.domain false) (Rows.orderLaterSpec.post enc Try.prog Try.f16 false true false false) := by
  refine returnsInHanded_of_change (C := Try.checked) seat_own started (by kernel_rfl) Try.func16
    (ChangeSpec.witness6 (enc := enc) (C := Try.checked) false ⟨#[], #[.agg #[.slice none 0 0, .slice none 0 0, .int .i64 0, .slice none 0 0, .int .i64 0, .int .i64 0, .int .i64 0, .int .i64 0], .agg #[.int .u16 0, .int .u16 0]], []⟩ 8 (by kernel_rfl) (by kernel_rfl) (by kernel_rfl) (by kernel_rfl)) ?_
  intro W base args ds gs before hval0 hW hcnd _
  have hval : ∀ (j : Nat) t v, Try.f16.params[j]? = some t → args[j]? = some v → Value.okWide Try.prog W .any base t v := hval0
  have hW' := hW
  obtain ⟨p, q, hA0, hV, rfl, hfz, hnd⟩ := hW
  have hA : DataW.TrodAll enc Try.prog W 0 (fun _ => true) true Try.f16.params.toList args.toList ds p := hA0
  rw [Try.params16] at hA hval
  obtain ⟨v0, vs0, d0, ds0, p0, q0, hargs, rfl, rfl, h0, r0⟩ := trodAll_cons hA
  obtain ⟨v1, vs1, d1, ds1, p1, q1, rfl, rfl, rfl, h1, r1⟩ := trodAll_cons r0
  obtain ⟨rfl, rfl, rfl⟩ := trodAll_nil r1
  obtain rfl : args = #[v0, v1] := by cases args; simp_all
  obtain ⟨rfl, rfl⟩ := trodVars_none hV
  have k0 := h0
  have lt0 : ∀ x ∈ p0, x.block < W.heap.size := by obtain ⟨m, hm⟩ := k0; exact DataW.trod_lt m _ _ _ hm
  have k1 := h1
  have lt1 : ∀ x ∈ p1, x.block < W.heap.size := by obtain ⟨m, hm⟩ := k1; exact DataW.trod_lt m _ _ _ hm
  obtain ⟨A0, A1, A3, n0, n1, n3, z0, z1, z3, a2, a4, a5, a6, a7, rfl, s0, s1, s3, w2, w4, w5, w6, w7⟩ := state_open (hval 0 24 v0 rfl rfl) h0
  obtain ⟨x10, x11, rfl, y10, y11⟩ := u16x2_open (hval 1 62 v1 rfl rfl) h1
  clear hA0 hval0
  refine (orderLater_walk W A0 A1 A3 n0 n1 n3 z0 z1 z3 a2 a4 a5 a6 a7 s0 s1 s3 w2 w4 w5 w6 w7 x10 x11 y10 y11).mono fun e W' ⟨he, bel⟩ => ?_
  subst he
  exact ⟨_, rfl, _, _, _, [], _, [], hW', trodAll_mk1 (shut_bool Try.underlying4 _), (trodAll_cons_mk (Below.trod seat_laidOut (by kernel_rfl) (of_decide_eq_true (by kernel_rfl)) k0 bel lt0) (trodAll_cons_mk (Below.trod seat_laidOut (by kernel_rfl) (of_decide_eq_true (by kernel_rfl)) k1 bel lt1) trodAll_mk0)), rfl, bel.frame _, fun h => by cases h⟩

theorem orderLater_fn : Try.pinned.checked.prog.funcNamed Rows.orderLaterRow.func = some 16 := by kernel_rfl
theorem orderLater_closed : joinedFacts Try.pinned.checked.prog 16 Try.f16 Rows.orderLaterSpec Rows.orderLaterRow = true := by
  show joinedFacts Try.prog 16 Try.f16 Rows.orderLaterSpec Rows.orderLaterRow = true
  unfold joinedFacts
  rw [prog_mayEnter, prog_lifts, prog_make]
  kernel_rfl
theorem orderLater_inst : Try.f16.isInstance Try.pinned.checked.prog Rows.orderLaterRow.origin Rows.orderLaterRow.targs := of_decide_eq_true (by kernel_rfl)
theorem orderLater_wrap : Try.f16.isWrapper Try.pinned.checked.prog Rows.orderLaterRow.wrapper Rows.orderLaterRow.mainSum := by unfold Func.isWrapper; first | (rw [if_pos (by decide +kernel)]; kernel_rfl) | (rw [if_neg (by decide +kernel)]; exact ⟨rfl, rfl⟩)

theorem orderLater_over : Rows.orderLaterRow.holds Try.pinned (OpenSpec.ofChange Rows.orderLaterSpec) :=
  OpenClaim.holds_of_wide 16 Try.f16 rfl rfl rfl rfl rfl rfl rfl ⟨rfl, rfl, rfl, rfl, rfl⟩ rfl rfl rfl rfl rfl orderLater_fn Try.func16 orderLater_closed
    orderLater_inst orderLater_wrap
    (fun os started H enc _ => orderLater_lifted os started H enc)

/-- The statement. -/
theorem orderLater_holds : Rows.OrderLaterSaid := orderLater_over
end Go.Proofs.Ytmkcijecncdhpaa
