/-
  OrderChecks: the walk. No statement is proved here.
-/
import Derived.Test.YtmkcijecncdhpaaOw13
import Derived.Test.YtmkcijecncdhpaaOWords
namespace Go.Proofs.Ytmkcijecncdhpaa
open Go.RowKit
set_option linter.unusedVariables false
set_option linter.unusedSimpArgs false

/-- The lists of a state. -/
structure Lists (U : World) (A0 A1 A3 : Option Addr) (z0 z1 z3 : List Int) : Prop where
  i0 : IntsAt U U.heap.size A0 z0
  i1 : IntsAt U U.heap.size A1 z1
  i3 : IntsAt U U.heap.size A3 z3
theorem Lists.after {U V : World} {A0 A1 A3 : Option Addr} {z0 z1 z3 : List Int} (h : Lists U A0 A1 A3 z0 z1 z3) (hb : Below U.heap.size U V) : Lists V A0 A1 A3 z0 z1 z3 :=
  ⟨(h.i0.below hb).more hb.size, (h.i1.below hb).more hb.size, (h.i3.below hb).more hb.size⟩
theorem box_state (w : World) (v0 v1 v3 : Value) (a2 a4 a5 a6 a7 : Int) (t : TypeId) {W : World} (hb : Below (w.alloc (.cells #[v0, v1, .int .i64 a2, v3, .int .i64 a4, .int .i64 a5, .int .i64 a6, .int .i64 a7] t)).heap.size (w.alloc (.cells #[v0, v1, .int .i64 a2, v3, .int .i64 a4, .int .i64 a5, .int .i64 a6, .int .i64 a7] t)) W) :
    StAt W w.heap.size v0 v1 v3 a2 a4 a5 a6 a7 ∧ Below w.heap.size w W ∧ w.heap.size < W.heap.size := by
  have hs := hb.size
  simp only [World.size_alloc] at hs hb
  exact ⟨(StAt.new w v0 v1 v3 a2 a4 a5 a6 a7 t).below hb (by omega), ((Below.refl _ w).alloc (Nat.le_refl _) _).trans (below_lower (by omega) hb), by omega⟩

set_option maxHeartbeats 2000000 in
theorem checks_of (A0 A1 A3 : Option Addr) (n0 n1 n3 : Nat) (z0 z1 z3 : List Int) (a2 a4 a5 a6 a7 : Int) (u v e0 : Int)
    (K1 : Hid (∀ W, Lists W A0 A1 A3 z0 z1 z3 → Calls Try.prog 32 #[stV A0 A1 A3 n0 n1 n3 z0 z1 z3 a2 a4 a5 a6 a7] W (CheckIs W (u, v, e0))))
    (K2 : Hid (∀ W, Lists W A0 A1 A3 z0 z1 z3 → Calls Try.prog 33 #[stV A0 A1 A3 n0 n1 n3 z0 z1 z3 a2 a4 a5 a6 a7] W (CheckIs W (u, v, e0)))) (w : World) (hL : Lists w A0 A1 A3 z0 z1 z3) :
    Calls Try.prog 10 #[stV A0 A1 A3 n0 n1 n3 z0 z1 z3 a2 a4 a5 a6 a7] w fun e w' => e = .returned (.bool true) ∧ Below w.heap.size w w' := by
  have ee1 : (u == u) = true := by simp
  have ee2 : (v == v) = true := by simp
  have ee3 : (e0 == e0) = true := by simp
  go_enter Try.func10, Try.ntmps10
  go_wp2_with fail
  refine (K1.out _ (hL.after ((Below.refl _ _).alloc (Nat.le_refl _) _))).mono ?_; rintro e w1 ⟨rfl, hb1⟩
  obtain ⟨⟨c0, c1, c2, c3, c4, c5, c6, c7⟩, bW, hlt⟩ := box_state w _ _ _ _ _ _ _ _ _ hb1
  have hL1 := hL.after bW
  clear hb1
  go_wp2_with fail
  refine (K2.out _ hL1).mono ?_; rintro e w2 ⟨rfl, hb2⟩
  have bX := below_next bW bW.size hb2
  clear c0 c1 c2 c3 c4 c5 c6 c7 bW hb2 hlt
  go_wp2_with fail
  refine (awake_b _).mono ?_; rintro e w7 ⟨rfl, hb7⟩
  go_wp2
  go_ret
  exact ⟨rfl, below_next bX bX.size hb7⟩
theorem orderChecks_walk (w : World) (A0 A1 A3 : Option Addr) (n0 n1 n3 : Nat) (z0 z1 z3 : List Int) (a2 a4 a5 a6 a7 : Int)
    (s0 : z0.length ≤ maxLen ∧ IntsAt w w.heap.size A0 z0 ∧ ∀ n ∈ z0, (Lit.int .i64 n).wf = true) (s1 : z1.length ≤ maxLen ∧ IntsAt w w.heap.size A1 z1 ∧ ∀ n ∈ z1, (Lit.int .i64 n).wf = true) (s3 : z3.length ≤ maxLen ∧ IntsAt w w.heap.size A3 z3 ∧ ∀ n ∈ z3, (Lit.int .i64 n).wf = true)
    (w2 : (Lit.int .i64 a2).wf = true) (w4 : (Lit.int .i64 a4).wf = true) (w5 : (Lit.int .i64 a5).wf = true) (w6 : (Lit.int .i64 a6).wf = true) (w7 : (Lit.int .i64 a7).wf = true) :
    Calls Try.prog 10 #[stV A0 A1 A3 n0 n1 n3 z0 z1 z3 a2 a4 a5 a6 a7] w fun e w' => e = .returned (.bool true) ∧ Below w.heap.size w w' :=
  checks_of A0 A1 A3 n0 n1 n3 z0 z1 z3 a2 a4 a5 a6 a7 _ _ _ (Lib.hid fun W h => check_any A0 A1 A3 n0 n1 n3 z0 z1 z3 a2 a4 a5 a6 a7 s0.1 s1.1 s3.1 W h.i0 h.i1 h.i3)
    (Lib.hid fun W h => rcheck_any A0 A1 A3 n0 n1 n3 z0 z1 z3 a2 a4 a5 a6 a7 s0.1 s1.1 s3.1 W h.i0 h.i1 h.i3) w ⟨s0.2.1, s1.2.1, s3.2.1⟩
end Go.Proofs.Ytmkcijecncdhpaa
