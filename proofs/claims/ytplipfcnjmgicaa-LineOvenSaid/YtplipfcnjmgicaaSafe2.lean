/-
  CONTRACTS OF the reference's safe and Safe. No statement is proved here.
-/
import Derived.Test.YtplipfcnjmgicaaSafe1
namespace Go.Proofs.Ytplipfcnjmgicaa
open Go.RowKit Go.Sort
set_option linter.unusedVariables false
set_option linter.unusedSimpArgs false

set_option maxHeartbeats 2000000 in
theorem rsafe_ok (a0 a1 a2 a3 a4 a5 T : Int) (h : OkLine a0 a1 a2 a3 a4 a5) (hT : -500 ≤ T ∧ T ≤ 1000) (w : World) :
    Calls Try.prog 62 #[.agg #[.int .i64 a0, .int .i64 a1, .int .i64 a2, .int .i64 a3, .int .i64 a4, .int .i64 a5], .int .i64 T] w fun e w' => e = .returned (.bool (safeAt a0 a1 a2 a3 a4 a5 T)) ∧ Below w.heap.size w w' := by
  have K := rshift_any a0 a1 a2 a3 a4 a5 T h hT
  unfold safeAt
  generalize shiftOf a2 a5 (lateOf a0 a1 a2 a3 a4 T) = S at *
  generalize lostOf a2 a5 (lateOf a0 a1 a2 a3 a4 T) = B at *
  have KH := Lib.hid K
  clear K
  cases B with
  | true =>
    go_enter Try.func62, Try.ntmps62
    go_wp2_with fail
    refine (KH.out _).mono ?_; rintro e w1 ⟨rfl, hb⟩
    go_wp2
    go_ret
    refine ⟨by simp, ?_⟩
    have hs := hb.size
    simp only [World.size_alloc] at hs hb
    exact ((Below.refl _ w).alloc (Nat.le_refl _) _).trans (below_down (by omega) hb)
  | false =>
    by_cases hS : S = 0
    · subst hS
      go_enter Try.func62, Try.ntmps62
      go_wp2_with fail
      refine (KH.out _).mono ?_; rintro e w1 ⟨rfl, hb⟩
      go_wp2_with fail
      refine (rtemp_t T hT _).mono ?_; rintro e w' ⟨rfl, rfl⟩
      go_wp2
      go_ret
      refine ⟨by simp, ?_⟩
      have hs := hb.size
      simp only [World.size_alloc] at hs hb
      exact ((Below.refl _ w).alloc (Nat.le_refl _) _).trans (below_down (by omega) hb)
    · have hS1 : (S == 0) = false := by simpa using hS
      have HS : Hid (decide (S = 0) = false) := Lib.hid (by simpa using hS)
      clear hS
      go_enter Try.func62, Try.ntmps62
      go_wp2_with fail
      refine (KH.out _).mono ?_; rintro e w1 ⟨rfl, hb⟩
      go_wp2
      go_ret
      refine ⟨by rw [HS.out]; simp, ?_⟩
      have hs := hb.size
      simp only [World.size_alloc] at hs hb
      exact ((Below.refl _ w).alloc (Nat.le_refl _) _).trans (below_down (by omega) hb)

/-- The least, less than which there is none, and the greatest so far. -/
def spanStep (p : Int × Int) (v : Int) : Int × Int := (if v < p.1 then v else p.1, v)
def spanOf (xs : List Int) : Int × Int := xs.foldl spanStep (1001, -501)
theorem spanOf_snoc (xs : List Int) (v : Int) : spanOf (xs ++ [v]) = (if v < (spanOf xs).1 then v else (spanOf xs).1, v) := by unfold spanOf; rw [List.foldl_append]; rfl

/-- What Safe answers where xs are the temperatures at which the line is safe. -/
def SafeIs (f : Int → Bool) (w : World) (e : Ending) (w' : World) : Prop :=
  (if (spanOf (upS f 1001)).1 > (spanOf (upS f 1001)).2 then e = .returned (.tuple #[.agg #[.int .i64 0, .int .i64 0], .int .i64 9])
    else e = .returned (.tuple #[.agg #[.int .i64 (spanOf (upS f 1001)).1, .int .i64 (spanOf (upS f 1001)).2], .int .i64 0])) ∧ Below w.heap.size w w'

theorem two_set {U : World} {b : Nat} {u v x y : Value} (h0 : U.cell? ⟨b, 0, none⟩ = some u) (h1 : U.cell? ⟨b, 1, none⟩ = some v) :
    ((U.setCell ⟨b, 0, none⟩ x).setCell ⟨b, 1, none⟩ y).cell? ⟨b, 0, none⟩ = some x ∧ ((U.setCell ⟨b, 0, none⟩ x).setCell ⟨b, 1, none⟩ y).cell? ⟨b, 1, none⟩ = some y := by
  have n1 : (⟨b, 1, none⟩ : Addr) ≠ ⟨b, 0, none⟩ := by simp
  have n2 : (⟨b, 0, none⟩ : Addr) ≠ ⟨b, 1, none⟩ := by simp
  constructor
  · rw [World.cell?_setCell_other _ _ _ _ n1, World.cell?_setCell_same _ _ _ h0]
  · exact World.cell?_setCell_same _ _ _ (u := v) (by rw [World.cell?_setCell_other _ _ _ _ n2, h1])
theorem two_far {U : World} {b k j : Nat} {x y : Value} (h : k ≠ b) : ((U.setCell ⟨b, 0, none⟩ x).setCell ⟨b, 1, none⟩ y).cell? ⟨k, j, none⟩ = U.cell? ⟨k, j, none⟩ := by
  have n1 : (⟨b, 1, none⟩ : Addr) ≠ ⟨k, j, none⟩ := by intro e; cases e; exact h rfl
  have n2 : (⟨b, 0, none⟩ : Addr) ≠ ⟨k, j, none⟩ := by intro e; cases e; exact h rfl
  rw [World.cell?_setCell_other _ _ _ _ n1, World.cell?_setCell_other _ _ _ _ n2]
theorem two_below {n : Nat} {w U : World} {b : Nat} {x y : Value} (h : Below n w U) (hb : n ≤ b) : Below n w ((U.setCell ⟨b, 0, none⟩ x).setCell ⟨b, 1, none⟩ y) :=
  (h.setCell hb _).setCell hb _

/-- What the reference's Safe keeps between two rounds: the line, its results, the span so far. -/
structure RefW (b : Nat) (a0 a1 a2 a3 a4 a5 lo hi : Int) (U : World) : Prop where
  l0 : U.cell? ⟨b, 0, none⟩ = some (.int .i64 a0)
  l1 : U.cell? ⟨b, 1, none⟩ = some (.int .i64 a1)
  l2 : U.cell? ⟨b, 2, none⟩ = some (.int .i64 a2)
  l3 : U.cell? ⟨b, 3, none⟩ = some (.int .i64 a3)
  l4 : U.cell? ⟨b, 4, none⟩ = some (.int .i64 a4)
  l5 : U.cell? ⟨b, 5, none⟩ = some (.int .i64 a5)
  r0 : U.cell? ⟨b + 1, 0, none⟩ = some (.int .i64 0)
  r1 : U.cell? ⟨b + 1, 1, none⟩ = some (.int .i64 0)
  s0 : U.cell? ⟨b + 1 + 1 + 1, 0, none⟩ = some (.int .i64 lo)
  s1 : U.cell? ⟨b + 1 + 1 + 1, 1, none⟩ = some (.int .i64 hi)
  f0 : U.frozen? ⟨b + 1, 0, none⟩ = false
  f1 : U.frozen? ⟨b + 1, 1, none⟩ = false
  g0 : U.frozen? ⟨b + 1 + 1 + 1, 0, none⟩ = false
  g1 : U.frozen? ⟨b + 1 + 1 + 1, 1, none⟩ = false
  size : b + 1 + 1 + 1 < U.heap.size

theorem RefW.below {b : Nat} {a0 a1 a2 a3 a4 a5 lo hi : Int} {U V : World} (h : RefW b a0 a1 a2 a3 a4 a5 lo hi U) (hb : Below U.heap.size U V) : RefW b a0 a1 a2 a3 a4 a5 lo hi V := by
  have hs := h.size
  have hv := hb.size
  have c : ∀ k j, k ≤ b + 1 + 1 + 1 → V.cell? ⟨k, j, none⟩ = U.cell? ⟨k, j, none⟩ := fun k j hk => hb.cell (p := ⟨k, j, none⟩) (by show k < _; omega)
  have d : ∀ k j, k ≤ b + 1 + 1 + 1 → V.frozen? ⟨k, j, none⟩ = U.frozen? ⟨k, j, none⟩ := fun k j hk => hb.frozen (p := ⟨k, j, none⟩) (by show k < _; omega)
  exact ⟨by rw [c _ _ (by omega)]; exact h.l0, by rw [c _ _ (by omega)]; exact h.l1, by rw [c _ _ (by omega)]; exact h.l2, by rw [c _ _ (by omega)]; exact h.l3, by rw [c _ _ (by omega)]; exact h.l4, by rw [c _ _ (by omega)]; exact h.l5,
    by rw [c _ _ (by omega)]; exact h.r0, by rw [c _ _ (by omega)]; exact h.r1, by rw [c _ _ (by omega)]; exact h.s0, by rw [c _ _ (by omega)]; exact h.s1,
    by rw [d _ _ (by omega)]; exact h.f0, by rw [d _ _ (by omega)]; exact h.f1, by rw [d _ _ (by omega)]; exact h.g0, by rw [d _ _ (by omega)]; exact h.g1, by omega⟩

set_option maxHeartbeats 2000000 in
theorem rSafe_bad (a0 a1 a2 a3 a4 a5 : Int) (h : ¬ OkLine a0 a1 a2 a3 a4 a5) (w : World) :
    Calls Try.prog 28 #[.agg #[.int .i64 a0, .int .i64 a1, .int .i64 a2, .int .i64 a3, .int .i64 a4, .int .i64 a5]] w fun e w' => e = .returned (.tuple #[.agg #[.int .i64 0, .int .i64 0], .int .i64 7]) ∧ Below w.heap.size w w' := by
  go_enter Try.func28, Try.ntmps28
  go_wp2_with fail
  refine (rcheck_bad a0 a1 a2 a3 a4 a5 h _).mono ?_; rintro e w' ⟨rfl, rfl⟩
  go_wp2
  refine bodyPost_ret (v := .tuple #[.agg #[.int .i64 0, .int .i64 0], .int .i64 7]) (by simp [results, Try.results28, go_sem]) rfl ⟨rfl, ?_⟩
  go_grown

set_option maxRecDepth 100000 in
set_option maxHeartbeats 2000000 in
theorem rSafe_ok (f : Int → Bool) (a0 a1 a2 a3 a4 a5 : Int) (h : OkLine a0 a1 a2 a3 a4 a5)
    (HS : Hid (∀ T, -500 ≤ T → T ≤ 1000 → ∀ w, Calls Try.prog 62 #[.agg #[.int .i64 a0, .int .i64 a1, .int .i64 a2, .int .i64 a3, .int .i64 a4, .int .i64 a5], .int .i64 T] w fun e w' => e = .returned (.bool (f T)) ∧ Below w.heap.size w w')) (w : World) :
    Calls Try.prog 28 #[.agg #[.int .i64 a0, .int .i64 a1, .int .i64 a2, .int .i64 a3, .int .i64 a4, .int .i64 a5]] w (SafeIs f w) := by
  go_enter Try.func28, Try.ntmps28
  go_wp2_with fail
  refine (rcheck_ok a0 a1 a2 a3 a4 a5 h _).mono ?_; rintro e w' ⟨rfl, rfl⟩
  go_wp2
  go_loopw [6] (fun v U => ∃ x : Int, v = .int .i64 x ∧ -500 ≤ x ∧ x ≤ 1001 ∧ RefW w.heap.size a0 a1 a2 a3 a4 a5 (spanOf (upS f x)).1 (spanOf (upS f x)).2 U ∧ Below w.heap.size w U) (fun v _ => (1001 - intOf v).toNat)
  case atStart =>
    refine ⟨-500, rfl, by omega, by omega, ?_, by go_grown⟩
    constructor <;> simp [go_sem, upS_start, spanOf]
  case round =>
    obtain ⟨x, rfl, hx1, hx2, hR, hB⟩ := hrel
    by_cases hlt : x ≤ 1000
    · have KS := Lib.hid (HS.out x hx1 hlt)
      have hu := upS_succ f hx1
      cases hf : f x with
      | true =>
        rw [hf] at KS hu
        have HU : Hid (spanOf (upS f (x + 1)) = (if x < (spanOf (upS f x)).1 then x else (spanOf (upS f x)).1, x)) := Lib.hid (by rw [hu]; exact spanOf_snoc _ _)
        clear hu hf
        generalize spanOf (upS f x) = p at *
        obtain ⟨lo, hi⟩ := p
        have ⟨l0, l1, l2, l3, l4, l5, r0, r1, s0, s1, f0, f1, g0, g1, size⟩ := hR
        go_wp2_with fail
        refine (KS.out _).mono ?_; rintro e U1 ⟨rfl, hb1⟩
        clear l0 l1 l2 l3 l4 l5 r0 r1 s0 s1 f0 f1 g0 g1
        have hR1 := hR.below hb1
        have hB1 : Below w.heap.size w U1 := hB.trans (below_down hB.size hb1)
        clear hb1 hR size
        have ⟨l0, l1, l2, l3, l4, l5, r0, r1, s0, s1, f0, f1, g0, g1, size⟩ := hR1
        go_wp2
        go_roundw
        case rel =>
          refine ⟨x + 1, rfl, by omega, by omega, ?_, two_below hB1 (by omega)⟩
          rw [HU.out]
          have t := two_set (x := .int .i64 (if x < lo then x else lo)) (y := .int .i64 x) s0 s1
          have far := fun (k j : Nat) (hk : k ≠ w.heap.size + 1 + 1 + 1) => two_far (U := U1) (j := j) (x := .int .i64 (if x < lo then x else lo)) (y := .int .i64 x) hk
          exact ⟨by rw [far _ _ (by omega)]; exact l0, by rw [far _ _ (by omega)]; exact l1, by rw [far _ _ (by omega)]; exact l2, by rw [far _ _ (by omega)]; exact l3, by rw [far _ _ (by omega)]; exact l4, by rw [far _ _ (by omega)]; exact l5,
            by rw [far _ _ (by omega)]; exact r0, by rw [far _ _ (by omega)]; exact r1, t.1, t.2, by simpa using f0, by simpa using f1, by simpa using g0, by simpa using g1, by simpa using size⟩
        case measure => simp [intOf]; omega
      | false =>
        rw [hf] at KS hu
        have HU : Hid (upS f (x + 1) = upS f x) := Lib.hid (by simpa using hu)
        clear hu hf
        have ⟨l0, l1, l2, l3, l4, l5, r0, r1, s0, s1, f0, f1, g0, g1, size⟩ := hR
        go_wp2_with fail
        refine (KS.out _).mono ?_; rintro e U1 ⟨rfl, hb1⟩
        clear l0 l1 l2 l3 l4 l5 r0 r1 s0 s1 f0 f1 g0 g1
        have hR1 := hR.below hb1
        have hB1 : Below w.heap.size w U1 := hB.trans (below_down hB.size hb1)
        clear hb1 hR size
        go_wp2
        go_roundw
        case rel => exact ⟨x + 1, rfl, by omega, by omega, by rw [HU.out]; exact hR1, hB1⟩
        case measure => simp [intOf]; omega
    · obtain rfl : x = 1001 := by omega
      obtain ⟨lo, hlo⟩ : ∃ lo, (spanOf (upS f 1001)).1 = lo := ⟨_, rfl⟩
      obtain ⟨hi, hhi⟩ : ∃ hi, (spanOf (upS f 1001)).2 = hi := ⟨_, rfl⟩
      rw [hlo, hhi] at hR
      have EL := Lib.hid hlo
      have EH := Lib.hid hhi
      clear hlo hhi
      have ⟨l0, l1, l2, l3, l4, l5, r0, r1, s0, s1, f0, f1, g0, g1, size⟩ := hR
      by_cases hgt : lo > hi
      · have G : Hid (lo > hi) := Lib.hid hgt
        have hgt' : hi < lo := hgt
        clear hgt
        go_wp2
        obtain ⟨t0, t1⟩ := two_set (x := .int .i64 0) (y := .int .i64 0) r0 r1
        refine bodyPost_ret (v := .tuple #[.agg #[.int .i64 0, .int .i64 0], .int .i64 9]) (by simp [results, Try.results28, t0, t1, go_sem]) rfl ?_
        unfold SafeIs
        rw [EL.out, EH.out, if_pos (show lo > hi from G.out)]
        exact ⟨rfl, two_below hB (by omega)⟩
      · have G : Hid (¬ lo > hi) := Lib.hid hgt
        have hgt' : ¬ hi < lo := hgt
        clear hgt
        go_wp2
        obtain ⟨t0, t1⟩ := two_set (x := .int .i64 lo) (y := .int .i64 hi) r0 r1
        refine bodyPost_ret (v := .tuple #[.agg #[.int .i64 lo, .int .i64 hi], .int .i64 0]) (by simp [results, Try.results28, t0, t1, go_sem]) rfl ?_
        unfold SafeIs
        rw [EL.out, EH.out, if_neg (show ¬ lo > hi from Int.not_lt.2 G.out)]
        exact ⟨rfl, two_below hB (by omega)⟩
end Go.Proofs.Ytplipfcnjmgicaa
