/-
  THE CONTRACT OF Safe. No statement is proved here.
-/
import Derived.Test.YtplipfcnjmgicaaSafe2
import Derived.Test.YtplipfcnjmgicaaEnds
namespace Go.Proofs.Ytplipfcnjmgicaa
open Go.RowKit Go.Shelf
set_option linter.unusedVariables false
set_option linter.unusedSimpArgs false

theorem ends_span (f : Int → Bool) : ∀ k : Nat, k ≤ 1501 → ((endsOf (upS f (k - 500))).some = false ∧ spanOf (upS f (k - 500)) = (1001, -501)) ∨
    ((endsOf (upS f (k - 500))).some = true ∧ (endsOf (upS f (k - 500))).lo = (spanOf (upS f (k - 500))).1 ∧ (endsOf (upS f (k - 500))).hi = (spanOf (upS f (k - 500))).2 ∧
      (spanOf (upS f (k - 500))).1 ≤ (spanOf (upS f (k - 500))).2 ∧ (spanOf (upS f (k - 500))).2 < k - 500)
  | 0, _ => .inl ⟨rfl, rfl⟩
  | k + 1, hk => by
    have ih := ends_span f k (by omega)
    have e : ((k + 1 : Nat) : Int) - 500 = ((k : Int) - 500) + 1 := by omega
    rw [e]
    have hu := upS_succ f (x := (k : Int) - 500) (by omega)
    cases hf : f ((k : Int) - 500) with
    | false =>
      rw [hf] at hu
      have hu' : upS f ((k : Int) - 500 + 1) = upS f ((k : Int) - 500) := by simpa using hu
      rw [hu']
      rcases ih with ih | ⟨i1, i2, i3, i4, i5⟩
      · exact .inl ih
      · exact .inr ⟨i1, i2, i3, i4, by omega⟩
    | true =>
      rw [hf] at hu
      have hu' : upS f ((k : Int) - 500 + 1) = upS f ((k : Int) - 500) ++ [(k : Int) - 500] := by simpa using hu
      rw [hu', endsOf_snoc, spanOf_snoc]
      right
      generalize endsOf (upS f ((k : Int) - 500)) = p at *
      generalize spanOf (upS f ((k : Int) - 500)) = q at *
      obtain ⟨v, hv⟩ : ∃ v, v = (k : Int) - 500 := ⟨_, rfl⟩
      rw [← hv] at ih ⊢
      obtain ⟨lo, hi, sm⟩ := p
      obtain ⟨a, b⟩ := q
      rcases ih with ⟨i1, i2⟩ | ⟨i1, i2, i3, i4, i5⟩
      · dsimp only at i1 i2
        cases i2
        subst i1
        have h1 : v < 1001 := by omega
        simp only [endsStep, h1, if_true, Bool.false_eq_true, if_false, true_and]
        omega
      · dsimp only at i1 i2 i3 i4 i5
        subst i1 i2 i3
        have h1 : hi < v := i5
        have h2 : ¬ v < lo := by omega
        simp only [endsStep, h1, h2, if_true, if_false, true_and]
        omega

theorem safeTemps_any (a0 a1 a2 a3 a4 a5 : Int) (w : World) :
    Calls Try.prog 61 #[.agg #[.int .i64 a0, .int .i64 a1, .int .i64 a2, .int .i64 a3, .int .i64 a4, .int .i64 a5]] w fun e w' => e = .returned (.func (.func 88) #[] #[.pointer (some ⟨w.heap.size, 0, none⟩)]) ∧ w' = w.alloc (.cells #[.int .i64 a0, .int .i64 a1, .int .i64 a2, .int .i64 a3, .int .i64 a4, .int .i64 a5] 25) := by
  go_enter Try.func61, Try.ntmps61
  go_wp2
  go_ret
  exact ⟨rfl, rfl⟩

set_option maxHeartbeats 2000000 in
theorem safe_bad (a0 a1 a2 a3 a4 a5 : Int) (h : ¬ OkLine a0 a1 a2 a3 a4 a5) (w : World) :
    Calls Try.prog 27 #[.agg #[.int .i64 a0, .int .i64 a1, .int .i64 a2, .int .i64 a3, .int .i64 a4, .int .i64 a5]] w fun e w' => e = .returned (.tuple #[.agg #[.int .i64 0, .int .i64 0], .int .i64 7]) ∧ Below w.heap.size w w' := by
  go_enter Try.func27, Try.ntmps27
  go_wp2_with fail
  refine (check_bad a0 a1 a2 a3 a4 a5 h _).mono ?_; rintro e w' ⟨rfl, rfl⟩
  go_wp2
  refine bodyPost_ret (v := .tuple #[.agg #[.int .i64 0, .int .i64 0], .int .i64 7]) (by simp [results, Try.results27, go_sem]) rfl ⟨rfl, ?_⟩
  go_grown

set_option maxRecDepth 100000 in
set_option maxHeartbeats 2000000 in
theorem safe_ok (f : Int → Bool) (a0 a1 a2 a3 a4 a5 : Int) (h : OkLine a0 a1 a2 a3 a4 a5)
    (HS : Hid (∀ T, -500 ≤ T → T ≤ 1000 → ∀ w, Calls Try.prog 81 #[.agg #[.int .i64 a0, .int .i64 a1, .int .i64 a2, .int .i64 a3, .int .i64 a4, .int .i64 a5], .int .i64 T] w fun e w' => e = .returned (.bool (f T)) ∧ Below w.heap.size w w')) (w : World) :
    Calls Try.prog 27 #[.agg #[.int .i64 a0, .int .i64 a1, .int .i64 a2, .int .i64 a3, .int .i64 a4, .int .i64 a5]] w (SafeIs f w) := by
  go_enter Try.func27, Try.ntmps27
  go_wp2_with fail
  refine (check_ok a0 a1 a2 a3 a4 a5 h _).mono ?_; rintro e w' ⟨rfl, rfl⟩
  go_wp2_with fail
  refine (safeTemps_any a0 a1 a2 a3 a4 a5 _).mono ?_; rintro e w' ⟨rfl, rfl⟩
  go_wp2_with fail
  obtain ⟨W, hW⟩ : ∃ W, W = (((w.alloc (.cells #[.int .i64 a0, .int .i64 a1, .int .i64 a2, .int .i64 a3, .int .i64 a4, .int .i64 a5] 25)).alloc (.cells #[.int .i64 0, .int .i64 0] 31)).alloc (.cells #[.int .i64 a0, .int .i64 a1, .int .i64 a2, .int .i64 a3, .int .i64 a4, .int .i64 a5] 25)).alloc (.cells #[.int .i64 a0, .int .i64 a1, .int .i64 a2, .int .i64 a3, .int .i64 a4, .int .i64 a5] 25) := ⟨_, rfl⟩
  have hsz : W.heap.size = w.heap.size + 4 := by rw [hW]; simp
  have hBW : Below w.heap.size w W := by rw [hW]; clear hW; go_grown
  have b0 : W.cell? ⟨w.heap.size + 1 + 1 + 1, 0, none⟩ = some (.int .i64 a0) := by rw [hW]; simp [go_sem]
  have b1 : W.cell? ⟨w.heap.size + 1 + 1 + 1, 1, none⟩ = some (.int .i64 a1) := by rw [hW]; simp [go_sem]
  have b2 : W.cell? ⟨w.heap.size + 1 + 1 + 1, 2, none⟩ = some (.int .i64 a2) := by rw [hW]; simp [go_sem]
  have b3 : W.cell? ⟨w.heap.size + 1 + 1 + 1, 3, none⟩ = some (.int .i64 a3) := by rw [hW]; simp [go_sem]
  have b4 : W.cell? ⟨w.heap.size + 1 + 1 + 1, 4, none⟩ = some (.int .i64 a4) := by rw [hW]; simp [go_sem]
  have b5 : W.cell? ⟨w.heap.size + 1 + 1 + 1, 5, none⟩ = some (.int .i64 a5) := by rw [hW]; simp [go_sem]
  have r0 : W.cell? ⟨w.heap.size + 1, 0, none⟩ = some (.int .i64 0) := by rw [hW]; simp [go_sem]
  have r1 : W.cell? ⟨w.heap.size + 1, 1, none⟩ = some (.int .i64 0) := by rw [hW]; simp [go_sem]
  have f0 : W.frozen? ⟨w.heap.size + 1, 0, none⟩ = false := by rw [hW]; simp [go_sem]
  have f1 : W.frozen? ⟨w.heap.size + 1, 1, none⟩ = false := by rw [hW]; simp [go_sem]
  rw [← hW]
  refine (ends_in 88 #[.pointer (some ⟨w.heap.size + 1 + 1 + 1, 0, none⟩)] (enters_of Try.func88 (by kernel_rfl) rfl) _ _ _ W (safes_stops f a0 a1 a2 a3 a4 a5 HS.out 3 (by decide) (w.heap.size + 1 + 1 + 1) _ W (by omega) (Nat.le_refl _) ⟨b0, b1, b2, b3, b4, b5⟩)).mono ?_
  clear b0 b1 b2 b3 b4 b5 hW
  rintro e V ⟨xs, rfl, rfl, hb⟩
  have q0 := (hb.cell (p := ⟨w.heap.size + 1, 0, none⟩) (show w.heap.size + 1 < W.heap.size by omega)).trans r0
  have q1 := (hb.cell (p := ⟨w.heap.size + 1, 1, none⟩) (show w.heap.size + 1 < W.heap.size by omega)).trans r1
  have g0 := (hb.frozen (p := ⟨w.heap.size + 1, 0, none⟩) (show w.heap.size + 1 < W.heap.size by omega)).trans f0
  have g1 := (hb.frozen (p := ⟨w.heap.size + 1, 1, none⟩) (show w.heap.size + 1 < W.heap.size by omega)).trans f1
  have hBV : Below w.heap.size w V := hBW.trans (below_down (by omega) hb)
  clear r0 r1 f0 f1 hb hBW hsz
  have k : ((endsOf (upS f 1001)).some = false ∧ spanOf (upS f 1001) = (1001, -501)) ∨
    ((endsOf (upS f 1001)).some = true ∧ (endsOf (upS f 1001)).lo = (spanOf (upS f 1001)).1 ∧ (endsOf (upS f 1001)).hi = (spanOf (upS f 1001)).2 ∧
      (spanOf (upS f 1001)).1 ≤ (spanOf (upS f 1001)).2 ∧ (spanOf (upS f 1001)).2 < 1001) := ends_span f 1501 (Nat.le_refl _)
  rcases k with ⟨k1, k2⟩ | ⟨k1, k2, k3, k4, _⟩
  · have K2 := Lib.hid k2
    clear k2
    rw [k1]
    clear k1
    go_wp2
    obtain ⟨t0, t1⟩ := two_set (x := .int .i64 0) (y := .int .i64 0) q0 q1
    refine bodyPost_ret (v := .tuple #[.agg #[.int .i64 0, .int .i64 0], .int .i64 9]) (by simp [results, Try.results27, t0, t1, go_sem]) rfl ?_
    unfold SafeIs
    rw [K2.out, if_pos (by decide)]
    exact ⟨rfl, two_below hBV (by omega)⟩
  · have K4 := Lib.hid k4
    rw [k1, k2, k3]
    clear k1 k2 k3 k4
    go_wp2
    obtain ⟨t0, t1⟩ := two_set (x := .int .i64 (spanOf (upS f 1001)).1) (y := .int .i64 (spanOf (upS f 1001)).2) q0 q1
    refine bodyPost_ret (v := .tuple #[.agg #[.int .i64 (spanOf (upS f 1001)).1, .int .i64 (spanOf (upS f 1001)).2], .int .i64 0]) (by simp [results, Try.results27, t0, t1, go_sem]) rfl ?_
    unfold SafeIs
    rw [if_neg (Int.not_lt.2 K4.out)]
    exact ⟨rfl, two_below hBV (by omega)⟩
end Go.Proofs.Ytplipfcnjmgicaa
