/-
  LineBeats: the walk, where Next refuses. No statement is proved here yet.
-/
import Derived.Test.YtplipfcnjmgicaaWk4
import Derived.Test.YtplipfcnjmgicaaWk5
import Derived.Test.YtplipfcnjmgicaaAwake
import Derived.BigQuiet
import Derived.Lib.QuietBelow
namespace Go.Proofs.Ytplipfcnjmgicaa
open Go.RowKit Go.Sort
set_option linter.unusedVariables false
set_option linter.unusedSimpArgs false

theorem awake_is (w : World) : Calls Try.prog 22 #[] w fun e w' => e = .returned (.bool true) ∧ Below w.heap.size w w' := Go.Proofs.Ev.awake w
theorem below_fewer {n m : Nat} {w w' : World} (h : n ≤ m) (hb : Below m w w') : Below n w w' := ⟨hb.os, hb.tape, hb.output, hb.size, fun k hk => hb.block k (by omega)⟩

set_option maxHeartbeats 2000000 in
theorem beats_bad (a0 a1 a2 a3 a4 a5 p t : Int) (h : ¬ (OkLine a0 a1 a2 a3 a4 a5 ∧ (0 ≤ p ∧ p ≤ a0 - 1) ∧ 0 ≤ t ∧ t ≤ 1000000000)) (w : World) :
    Calls Try.prog 16 #[.agg #[.int .i64 a0, .int .i64 a1, .int .i64 a2, .int .i64 a3, .int .i64 a4, .int .i64 a5], .int .i64 p, .int .i64 t] w fun e w' => e = .returned (.bool true) ∧ Below w.heap.size w w' := by
  have key : ∀ w, Calls Try.prog 34 #[.agg #[.int .i64 a0, .int .i64 a1, .int .i64 a2, .int .i64 a3, .int .i64 a4, .int .i64 a5], .int .i64 p, .int .i64 t] w fun e w' => e = .returned (.tuple #[.int .i64 0, .int .i64 7]) ∧ Below w.heap.size w w' := fun w => by
    by_cases hl : OkLine a0 a1 a2 a3 a4 a5
    · exact next_far a0 a1 a2 a3 a4 a5 p t hl (fun hh => h ⟨hl, hh⟩) w
    · exact next_bad a0 a1 a2 a3 a4 a5 p t hl w
  have K : Hid (∀ w, Calls Try.prog 34 #[.agg #[.int .i64 a0, .int .i64 a1, .int .i64 a2, .int .i64 a3, .int .i64 a4, .int .i64 a5], .int .i64 p, .int .i64 t] w fun e w' => e = .returned (.tuple #[.int .i64 0, .int .i64 7]) ∧ Below w.heap.size w w') := key
  clear key h
  go_enter Try.func16, Try.ntmps16
  go_wp2_with fail
  go_call K.out as e w1 ⟨rfl, hb1⟩
  go_wp2_with fail
  go_call awake_is as e w2 ⟨rfl, hb2⟩
  go_wp2
  go_ret
  refine ⟨rfl, ?_⟩
  have hs := hb1.size
  simp only [World.size_alloc] at hs hb1
  exact ((Below.refl _ w).alloc (Nat.le_refl _) _).trans ((below_fewer (by omega) hb1).trans (below_fewer (by omega) hb2))

set_option maxRecDepth 1000000 in
set_option maxHeartbeats 2000000 in
theorem beats_ok (a0 a1 a2 a3 a4 a5 p t : Int) (h : OkLine a0 a1 a2 a3 a4 a5) (hp : 0 ≤ p ∧ p ≤ a0 - 1) (ht : 0 ≤ t ∧ t ≤ 1000000000) (w : World) :
    Calls Try.prog 16 #[.agg #[.int .i64 a0, .int .i64 a1, .int .i64 a2, .int .i64 a3, .int .i64 a4, .int .i64 a5], .int .i64 p, .int .i64 t] w fun e w' => e = .returned (.bool true) ∧ Below w.heap.size w w' := by
  have g0 := h.h0
  have g1 := h.h1
  have q2 := mul_bound ⟨g0, g1⟩
  have q1 : 0 ≤ p * a1 ∧ p * a1 < a0 * a1 := by
    constructor
    · exact Int.mul_nonneg hp.1 (by omega)
    · exact Int.mul_lt_mul_of_pos_right (by omega) (by omega)
  obtain ⟨n, hnv⟩ : ∃ n, n = t + 1 + (p * a1 - (t + 1)) % (a0 * a1) := ⟨_, rfl⟩
  have n1 := next_range (t := t) (q := p * a1) (m := a0 * a1) (by omega)
  have n2 := next_emod (t := t) q1
  rw [← hnv] at n1 n2
  have key : ∀ w, Calls Try.prog 34 #[.agg #[.int .i64 a0, .int .i64 a1, .int .i64 a2, .int .i64 a3, .int .i64 a4, .int .i64 a5], .int .i64 p, .int .i64 t] w fun e w' => e = .returned (.tuple #[.int .i64 n, .int .i64 0]) ∧ Below w.heap.size w w' := fun w => by
    rw [hnv]; exact next_ok a0 a1 a2 a3 a4 a5 p t h hp ht w
  have K := key
  have KH : Hid (∀ w, Calls Try.prog 34 #[.agg #[.int .i64 a0, .int .i64 a1, .int .i64 a2, .int .i64 a3, .int .i64 a4, .int .i64 a5], .int .i64 p, .int .i64 t] w fun e w' => e = .returned (.tuple #[.int .i64 n, .int .i64 0]) ∧ Below w.heap.size w w') := K
  have N2 : Hid (n % (a0 * a1) = p * a1) := n2
  clear key K n2 hnv
  go_enter Try.func16, Try.ntmps16
  go_wp2_with fail
  go_call KH.out as e w1 ⟨rfl, hb1⟩
  have c0 : w1.cell? ⟨w.heap.size, 0, none⟩ = some (.int .i64 a0) := by rw [hb1.cell (by simp)]; simp [go_sem]
  have c1 : w1.cell? ⟨w.heap.size, 1, none⟩ = some (.int .i64 a1) := by rw [hb1.cell (by simp)]; simp [go_sem]
  have c2 : w1.cell? ⟨w.heap.size, 2, none⟩ = some (.int .i64 a2) := by rw [hb1.cell (by simp)]; simp [go_sem]
  have c3 : w1.cell? ⟨w.heap.size, 3, none⟩ = some (.int .i64 a3) := by rw [hb1.cell (by simp)]; simp [go_sem]
  have c4 : w1.cell? ⟨w.heap.size, 4, none⟩ = some (.int .i64 a4) := by rw [hb1.cell (by simp)]; simp [go_sem]
  have c5 : w1.cell? ⟨w.heap.size, 5, none⟩ = some (.int .i64 a5) := by rw [hb1.cell (by simp)]; simp [go_sem]
  have bW : Below w.heap.size w w1 := by
    have hs := hb1.size
    simp only [World.size_alloc] at hs hb1
    exact ((Below.refl _ w).alloc (Nat.le_refl _) _).trans (below_fewer (by omega) hb1)
  clear hb1
  have wm : wrap64 (a0 * a1) = a0 * a1 := wrap_in (by omega) (by omega)
  go_wp2
  have d1 : decide (n ≤ t) = false := by simp; omega
  have d2 : decide (a0 * a1 < n - t) = false := by simp; omega
  have hz : (a0 * a1 == 0) = false := by simp; omega
  have hmod : n.tmod (a0 * a1) = p * a1 := by rw [Int.tmod_eq_emod_of_nonneg (by omega), N2.out]
  have hmod2 : n % (a0 * a1) = p * a1 := N2.out
  have wp1 : IntKind.i64.wrap (p * a1) = p * a1 := by rw [IntKind.wrap_i64]; omega
  have wp2 : wrap64 (p * a1) = p * a1 := wrap_in (by omega) (by omega)
  have ee : (p * a1 != p * a1) = false := by simp
  go_quiet (fail)
  clear d1 d2 hmod hmod2 wp1 wp2 ee
  obtain ⟨W, hW⟩ : ∃ W, W = w1.drewN nq := ⟨_, rfl⟩
  have bW2 : Below w.heap.size w W := by rw [hW]; exact bW.trans ⟨rfl, rfl, rfl, Nat.le_refl _, fun _ _ => rfl⟩
  have e0 : W.cell? ⟨w.heap.size, 0, none⟩ = some (.int .i64 a0) := by rw [hW]; exact c0
  have e1 : W.cell? ⟨w.heap.size, 1, none⟩ = some (.int .i64 a1) := by rw [hW]; exact c1
  have e2 : W.cell? ⟨w.heap.size, 2, none⟩ = some (.int .i64 a2) := by rw [hW]; exact c2
  have e3 : W.cell? ⟨w.heap.size, 3, none⟩ = some (.int .i64 a3) := by rw [hW]; exact c3
  have e4 : W.cell? ⟨w.heap.size, 4, none⟩ = some (.int .i64 a4) := by rw [hW]; exact c4
  have e5 : W.cell? ⟨w.heap.size, 5, none⟩ = some (.int .i64 a5) := by rw [hW]; exact c5
  rw [← hW]
  clear c0 c1 c2 c3 c4 c5 bW hW
  have hlow := bW2.size
  by_cases hbig : 1000000000 < n
  · clear e0 e1 e2 e3 e4 e5
    go_wp2_with fail
    go_call awake_is as e w2 ⟨rfl, hb2⟩
    go_wp2
    go_ret
    exact ⟨rfl, bW2.trans (below_fewer hlow hb2)⟩
  · have pin := place_in hp
    obtain ⟨m2, hm2⟩ : ∃ m2, m2 = n + 1 + ((p + 1) % a0 * a1 - (n + 1)) % (a0 * a1) := ⟨_, rfl⟩
    obtain ⟨m3, hm3⟩ : ∃ m3, m3 = n + 1 + (p * a1 - (n + 1)) % (a0 * a1) := ⟨_, rfl⟩
    have b1 : a1 ≤ a0 * a1 := by
      have := Int.mul_le_mul_of_nonneg_right g0.1 (by omega : (0 : Int) ≤ a1)
      omega
    have f2 : m2 - n = a1 := by rw [hm2]; exact onward_eq (q := p * a1) ⟨g1.1, b1⟩ N2.out (place_eq hp)
    have f3 : m3 - n = a0 * a1 := by rw [hm3]; exact again_eq q1 N2.out
    have key2 : ∀ w, Calls Try.prog 34 #[.agg #[.int .i64 a0, .int .i64 a1, .int .i64 a2, .int .i64 a3, .int .i64 a4, .int .i64 a5], .int .i64 ((p + 1) % a0), .int .i64 n] w fun e w' => e = .returned (.tuple #[.int .i64 m2, .int .i64 0]) ∧ Below w.heap.size w w' := fun w => by
      rw [hm2]; exact next_ok a0 a1 a2 a3 a4 a5 _ n h pin ⟨by omega, by omega⟩ w
    have key3 : ∀ w, Calls Try.prog 34 #[.agg #[.int .i64 a0, .int .i64 a1, .int .i64 a2, .int .i64 a3, .int .i64 a4, .int .i64 a5], .int .i64 p, .int .i64 n] w fun e w' => e = .returned (.tuple #[.int .i64 m3, .int .i64 0]) ∧ Below w.heap.size w w' := fun w => by
      rw [hm3]; exact next_ok a0 a1 a2 a3 a4 a5 p n h hp ⟨by omega, by omega⟩ w
    have K3 : Hid (∀ w, Calls Try.prog 34 #[.agg #[.int .i64 a0, .int .i64 a1, .int .i64 a2, .int .i64 a3, .int .i64 a4, .int .i64 a5], .int .i64 p, .int .i64 n] w fun e w' => e = .returned (.tuple #[.int .i64 m3, .int .i64 0]) ∧ Below w.heap.size w w') := key3
    have cN : ∀ d os, Calls Try.prog 34 #[.agg #[.int .i64 a0, .int .i64 a1, .int .i64 a2, .int .i64 a3, .int .i64 a4, .int .i64 a5], .int .i64 ((p + 1) % a0), .int .i64 n] (grow (redrawn W d) os) fun e w'' => e = .returned (.tuple #[.int .i64 m2, .int .i64 0]) ∧ ∃ p : Regrown, w'' = grow (redrawn W p.d) p.os := fun d os => Calls.regrown_of (key2 _)
    clear hm2 hm3 key2 key3
    go_wp2
    have tm : (p + 1).tmod a0 = (p + 1) % a0 := Int.tmod_eq_emod_of_nonneg (by omega)
    have hz0 : (a0 == 0) = false := by simp; omega
    have k0 := cell_regrown e0
    have k1 := cell_regrown e1
    have k2 := cell_regrown e2
    have k3 := cell_regrown e3
    have k4 := cell_regrown e4
    have k5 := cell_regrown e5
    refine wp_region_quiet_below rfl (by kernel_rfl) ?_
    have hz1 : ¬ a0 = 0 := by omega
    have wq : IntKind.i64.wrap (p + 1) = p + 1 := by rw [IntKind.wrap_i64]; omega
    iterate 5 (quiet_step (fail))
    quiet_step (first | (simp only [hz1, wq, tm, if_false]; exact ⟨rfl, rfl⟩) | (rw [if_neg hz1, wq, tm]; exact ⟨rfl, rfl⟩))
    iterate 7 (quiet_step (with_reducible exact cN _ _))
    refine wpQuiet_nil ?_
    intro _ hw'
    obtain ⟨⟨dq, osq⟩, hw''⟩ := hw'
    subst hw''
    have b3 := below_regrown W dq osq
    obtain ⟨X, hX⟩ : ∃ X, X = grow (redrawn W dq) osq := ⟨_, rfl⟩
    have x0 := k0 dq osq
    have x1 := k1 dq osq
    have x2 := k2 dq osq
    have x3 := k3 dq osq
    have x4 := k4 dq osq
    have x5 := k5 dq osq
    rw [← hX] at b3 x0 x1 x2 x3 x4 x5
    rw [← hX]
    clear hX cN k0 k1 k2 k3 k4 k5 e0 e1 e2 e3 e4 e5 tm wq hz0 hz1
    have bX : Below w.heap.size w X := bW2.trans (below_fewer hlow b3)
    have hlowX := bX.size
    have u2 : wrap64 (m2 - n) = m2 - n := wrap_in (by omega) (by omega)
    have v2 : (m2 - n == a1) = true := by simp [f2]
    have v3 : (m3 - n == a0 * a1) = true := by simp [f3]
    go_wp2_with fail
    go_call K3.out as e w3 ⟨rfl, hb3⟩
    have y1 : w3.cell? ⟨w.heap.size, 1, none⟩ = some (.int .i64 a1) := by rw [hb3.cell (block_lt_of_cell x1)]; exact x1
    clear x0 x1 x2 x3 x4 x5
    go_wp2_with fail
    go_call awake_is as e w4 ⟨rfl, hb4⟩
    go_wp2
    go_ret
    have hl3 := hb3.size
    exact ⟨rfl, bX.trans ((below_fewer hlowX hb3).trans (below_fewer (by omega) hb4))⟩

/-- LineBeats answers true. -/
theorem beats_walk (a0 a1 a2 a3 a4 a5 p t : Int) (w : World) :
    Calls Try.prog 16 #[.agg #[.int .i64 a0, .int .i64 a1, .int .i64 a2, .int .i64 a3, .int .i64 a4, .int .i64 a5], .int .i64 p, .int .i64 t] w fun e w' => e = .returned (.bool true) ∧ Below w.heap.size w w' := by
  by_cases h : OkLine a0 a1 a2 a3 a4 a5 ∧ (0 ≤ p ∧ p ≤ a0 - 1) ∧ 0 ≤ t ∧ t ≤ 1000000000
  · exact beats_ok a0 a1 a2 a3 a4 a5 p t h.1 h.2.1 h.2.2 w
  · exact beats_bad a0 a1 a2 a3 a4 a5 p t h w
end Go.Proofs.Ytplipfcnjmgicaa
