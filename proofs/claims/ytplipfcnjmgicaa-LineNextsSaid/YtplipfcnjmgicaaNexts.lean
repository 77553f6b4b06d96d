/-
  LineNexts: the walk. No statement is proved here.
-/
import Derived.Test.YtplipfcnjmgicaaWk4
import Derived.Test.YtplipfcnjmgicaaRf2
import Derived.Test.YtplipfcnjmgicaaAwake
import Derived.Lib.Hide
namespace Go.Proofs.Ytplipfcnjmgicaa
open Go.RowKit Go.Sort
set_option linter.unusedVariables false
set_option linter.unusedSimpArgs false

theorem awake_nx (w : World) : Calls Try.prog 22 #[] w fun e w' => e = .returned (.bool true) ∧ Below w.heap.size w w' := Go.Proofs.Ev.awake w
theorem below_lower {n m : Nat} {w w' : World} (h : n ≤ m) (hb : Below m w w') : Below n w w' := ⟨hb.os, hb.tape, hb.output, hb.size, fun k hk => hb.block k (by omega)⟩

set_option maxHeartbeats 2000000 in
theorem nexts_of (a0 a1 a2 a3 a4 a5 p t n0 e0 : Int)
    (K1 : Hid (∀ w, Calls Try.prog 34 #[.agg #[.int .i64 a0, .int .i64 a1, .int .i64 a2, .int .i64 a3, .int .i64 a4, .int .i64 a5], .int .i64 p, .int .i64 t] w fun e w' => e = .returned (.tuple #[.int .i64 n0, .int .i64 e0]) ∧ Below w.heap.size w w'))
    (K2 : Hid (∀ w, Calls Try.prog 35 #[.agg #[.int .i64 a0, .int .i64 a1, .int .i64 a2, .int .i64 a3, .int .i64 a4, .int .i64 a5], .int .i64 p, .int .i64 t] w fun e w' => e = .returned (.tuple #[.int .i64 n0, .int .i64 e0]) ∧ Below w.heap.size w w')) (w : World) :
    Calls Try.prog 7 #[.agg #[.int .i64 a0, .int .i64 a1, .int .i64 a2, .int .i64 a3, .int .i64 a4, .int .i64 a5], .int .i64 p, .int .i64 t] w fun e w' => e = .returned (.bool true) ∧ Below w.heap.size w w' := by
  have ee1 : (n0 == n0) = true := by simp
  have ee2 : (e0 == e0) = true := by simp
  go_enter Try.func7, Try.ntmps7
  go_wp2_with fail
  refine (K1.out _).mono ?_; rintro e w1 ⟨rfl, hb1⟩
  have c0 : w1.cell? ⟨w.heap.size, 0, none⟩ = some (.int .i64 a0) := by rw [hb1.cell (by simp)]; simp [go_sem]
  have c1 : w1.cell? ⟨w.heap.size, 1, none⟩ = some (.int .i64 a1) := by rw [hb1.cell (by simp)]; simp [go_sem]
  have c2 : w1.cell? ⟨w.heap.size, 2, none⟩ = some (.int .i64 a2) := by rw [hb1.cell (by simp)]; simp [go_sem]
  have c3 : w1.cell? ⟨w.heap.size, 3, none⟩ = some (.int .i64 a3) := by rw [hb1.cell (by simp)]; simp [go_sem]
  have c4 : w1.cell? ⟨w.heap.size, 4, none⟩ = some (.int .i64 a4) := by rw [hb1.cell (by simp)]; simp [go_sem]
  have c5 : w1.cell? ⟨w.heap.size, 5, none⟩ = some (.int .i64 a5) := by rw [hb1.cell (by simp)]; simp [go_sem]
  have bW : Below w.heap.size w w1 := by
    have hs := hb1.size
    simp only [World.size_alloc] at hs hb1
    exact ((Below.refl _ w).alloc (Nat.le_refl _) _).trans (below_lower (by omega) hb1)
  clear hb1
  go_wp2_with fail
  refine (K2.out _).mono ?_; rintro e w2 ⟨rfl, hb2⟩
  clear c0 c1 c2 c3 c4 c5
  go_wp2_with fail
  refine (awake_nx _).mono ?_; rintro e w3 ⟨rfl, hb3⟩
  go_wp2
  go_ret
  have h1 := bW.size
  have h2 := hb2.size
  exact ⟨rfl, bW.trans ((below_lower h1 hb2).trans (below_lower (by omega) hb3))⟩

theorem nexts_walk (a0 a1 a2 a3 a4 a5 p t : Int) (w : World) :
    Calls Try.prog 7 #[.agg #[.int .i64 a0, .int .i64 a1, .int .i64 a2, .int .i64 a3, .int .i64 a4, .int .i64 a5], .int .i64 p, .int .i64 t] w fun e w' => e = .returned (.bool true) ∧ Below w.heap.size w w' := by
  by_cases h : OkLine a0 a1 a2 a3 a4 a5
  · by_cases hpt : (0 ≤ p ∧ p ≤ a0 - 1) ∧ 0 ≤ t ∧ t ≤ 1000000000
    · exact nexts_of a0 a1 a2 a3 a4 a5 p t _ _ (Lib.hid (next_ok a0 a1 a2 a3 a4 a5 p t h hpt.1 hpt.2)) (Lib.hid (rnext_ok a0 a1 a2 a3 a4 a5 p t h hpt.1 hpt.2)) w
    · exact nexts_of a0 a1 a2 a3 a4 a5 p t _ _ (Lib.hid (next_far a0 a1 a2 a3 a4 a5 p t h hpt)) (Lib.hid (rnext_far a0 a1 a2 a3 a4 a5 p t h hpt)) w
  · exact nexts_of a0 a1 a2 a3 a4 a5 p t _ _ (Lib.hid (next_bad a0 a1 a2 a3 a4 a5 p t h)) (Lib.hid (rnext_bad a0 a1 a2 a3 a4 a5 p t h)) w
end Go.Proofs.Ytplipfcnjmgicaa
