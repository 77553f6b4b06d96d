/-
  OrderPacked: the walk. No statement is proved here.
-/
import Derived.Test.YtmkcijecncdhpaaOWords
namespace Go.Proofs.Ytmkcijecncdhpaa
open Go.RowKit
set_option linter.unusedVariables false
set_option linter.unusedSimpArgs false

theorem decode_pack (a b c d : Int) (h : OkOrder a b c d) (w : World) : Calls Try.prog 25 #[.int .i64 (packO a b c d)] w fun e w' => e = .returned (.tuple #[ordV a b c d, .int .i64 0]) ∧ Below w.heap.size w w' := by
  have k := Decode_any (packO a b c d) w
  unfold decR decV at k
  rw [if_pos (packO_bd h)] at k
  obtain ⟨e1, e2, e3, e4⟩ := unpack_pack h
  simp only [e1, e2, e3, e4] at k
  exact k
theorem decode_word (x : Int) (h : 0 ≤ x ∧ x ≤ 16777215) (w : World) : Calls Try.prog 25 #[.int .i64 x] w fun e w' => e = .returned (.tuple #[ordV (opO x) (fromO x) (toO x) (nextO x), .int .i64 0]) ∧ Below w.heap.size w w' := by
  have k := Decode_any x w
  unfold decR decV at k
  rw [if_pos h] at k
  exact k
theorem decode_none (x : Int) (h : ¬ (0 ≤ x ∧ x ≤ 16777215)) (w : World) : Calls Try.prog 25 #[.int .i64 x] w fun e w' => e = .returned (.tuple #[ordV 0 0 0 0, .int .i64 7]) ∧ Below w.heap.size w w' := by
  have k := Decode_any x w
  unfold decR decV at k
  rw [if_neg h] at k
  exact k
theorem encode_unpack (x : Int) (h : 0 ≤ x ∧ x ≤ 16777215) (w : World) : Calls Try.prog 23 #[ordV (opO x) (fromO x) (toO x) (nextO x)] w fun e w' => e = .returned (.tuple #[.int .i64 x, .int .i64 0]) ∧ Below w.heap.size w w' := by
  have k := encode_t _ _ _ _ (unpack_ok h) w
  rw [pack_unpack h] at k
  exact k
theorem signed_word (x : Int) (h : 0 ≤ x ∧ x ≤ 16777215) (w : World) : Calls Try.prog 27 #[.int .i64 x] w fun e w' => e = .returned (.tuple #[.int .i64 (signO x), .int .i64 0]) ∧ Below w.heap.size w w' := by
  have k := Signed_any x w
  unfold sgnV at k
  rw [if_pos h] at k
  exact k

set_option maxHeartbeats 2000000 in
theorem packed_t0 (a b c d x p q0 q1 q2 q3 s : Int) (K1 : Hid (∀ w, Calls Try.prog 23 #[ordV a b c d] w fun e w' => e = .returned (.tuple #[.int .i64 p, .int .i64 0]) ∧ Below w.heap.size w w')) (K2 : Hid (∀ w, Calls Try.prog 25 #[.int .i64 p] w fun e w' => e = .returned (.tuple #[ordV a b c d, .int .i64 0]) ∧ Below w.heap.size w w')) (hp : 0 ≤ p ∧ p ≤ 16777215) (K3 : Hid (∀ w, Calls Try.prog 25 #[.int .i64 x] w fun e w' => e = .returned (.tuple #[ordV 0 0 0 0, .int .i64 7]) ∧ Below w.heap.size w w')) (w : World) :
    Calls Try.prog 6 #[ordV a b c d, .int .i64 x] w fun e w' => e = .returned (.bool true) ∧ Below w.heap.size w w' := by
  obtain ⟨hp1, hp2⟩ := hp
  have hp3 : ¬ p < 0 := by omega
  have hp4 : ¬ 16777216 ≤ p := by omega
  go_enter Try.func6, Try.ntmps6
  go_wp2_with fail
  refine (K1.out _).mono ?_; rintro e w1 ⟨rfl, hb1⟩
  have c0 : w1.cell? ⟨w.heap.size, 0, none⟩ = some (.int .i64 a) := by rw [hb1.cell (by simp)]; simp [go_sem]
  have c1 : w1.cell? ⟨w.heap.size, 1, none⟩ = some (.int .i64 b) := by rw [hb1.cell (by simp)]; simp [go_sem]
  have c2 : w1.cell? ⟨w.heap.size, 2, none⟩ = some (.int .i64 c) := by rw [hb1.cell (by simp)]; simp [go_sem]
  have c3 : w1.cell? ⟨w.heap.size, 3, none⟩ = some (.int .i64 d) := by rw [hb1.cell (by simp)]; simp [go_sem]
  have hs1 := hb1.size
  have bW : Below w.heap.size w w1 := by
    simp only [World.size_alloc] at hs1 hb1
    exact ((Below.refl _ w).alloc (Nat.le_refl _) _).trans (below_lower (by omega) hb1)
  clear hb1
  simp only [World.size_alloc] at hs1
  go_wp2_with fail
  refine (K2.out _).mono ?_; rintro e w2 ⟨rfl, hb2⟩
  have d0 : w2.cell? ⟨w.heap.size, 0, none⟩ = some (.int .i64 a) := by rw [hb2.cell (by simp; omega)]; exact c0
  have d1 : w2.cell? ⟨w.heap.size, 1, none⟩ = some (.int .i64 b) := by rw [hb2.cell (by simp; omega)]; exact c1
  have d2 : w2.cell? ⟨w.heap.size, 2, none⟩ = some (.int .i64 c) := by rw [hb2.cell (by simp; omega)]; exact c2
  have d3 : w2.cell? ⟨w.heap.size, 3, none⟩ = some (.int .i64 d) := by rw [hb2.cell (by simp; omega)]; exact c3
  have hs2 := hb2.size
  have hlt2 : w.heap.size < w2.heap.size := by omega
  have bX := below_next bW bW.size hb2
  clear c0 c1 c2 c3 bW hb2 hs1 hs2
  go_wp2_with fail
  refine (K3.out _).mono ?_; rintro e w3 ⟨rfl, hb3⟩
  have bY : Below w.heap.size w w3 := by
    have h1 := bX.size
    have hs3 := hb3.size
    simp only [World.size_alloc] at hs3 hb3
    exact (bX.alloc (by omega) _).trans (below_lower (by omega) hb3)
  clear hb3 bX
  clear d0 d1 d2 d3 hlt2
  go_wp2_with fail
  refine (awake_b _).mono ?_; rintro e w7 ⟨rfl, hb7⟩
  have bZ : Below w.heap.size w w7 := by
    have h1 := bY.size
    have hs7 := hb7.size
    simp only [World.size_alloc] at hs7 hb7
    exact (bY.alloc (by omega) _).trans (below_lower (by omega) hb7)
  go_wp2
  go_ret
  exact ⟨rfl, bZ⟩

set_option maxHeartbeats 2000000 in
theorem packed_t1 (a b c d x p q0 q1 q2 q3 s : Int) (K1 : Hid (∀ w, Calls Try.prog 23 #[ordV a b c d] w fun e w' => e = .returned (.tuple #[.int .i64 p, .int .i64 0]) ∧ Below w.heap.size w w')) (K2 : Hid (∀ w, Calls Try.prog 25 #[.int .i64 p] w fun e w' => e = .returned (.tuple #[ordV a b c d, .int .i64 0]) ∧ Below w.heap.size w w')) (hp : 0 ≤ p ∧ p ≤ 16777215) (K3 : Hid (∀ w, Calls Try.prog 25 #[.int .i64 x] w fun e w' => e = .returned (.tuple #[ordV q0 q1 q2 q3, .int .i64 0]) ∧ Below w.heap.size w w')) (K4 : Hid (∀ w, Calls Try.prog 23 #[ordV q0 q1 q2 q3] w fun e w' => e = .returned (.tuple #[.int .i64 x, .int .i64 0]) ∧ Below w.heap.size w w')) (K5 : Hid (∀ w, Calls Try.prog 27 #[.int .i64 x] w fun e w' => e = .returned (.tuple #[.int .i64 s, .int .i64 0]) ∧ Below w.heap.size w w')) (hx : 0 ≤ x ∧ x ≤ 16777215) (hs : x < 8388608 ∧ s = x) (w : World) :
    Calls Try.prog 6 #[ordV a b c d, .int .i64 x] w fun e w' => e = .returned (.bool true) ∧ Below w.heap.size w w' := by
  obtain ⟨hp1, hp2⟩ := hp
  have hp3 : ¬ p < 0 := by omega
  have hp4 : ¬ 16777216 ≤ p := by omega
  obtain ⟨hs1, rfl⟩ := hs
  obtain ⟨hx1, hx2⟩ := hx
  have ee : (s == s) = true := by simp
  have hs2 : -8388608 ≤ s := by omega
  go_enter Try.func6, Try.ntmps6
  go_wp2_with fail
  refine (K1.out _).mono ?_; rintro e w1 ⟨rfl, hb1⟩
  have c0 : w1.cell? ⟨w.heap.size, 0, none⟩ = some (.int .i64 a) := by rw [hb1.cell (by simp)]; simp [go_sem]
  have c1 : w1.cell? ⟨w.heap.size, 1, none⟩ = some (.int .i64 b) := by rw [hb1.cell (by simp)]; simp [go_sem]
  have c2 : w1.cell? ⟨w.heap.size, 2, none⟩ = some (.int .i64 c) := by rw [hb1.cell (by simp)]; simp [go_sem]
  have c3 : w1.cell? ⟨w.heap.size, 3, none⟩ = some (.int .i64 d) := by rw [hb1.cell (by simp)]; simp [go_sem]
  have hs1 := hb1.size
  have bW : Below w.heap.size w w1 := by
    simp only [World.size_alloc] at hs1 hb1
    exact ((Below.refl _ w).alloc (Nat.le_refl _) _).trans (below_lower (by omega) hb1)
  clear hb1
  simp only [World.size_alloc] at hs1
  go_wp2_with fail
  refine (K2.out _).mono ?_; rintro e w2 ⟨rfl, hb2⟩
  have d0 : w2.cell? ⟨w.heap.size, 0, none⟩ = some (.int .i64 a) := by rw [hb2.cell (by simp; omega)]; exact c0
  have d1 : w2.cell? ⟨w.heap.size, 1, none⟩ = some (.int .i64 b) := by rw [hb2.cell (by simp; omega)]; exact c1
  have d2 : w2.cell? ⟨w.heap.size, 2, none⟩ = some (.int .i64 c) := by rw [hb2.cell (by simp; omega)]; exact c2
  have d3 : w2.cell? ⟨w.heap.size, 3, none⟩ = some (.int .i64 d) := by rw [hb2.cell (by simp; omega)]; exact c3
  have hs2 := hb2.size
  have hlt2 : w.heap.size < w2.heap.size := by omega
  have bX := below_next bW bW.size hb2
  clear c0 c1 c2 c3 bW hb2 hs1 hs2
  go_wp2_with fail
  refine (K3.out _).mono ?_; rintro e w3 ⟨rfl, hb3⟩
  have bY : Below w.heap.size w w3 := by
    have h1 := bX.size
    have hs3 := hb3.size
    simp only [World.size_alloc] at hs3 hb3
    exact (bX.alloc (by omega) _).trans (below_lower (by omega) hb3)
  clear hb3 bX
  clear d0 d1 d2 d3 hlt2
  go_wp2_with fail
  refine (K4.out _).mono ?_; rintro e w4 ⟨rfl, hb4⟩
  have bZ : Below w.heap.size w w4 := by
    have h1 := bY.size
    have hs4 := hb4.size
    simp only [World.size_alloc] at hs4 hb4
    exact (bY.alloc (by omega) _).trans (below_lower (by omega) hb4)
  clear hb4 bY
  go_wp2_with fail
  refine (K5.out _).mono ?_; rintro e w5 ⟨rfl, hb5⟩
  have bU := below_next bZ bZ.size hb5
  clear bZ hb5
  go_wp2_with fail
  refine (awake_b _).mono ?_; rintro e w7 ⟨rfl, hb7⟩
  go_wp2
  go_ret
  exact ⟨rfl, below_next bU bU.size hb7⟩

set_option maxHeartbeats 2000000 in
theorem packed_t2 (a b c d x p q0 q1 q2 q3 s : Int) (K1 : Hid (∀ w, Calls Try.prog 23 #[ordV a b c d] w fun e w' => e = .returned (.tuple #[.int .i64 p, .int .i64 0]) ∧ Below w.heap.size w w')) (K2 : Hid (∀ w, Calls Try.prog 25 #[.int .i64 p] w fun e w' => e = .returned (.tuple #[ordV a b c d, .int .i64 0]) ∧ Below w.heap.size w w')) (hp : 0 ≤ p ∧ p ≤ 16777215) (K3 : Hid (∀ w, Calls Try.prog 25 #[.int .i64 x] w fun e w' => e = .returned (.tuple #[ordV q0 q1 q2 q3, .int .i64 0]) ∧ Below w.heap.size w w')) (K4 : Hid (∀ w, Calls Try.prog 23 #[ordV q0 q1 q2 q3] w fun e w' => e = .returned (.tuple #[.int .i64 x, .int .i64 0]) ∧ Below w.heap.size w w')) (K5 : Hid (∀ w, Calls Try.prog 27 #[.int .i64 x] w fun e w' => e = .returned (.tuple #[.int .i64 s, .int .i64 0]) ∧ Below w.heap.size w w')) (hx : 0 ≤ x ∧ x ≤ 16777215) (hs : 8388608 ≤ x ∧ s = x - 16777216) (w : World) :
    Calls Try.prog 6 #[ordV a b c d, .int .i64 x] w fun e w' => e = .returned (.bool true) ∧ Below w.heap.size w w' := by
  obtain ⟨hp1, hp2⟩ := hp
  have hp3 : ¬ p < 0 := by omega
  have hp4 : ¬ 16777216 ≤ p := by omega
  obtain ⟨hs1, hs0⟩ := hs
  obtain ⟨hx1, hx2⟩ := hx
  have ee : (x == x) = true := by simp
  have e1 : (s == x) = false := by simp; omega
  have e2 : (s == x - 16777216) = true := by simp; omega
  have hs2 : -8388608 ≤ s := by omega
  have hs3 : s < 8388608 := by omega
  clear hs0
  go_enter Try.func6, Try.ntmps6
  go_wp2_with fail
  refine (K1.out _).mono ?_; rintro e w1 ⟨rfl, hb1⟩
  have c0 : w1.cell? ⟨w.heap.size, 0, none⟩ = some (.int .i64 a) := by rw [hb1.cell (by simp)]; simp [go_sem]
  have c1 : w1.cell? ⟨w.heap.size, 1, none⟩ = some (.int .i64 b) := by rw [hb1.cell (by simp)]; simp [go_sem]
  have c2 : w1.cell? ⟨w.heap.size, 2, none⟩ = some (.int .i64 c) := by rw [hb1.cell (by simp)]; simp [go_sem]
  have c3 : w1.cell? ⟨w.heap.size, 3, none⟩ = some (.int .i64 d) := by rw [hb1.cell (by simp)]; simp [go_sem]
  have hs1 := hb1.size
  have bW : Below w.heap.size w w1 := by
    simp only [World.size_alloc] at hs1 hb1
    exact ((Below.refl _ w).alloc (Nat.le_refl _) _).trans (below_lower (by omega) hb1)
  clear hb1
  simp only [World.size_alloc] at hs1
  go_wp2_with fail
  refine (K2.out _).mono ?_; rintro e w2 ⟨rfl, hb2⟩
  have d0 : w2.cell? ⟨w.heap.size, 0, none⟩ = some (.int .i64 a) := by rw [hb2.cell (by simp; omega)]; exact c0
  have d1 : w2.cell? ⟨w.heap.size, 1, none⟩ = some (.int .i64 b) := by rw [hb2.cell (by simp; omega)]; exact c1
  have d2 : w2.cell? ⟨w.heap.size, 2, none⟩ = some (.int .i64 c) := by rw [hb2.cell (by simp; omega)]; exact c2
  have d3 : w2.cell? ⟨w.heap.size, 3, none⟩ = some (.int .i64 d) := by rw [hb2.cell (by simp; omega)]; exact c3
  have hs2 := hb2.size
  have hlt2 : w.heap.size < w2.heap.size := by omega
  have bX := below_next bW bW.size hb2
  clear c0 c1 c2 c3 bW hb2 hs1 hs2
  go_wp2_with fail
  refine (K3.out _).mono ?_; rintro e w3 ⟨rfl, hb3⟩
  have bY : Below w.heap.size w w3 := by
    have h1 := bX.size
    have hs3 := hb3.size
    simp only [World.size_alloc] at hs3 hb3
    exact (bX.alloc (by omega) _).trans (below_lower (by omega) hb3)
  clear hb3 bX
  clear d0 d1 d2 d3 hlt2
  go_wp2_with fail
  refine (K4.out _).mono ?_; rintro e w4 ⟨rfl, hb4⟩
  have bZ : Below w.heap.size w w4 := by
    have h1 := bY.size
    have hs4 := hb4.size
    simp only [World.size_alloc] at hs4 hb4
    exact (bY.alloc (by omega) _).trans (below_lower (by omega) hb4)
  clear hb4 bY
  go_wp2_with fail
  refine (K5.out _).mono ?_; rintro e w5 ⟨rfl, hb5⟩
  have bU := below_next bZ bZ.size hb5
  clear bZ hb5
  go_wp2_with fail
  refine (awake_b _).mono ?_; rintro e w7 ⟨rfl, hb7⟩
  go_wp2
  go_ret
  exact ⟨rfl, below_next bU bU.size hb7⟩

set_option maxHeartbeats 2000000 in
theorem packed_f0 (a b c d x p q0 q1 q2 q3 s : Int) (K1 : Hid (∀ w, Calls Try.prog 23 #[ordV a b c d] w fun e w' => e = .returned (.tuple #[.int .i64 0, .int .i64 7]) ∧ Below w.heap.size w w')) (K3 : Hid (∀ w, Calls Try.prog 25 #[.int .i64 x] w fun e w' => e = .returned (.tuple #[ordV 0 0 0 0, .int .i64 7]) ∧ Below w.heap.size w w')) (w : World) :
    Calls Try.prog 6 #[ordV a b c d, .int .i64 x] w fun e w' => e = .returned (.bool true) ∧ Below w.heap.size w w' := by
  go_enter Try.func6, Try.ntmps6
  go_wp2_with fail
  refine (K1.out _).mono ?_; rintro e w2 ⟨rfl, hb1⟩
  have bX : Below w.heap.size w w2 := by
    have hs1 := hb1.size
    simp only [World.size_alloc] at hs1 hb1
    exact ((Below.refl _ w).alloc (Nat.le_refl _) _).trans (below_lower (by omega) hb1)
  clear hb1
  go_wp2_with fail
  refine (K3.out _).mono ?_; rintro e w3 ⟨rfl, hb3⟩
  have bY := below_next bX bX.size hb3
  clear hb3 bX
  go_wp2_with fail
  refine (awake_b _).mono ?_; rintro e w7 ⟨rfl, hb7⟩
  have bZ : Below w.heap.size w w7 := by
    have h1 := bY.size
    have hs7 := hb7.size
    simp only [World.size_alloc] at hs7 hb7
    exact (bY.alloc (by omega) _).trans (below_lower (by omega) hb7)
  go_wp2
  go_ret
  exact ⟨rfl, bZ⟩

set_option maxHeartbeats 2000000 in
theorem packed_f1 (a b c d x p q0 q1 q2 q3 s : Int) (K1 : Hid (∀ w, Calls Try.prog 23 #[ordV a b c d] w fun e w' => e = .returned (.tuple #[.int .i64 0, .int .i64 7]) ∧ Below w.heap.size w w')) (K3 : Hid (∀ w, Calls Try.prog 25 #[.int .i64 x] w fun e w' => e = .returned (.tuple #[ordV q0 q1 q2 q3, .int .i64 0]) ∧ Below w.heap.size w w')) (K4 : Hid (∀ w, Calls Try.prog 23 #[ordV q0 q1 q2 q3] w fun e w' => e = .returned (.tuple #[.int .i64 x, .int .i64 0]) ∧ Below w.heap.size w w')) (K5 : Hid (∀ w, Calls Try.prog 27 #[.int .i64 x] w fun e w' => e = .returned (.tuple #[.int .i64 s, .int .i64 0]) ∧ Below w.heap.size w w')) (hx : 0 ≤ x ∧ x ≤ 16777215) (hs : x < 8388608 ∧ s = x) (w : World) :
    Calls Try.prog 6 #[ordV a b c d, .int .i64 x] w fun e w' => e = .returned (.bool true) ∧ Below w.heap.size w w' := by
  obtain ⟨hs1, rfl⟩ := hs
  obtain ⟨hx1, hx2⟩ := hx
  have ee : (s == s) = true := by simp
  have hs2 : -8388608 ≤ s := by omega
  go_enter Try.func6, Try.ntmps6
  go_wp2_with fail
  refine (K1.out _).mono ?_; rintro e w2 ⟨rfl, hb1⟩
  have bX : Below w.heap.size w w2 := by
    have hs1 := hb1.size
    simp only [World.size_alloc] at hs1 hb1
    exact ((Below.refl _ w).alloc (Nat.le_refl _) _).trans (below_lower (by omega) hb1)
  clear hb1
  go_wp2_with fail
  refine (K3.out _).mono ?_; rintro e w3 ⟨rfl, hb3⟩
  have bY := below_next bX bX.size hb3
  clear hb3 bX
  go_wp2_with fail
  refine (K4.out _).mono ?_; rintro e w4 ⟨rfl, hb4⟩
  have bZ : Below w.heap.size w w4 := by
    have h1 := bY.size
    have hs4 := hb4.size
    simp only [World.size_alloc] at hs4 hb4
    exact (bY.alloc (by omega) _).trans (below_lower (by omega) hb4)
  clear hb4 bY
  go_wp2_with fail
  refine (K5.out _).mono ?_; rintro e w5 ⟨rfl, hb5⟩
  have bU := below_next bZ bZ.size hb5
  clear bZ hb5
  go_wp2_with fail
  refine (awake_b _).mono ?_; rintro e w7 ⟨rfl, hb7⟩
  go_wp2
  go_ret
  exact ⟨rfl, below_next bU bU.size hb7⟩

set_option maxHeartbeats 2000000 in
theorem packed_f2 (a b c d x p q0 q1 q2 q3 s : Int) (K1 : Hid (∀ w, Calls Try.prog 23 #[ordV a b c d] w fun e w' => e = .returned (.tuple #[.int .i64 0, .int .i64 7]) ∧ Below w.heap.size w w')) (K3 : Hid (∀ w, Calls Try.prog 25 #[.int .i64 x] w fun e w' => e = .returned (.tuple #[ordV q0 q1 q2 q3, .int .i64 0]) ∧ Below w.heap.size w w')) (K4 : Hid (∀ w, Calls Try.prog 23 #[ordV q0 q1 q2 q3] w fun e w' => e = .returned (.tuple #[.int .i64 x, .int .i64 0]) ∧ Below w.heap.size w w')) (K5 : Hid (∀ w, Calls Try.prog 27 #[.int .i64 x] w fun e w' => e = .returned (.tuple #[.int .i64 s, .int .i64 0]) ∧ Below w.heap.size w w')) (hx : 0 ≤ x ∧ x ≤ 16777215) (hs : 8388608 ≤ x ∧ s = x - 16777216) (w : World) :
    Calls Try.prog 6 #[ordV a b c d, .int .i64 x] w fun e w' => e = .returned (.bool true) ∧ Below w.heap.size w w' := by
  obtain ⟨hs1, hs0⟩ := hs
  obtain ⟨hx1, hx2⟩ := hx
  have ee : (x == x) = true := by simp
  have e1 : (s == x) = false := by simp; omega
  have e2 : (s == x - 16777216) = true := by simp; omega
  have hs2 : -8388608 ≤ s := by omega
  have hs3 : s < 8388608 := by omega
  clear hs0
  go_enter Try.func6, Try.ntmps6
  go_wp2_with fail
  refine (K1.out _).mono ?_; rintro e w2 ⟨rfl, hb1⟩
  have bX : Below w.heap.size w w2 := by
    have hs1 := hb1.size
    simp only [World.size_alloc] at hs1 hb1
    exact ((Below.refl _ w).alloc (Nat.le_refl _) _).trans (below_lower (by omega) hb1)
  clear hb1
  go_wp2_with fail
  refine (K3.out _).mono ?_; rintro e w3 ⟨rfl, hb3⟩
  have bY := below_next bX bX.size hb3
  clear hb3 bX
  go_wp2_with fail
  refine (K4.out _).mono ?_; rintro e w4 ⟨rfl, hb4⟩
  have bZ : Below w.heap.size w w4 := by
    have h1 := bY.size
    have hs4 := hb4.size
    simp only [World.size_alloc] at hs4 hb4
    exact (bY.alloc (by omega) _).trans (below_lower (by omega) hb4)
  clear hb4 bY
  go_wp2_with fail
  refine (K5.out _).mono ?_; rintro e w5 ⟨rfl, hb5⟩
  have bU := below_next bZ bZ.size hb5
  clear bZ hb5
  go_wp2_with fail
  refine (awake_b _).mono ?_; rintro e w7 ⟨rfl, hb7⟩
  go_wp2
  go_ret
  exact ⟨rfl, below_next bU bU.size hb7⟩

theorem orderPacked_walk (a b c d x : Int) (hx : (Lit.int .i64 x).wf = true) (w : World) :
    Calls Try.prog 6 #[ordV a b c d, .int .i64 x] w fun e w' => e = .returned (.bool true) ∧ Below w.heap.size w w' := by
  by_cases ho : OkOrder a b c d
  · by_cases h : 0 ≤ x ∧ x ≤ 16777215
    · by_cases h8 : 8388608 ≤ x
      · exact packed_t2 a b c d x _ _ _ _ _ _ (Lib.hid (encode_t a b c d ho)) (Lib.hid (decode_pack a b c d ho)) (packO_bd ho) (Lib.hid (decode_word x h)) (Lib.hid (encode_unpack x h)) (Lib.hid (signed_word x h)) h ⟨h8, by unfold signO; rw [if_pos h8]⟩ w
      · exact packed_t1 a b c d x _ _ _ _ _ _ (Lib.hid (encode_t a b c d ho)) (Lib.hid (decode_pack a b c d ho)) (packO_bd ho) (Lib.hid (decode_word x h)) (Lib.hid (encode_unpack x h)) (Lib.hid (signed_word x h)) h ⟨by omega, by unfold signO; rw [if_neg h8]⟩ w
    · exact packed_t0 a b c d x _ 0 0 0 0 0 (Lib.hid (encode_t a b c d ho)) (Lib.hid (decode_pack a b c d ho)) (packO_bd ho) (Lib.hid (decode_none x h)) w
  · by_cases h : 0 ≤ x ∧ x ≤ 16777215
    · by_cases h8 : 8388608 ≤ x
      · exact packed_f2 a b c d x 0 _ _ _ _ _ (Lib.hid (encode_f a b c d ho)) (Lib.hid (decode_word x h)) (Lib.hid (encode_unpack x h)) (Lib.hid (signed_word x h)) h ⟨h8, by unfold signO; rw [if_pos h8]⟩ w
      · exact packed_f1 a b c d x 0 _ _ _ _ _ (Lib.hid (encode_f a b c d ho)) (Lib.hid (decode_word x h)) (Lib.hid (encode_unpack x h)) (Lib.hid (signed_word x h)) h ⟨by omega, by unfold signO; rw [if_neg h8]⟩ w
    · exact packed_f0 a b c d x 0 0 0 0 0 0 (Lib.hid (encode_f a b c d ho)) (Lib.hid (decode_none x h)) w
end Go.Proofs.Ytmkcijecncdhpaa
