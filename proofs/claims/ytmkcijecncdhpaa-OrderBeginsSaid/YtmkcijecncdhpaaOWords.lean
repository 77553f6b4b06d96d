/-
  OrderWords: the walk. No statement is proved here.
-/
import Derived.Test.YtmkcijecncdhpaaOw4
import Derived.Test.YtmkcijecncdhpaaOAwake
namespace Go.Proofs.Ytmkcijecncdhpaa
open Go.RowKit
set_option linter.unusedVariables false
set_option linter.unusedSimpArgs false

/-- What both Decodes answer. -/
def decV (x : Int) : (Int × Int × Int × Int) × Int := if 0 ≤ x ∧ x ≤ 16777215 then ((opO x, fromO x, toO x, nextO x), 0) else ((0, 0, 0, 0), 7)
abbrev decR (x : Int) : Value := .tuple #[ordV (decV x).1.1 (decV x).1.2.1 (decV x).1.2.2.1 (decV x).1.2.2.2, .int .i64 (decV x).2]
theorem Decode_any (x : Int) (w : World) : Calls Try.prog 25 #[.int .i64 x] w fun e w' => e = .returned (decR x) ∧ Below w.heap.size w w' := by
  unfold decR decV
  have h1 := areWords_1 x
  by_cases h : 0 ≤ x ∧ x ≤ 16777215
  · rw [if_pos h]
    rw [inB_t h] at h1
    have H1 := Lib.hid h1
    have H2 := Lib.hid (written_any x h)
    clear h1 h
    go_enter Try.func25, Try.ntmps25
    go_wp2_with fail
    refine (H1.out _ _ _ _ (by simp [go_sem])).mono ?_; rintro e w' ⟨rfl, rfl⟩
    go_wp2_with fail
    refine (H2.out _).mono ?_; rintro e w1 ⟨rfl, hb1⟩
    have hs1 := hb1.size
    have d0 : w1.cell? ⟨w.heap.size, 0, none⟩ = some (.int .i64 0) := by rw [hb1.cell (by simp; omega)]; simp [go_sem]
    have f0 : w1.frozen? ⟨w.heap.size, 0, none⟩ = false := by rw [hb1.frozen (by simp; omega)]; simp [go_sem]
    have d1 : w1.cell? ⟨w.heap.size, 1, none⟩ = some (.int .i64 0) := by rw [hb1.cell (by simp; omega)]; simp [go_sem]
    have f1 : w1.frozen? ⟨w.heap.size, 1, none⟩ = false := by rw [hb1.frozen (by simp; omega)]; simp [go_sem]
    have d2 : w1.cell? ⟨w.heap.size, 2, none⟩ = some (.int .i64 0) := by rw [hb1.cell (by simp; omega)]; simp [go_sem]
    have f2 : w1.frozen? ⟨w.heap.size, 2, none⟩ = false := by rw [hb1.frozen (by simp; omega)]; simp [go_sem]
    have d3 : w1.cell? ⟨w.heap.size, 3, none⟩ = some (.int .i64 0) := by rw [hb1.cell (by simp; omega)]; simp [go_sem]
    have f3 : w1.frozen? ⟨w.heap.size, 3, none⟩ = false := by rw [hb1.frozen (by simp; omega)]; simp [go_sem]
    have bW : Below w.heap.size w w1 := by
      simp only [World.size_alloc] at hs1 hb1
      exact (((Below.refl _ w).alloc (Nat.le_refl _) _).alloc (by simp) _).trans (below_lower (by omega) hb1)
    clear hb1
    simp only [World.size_alloc] at hs1
    go_wp2
    exact bodyPost_ret (v := .tuple #[ordV (opO x) (fromO x) (toO x) (nextO x), .int .i64 0]) (by simp [results, Try.results25, go_sem, d0, d1, d2, d3]) rfl ⟨rfl, by go_grown⟩
  · rw [if_neg h]
    rw [inB_f h] at h1
    have H1 := Lib.hid h1
    clear h1 h
    go_enter Try.func25, Try.ntmps25
    go_wp2_with fail
    refine (H1.out _ _ _ _ (by simp [go_sem])).mono ?_; rintro e w' ⟨rfl, rfl⟩
    go_wp2
    exact bodyPost_ret (v := .tuple #[ordV 0 0 0 0, .int .i64 7]) (by simp [results, Try.results25, go_sem]) rfl ⟨rfl, by go_grown⟩
theorem rDecode_any (x : Int) (w : World) : Calls Try.prog 26 #[.int .i64 x] w fun e w' => e = .returned (decR x) ∧ Below w.heap.size w w' := by
  unfold decR decV
  have h1 := rword_any x
  by_cases h : 0 ≤ x ∧ x ≤ 16777215
  · rw [if_pos h]
    rw [inB_t h] at h1
    have H1 := Lib.hid h1
    have H2 := Lib.hid (rdecode_any x h)
    clear h1 h
    go_enter Try.func26, Try.ntmps26
    go_wp2_with fail
    refine (H1.out _).mono ?_; rintro e w' ⟨rfl, rfl⟩
    go_wp2_with fail
    refine (H2.out _).mono ?_; rintro e w1 ⟨rfl, hb1⟩
    have hs1 := hb1.size
    have d0 : w1.cell? ⟨w.heap.size, 0, none⟩ = some (.int .i64 0) := by rw [hb1.cell (by simp)]; simp [go_sem]
    have f0 : w1.frozen? ⟨w.heap.size, 0, none⟩ = false := by rw [hb1.frozen (by simp)]; simp [go_sem]
    have d1 : w1.cell? ⟨w.heap.size, 1, none⟩ = some (.int .i64 0) := by rw [hb1.cell (by simp)]; simp [go_sem]
    have f1 : w1.frozen? ⟨w.heap.size, 1, none⟩ = false := by rw [hb1.frozen (by simp)]; simp [go_sem]
    have d2 : w1.cell? ⟨w.heap.size, 2, none⟩ = some (.int .i64 0) := by rw [hb1.cell (by simp)]; simp [go_sem]
    have f2 : w1.frozen? ⟨w.heap.size, 2, none⟩ = false := by rw [hb1.frozen (by simp)]; simp [go_sem]
    have d3 : w1.cell? ⟨w.heap.size, 3, none⟩ = some (.int .i64 0) := by rw [hb1.cell (by simp)]; simp [go_sem]
    have f3 : w1.frozen? ⟨w.heap.size, 3, none⟩ = false := by rw [hb1.frozen (by simp)]; simp [go_sem]
    have bW : Below w.heap.size w w1 := by
      simp only [World.size_alloc] at hs1 hb1
      exact ((Below.refl _ w).alloc (Nat.le_refl _) _).trans (below_lower (by omega) hb1)
    clear hb1
    simp only [World.size_alloc] at hs1
    go_wp2
    exact bodyPost_ret (v := .tuple #[ordV (opO x) (fromO x) (toO x) (nextO x), .int .i64 0]) (by simp [results, Try.results26, go_sem, d0, d1, d2, d3]) rfl ⟨rfl, by go_grown⟩
  · rw [if_neg h]
    rw [inB_f h] at h1
    have H1 := Lib.hid h1
    clear h1 h
    go_enter Try.func26, Try.ntmps26
    go_wp2_with fail
    refine (H1.out _).mono ?_; rintro e w' ⟨rfl, rfl⟩
    go_wp2
    exact bodyPost_ret (v := .tuple #[ordV 0 0 0 0, .int .i64 7]) (by simp [results, Try.results26, go_sem]) rfl ⟨rfl, by go_grown⟩

theorem awake_b (w : World) : Calls Try.prog 22 #[] w fun e w' => e = .returned (.bool true) ∧ Below w.heap.size w w' := Go.Proofs.Ev.awake w

set_option maxHeartbeats 2000000 in
theorem words_of (a b c d x u1 e1 p0 p1 p2 p3 e2 u3 e3 : Int)
    (K1 : Hid (∀ w, Calls Try.prog 23 #[ordV a b c d] w fun e w' => e = .returned (.tuple #[.int .i64 u1, .int .i64 e1]) ∧ Below w.heap.size w w'))
    (K2 : Hid (∀ w, Calls Try.prog 24 #[ordV a b c d] w fun e w' => e = .returned (.tuple #[.int .i64 u1, .int .i64 e1]) ∧ Below w.heap.size w w'))
    (K3 : Hid (∀ w, Calls Try.prog 25 #[.int .i64 x] w fun e w' => e = .returned (.tuple #[ordV p0 p1 p2 p3, .int .i64 e2]) ∧ Below w.heap.size w w'))
    (K4 : Hid (∀ w, Calls Try.prog 26 #[.int .i64 x] w fun e w' => e = .returned (.tuple #[ordV p0 p1 p2 p3, .int .i64 e2]) ∧ Below w.heap.size w w'))
    (K5 : Hid (∀ w, Calls Try.prog 27 #[.int .i64 x] w fun e w' => e = .returned (.tuple #[.int .i64 u3, .int .i64 e3]) ∧ Below w.heap.size w w'))
    (K6 : Hid (∀ w, Calls Try.prog 28 #[.int .i64 x] w fun e w' => e = .returned (.tuple #[.int .i64 u3, .int .i64 e3]) ∧ Below w.heap.size w w')) (w : World) :
    Calls Try.prog 4 #[ordV a b c d, .int .i64 x] w fun e w' => e = .returned (.bool true) ∧ Below w.heap.size w w' := by
  have ne1 : (u1 != u1) = false := by simp
  have ne2 : (e1 != e1) = false := by simp
  have ne3 : (e2 != e2) = false := by simp
  have ee1 : (u3 == u3) = true := by simp
  have ee2 : (e3 == e3) = true := by simp
  go_enter Try.func4, Try.ntmps4
  go_wp2_with fail
  refine (K1.out _).mono ?_; rintro e w1 ⟨rfl, hb1⟩
  have c0 : w1.cell? ⟨w.heap.size, 0, none⟩ = some (.int .i64 a) := by rw [hb1.cell (by simp)]; simp [go_sem]
  have c1 : w1.cell? ⟨w.heap.size, 1, none⟩ = some (.int .i64 b) := by rw [hb1.cell (by simp)]; simp [go_sem]
  have c2 : w1.cell? ⟨w.heap.size, 2, none⟩ = some (.int .i64 c) := by rw [hb1.cell (by simp)]; simp [go_sem]
  have c3 : w1.cell? ⟨w.heap.size, 3, none⟩ = some (.int .i64 d) := by rw [hb1.cell (by simp)]; simp [go_sem]
  have bW : Below w.heap.size w w1 := by
    have hs1 := hb1.size
    simp only [World.size_alloc] at hs1 hb1
    exact ((Below.refl _ w).alloc (Nat.le_refl _) _).trans (below_lower (by omega) hb1)
  clear hb1
  go_wp2_with fail
  refine (K2.out _).mono ?_; rintro e w2 ⟨rfl, hb2⟩
  have bX := below_next bW bW.size hb2
  clear c0 c1 c2 c3 bW hb2
  go_wp2_with fail
  refine (K3.out _).mono ?_; rintro e w3 ⟨rfl, hb3⟩
  have bY := below_next bX bX.size hb3
  clear bX hb3
  go_wp2_with fail
  refine (K4.out _).mono ?_; rintro e w4 ⟨rfl, hb4⟩
  have d0 : w4.cell? ⟨w3.heap.size, 0, none⟩ = some (.int .i64 p0) := by rw [hb4.cell (by simp)]; simp [go_sem]
  have d1 : w4.cell? ⟨w3.heap.size, 1, none⟩ = some (.int .i64 p1) := by rw [hb4.cell (by simp)]; simp [go_sem]
  have d2 : w4.cell? ⟨w3.heap.size, 2, none⟩ = some (.int .i64 p2) := by rw [hb4.cell (by simp)]; simp [go_sem]
  have d3 : w4.cell? ⟨w3.heap.size, 3, none⟩ = some (.int .i64 p3) := by rw [hb4.cell (by simp)]; simp [go_sem]
  have hs4 := hb4.size
  have bZ : Below w.heap.size w w4 := by
    have := bY.size
    simp only [World.size_alloc] at hs4 hb4
    exact (bY.alloc (by omega) _).trans (below_lower (by omega) hb4)
  clear bY hb4
  simp only [World.size_alloc] at hs4
  have hlt4 : w3.heap.size < w4.heap.size := by omega
  go_wp2_with fail
  refine (K5.out _).mono ?_; rintro e w5 ⟨rfl, hb5⟩
  have bV : Below w.heap.size w w5 := by
    have h1 := bZ.size
    have hs5 := hb5.size
    simp only [World.size_alloc] at hs5 hb5
    exact (bZ.alloc (by omega) _).trans (below_lower (by omega) hb5)
  clear hb5 bZ d0 d1 d2 d3 hs4 hlt4
  go_wp2_with fail
  refine (K6.out _).mono ?_; rintro e w6 ⟨rfl, hb6⟩
  have bU := below_next bV bV.size hb6
  clear bV hb6
  go_wp2_with fail
  refine (awake_b _).mono ?_; rintro e w7 ⟨rfl, hb7⟩
  go_wp2
  go_ret
  exact ⟨rfl, below_next bU bU.size hb7⟩
theorem orderWords_walk (a b c d x : Int) (hx : (Lit.int .i64 x).wf = true) (w : World) :
    Calls Try.prog 4 #[ordV a b c d, .int .i64 x] w fun e w' => e = .returned (.bool true) ∧ Below w.heap.size w w' :=
  words_of a b c d x _ _ _ _ _ _ _ _ _ (Lib.hid (encode_any a b c d)) (Lib.hid (rencode_any a b c d)) (Lib.hid (Decode_any x)) (Lib.hid (rDecode_any x)) (Lib.hid (Signed_any x)) (Lib.hid (rSigned_any x)) w
end Go.Proofs.Ytmkcijecncdhpaa
