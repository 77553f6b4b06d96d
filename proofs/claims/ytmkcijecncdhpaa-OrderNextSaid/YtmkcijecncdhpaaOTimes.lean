/-
  OrderTimes: When of the program and of the reference; the walk. No statement is proved here.
-/
import Derived.Test.YtmkcijecncdhpaaOw10
import Derived.Test.YtmkcijecncdhpaaOWords
namespace Go.Proofs.Ytmkcijecncdhpaa
open Go.RowKit
set_option linter.unusedVariables false
set_option linter.unusedSimpArgs false

/-- What both Whens answer. -/
def whenV (a f o n t : Int) (b : Bool) : Int × Int × Int :=
  if OkOrder a f o n then if 0 ≤ t ∧ t ≤ 1000000000 then if a = 0 then (0, 0, 2) else (atO a o n b, untilO a f o n t b, 0) else (0, 0, 7) else (0, 0, 7)
abbrev whenR (a f o n t : Int) (b : Bool) : Value := .tuple #[.int .i64 (whenV a f o n t b).1, .int .i64 (whenV a f o n t b).2.1, .int .i64 (whenV a f o n t b).2.2]

theorem When_bad (a f o n t : Int) (b : Bool) (h : ¬ OkOrder a f o n) (w : World) : Calls Try.prog 20 #[ordV a f o n, .int .i64 t, .bool b] w fun e w' => e = .returned (.tuple #[.int .i64 0, .int .i64 0, .int .i64 7]) ∧ Below w.heap.size w w' := by
  have H1 := Lib.hid (isOrder_f a f o n h)
  clear h
  go_enter Try.func20, Try.ntmps20
  go_wp2_with fail
  refine (H1.out _).mono ?_; rintro e w1 ⟨rfl, hb1⟩
  have bW : Below w.heap.size w w1 := by
    have hs1 := hb1.size
    simp only [World.size_alloc] at hs1 hb1
    exact ((Below.refl _ w).alloc (Nat.le_refl _) _).trans (below_lower (by omega) hb1)
  clear hb1
  go_wp2
  go_ret3
  exact ⟨rfl, bW⟩
theorem When_far (a f o n t : Int) (b : Bool) (h : OkOrder a f o n) (ht : ¬ (0 ≤ t ∧ t ≤ 1000000000)) (w : World) : Calls Try.prog 20 #[ordV a f o n, .int .i64 t, .bool b] w fun e w' => e = .returned (.tuple #[.int .i64 0, .int .i64 0, .int .i64 7]) ∧ Below w.heap.size w w' := by
  have H1 := Lib.hid (isOrder_t a f o n h)
  have h2 := within_1 1000000000 t
  rw [inB_f ht] at h2
  have H2 := Lib.hid h2
  clear h2 h ht
  go_enter Try.func20, Try.ntmps20
  go_wp2_with fail
  refine (H1.out _).mono ?_; rintro e w1 ⟨rfl, hb1⟩
  have c0 : w1.cell? ⟨w.heap.size, 0, none⟩ = some (.int .i64 a) := by rw [hb1.cell (by simp)]; simp [go_sem]
  have c1 : w1.cell? ⟨w.heap.size, 1, none⟩ = some (.int .i64 f) := by rw [hb1.cell (by simp)]; simp [go_sem]
  have c2 : w1.cell? ⟨w.heap.size, 2, none⟩ = some (.int .i64 o) := by rw [hb1.cell (by simp)]; simp [go_sem]
  have c3 : w1.cell? ⟨w.heap.size, 3, none⟩ = some (.int .i64 n) := by rw [hb1.cell (by simp)]; simp [go_sem]
  have bW : Below w.heap.size w w1 := by
    have hs1 := hb1.size
    simp only [World.size_alloc] at hs1 hb1
    exact ((Below.refl _ w).alloc (Nat.le_refl _) _).trans (below_lower (by omega) hb1)
  have hlt : w.heap.size < w1.heap.size := by have := hb1.size; simp at this; omega
  clear hb1
  go_wp2_with fail
  refine (H2.out _ _ _ _ (by simp [go_sem])).mono ?_; rintro e w' ⟨rfl, rfl⟩
  go_wp2
  go_ret3
  have := bW.size
  exact ⟨rfl, by go_grown⟩
theorem When_halt (f o n t : Int) (b : Bool) (h : OkOrder 0 f o n) (ht : 0 ≤ t ∧ t ≤ 1000000000) (w : World) : Calls Try.prog 20 #[ordV 0 f o n, .int .i64 t, .bool b] w fun e w' => e = .returned (.tuple #[.int .i64 0, .int .i64 0, .int .i64 2]) ∧ Below w.heap.size w w' := by
  have H1 := Lib.hid (isOrder_t 0 f o n h)
  have h2 := within_1 1000000000 t
  rw [inB_t ht] at h2
  have H2 := Lib.hid h2
  clear h2 h ht
  go_enter Try.func20, Try.ntmps20
  go_wp2_with fail
  refine (H1.out _).mono ?_; rintro e w1 ⟨rfl, hb1⟩
  have c0 : w1.cell? ⟨w.heap.size, 0, none⟩ = some (.int .i64 0) := by rw [hb1.cell (by simp)]; simp [go_sem]
  have c1 : w1.cell? ⟨w.heap.size, 1, none⟩ = some (.int .i64 f) := by rw [hb1.cell (by simp)]; simp [go_sem]
  have c2 : w1.cell? ⟨w.heap.size, 2, none⟩ = some (.int .i64 o) := by rw [hb1.cell (by simp)]; simp [go_sem]
  have c3 : w1.cell? ⟨w.heap.size, 3, none⟩ = some (.int .i64 n) := by rw [hb1.cell (by simp)]; simp [go_sem]
  have bW : Below w.heap.size w w1 := by
    have hs1 := hb1.size
    simp only [World.size_alloc] at hs1 hb1
    exact ((Below.refl _ w).alloc (Nat.le_refl _) _).trans (below_lower (by omega) hb1)
  have hlt : w.heap.size < w1.heap.size := by have := hb1.size; simp at this; omega
  clear hb1
  go_wp2_with fail
  refine (H2.out _ _ _ _ (by simp [go_sem])).mono ?_; rintro e w' ⟨rfl, rfl⟩
  go_wp2
  go_ret3
  have := bW.size
  exact ⟨rfl, by go_grown⟩
theorem When_ok (a f o n t : Int) (b : Bool) (h : OkOrder a f o n) (h0 : a ≠ 0) (ht : 0 ≤ t ∧ t ≤ 1000000000) (w : World) : Calls Try.prog 20 #[ordV a f o n, .int .i64 t, .bool b] w fun e w' => e = .returned (.tuple #[.int .i64 (atO a o n b), .int .i64 (untilO a f o n t b), .int .i64 0]) ∧ Below w.heap.size w w' := by
  have H1 := Lib.hid (isOrder_t a f o n h)
  have h2 := within_1 1000000000 t
  rw [inB_t ht] at h2
  have H2 := Lib.hid h2
  have H3 := Lib.hid (when_any a f o n t b h (by omega))
  have ha : (a == 0) = false := by simpa using h0
  clear h2 h ht h0
  go_enter Try.func20, Try.ntmps20
  go_wp2_with fail
  refine (H1.out _).mono ?_; rintro e w1 ⟨rfl, hb1⟩
  have c0 : w1.cell? ⟨w.heap.size, 0, none⟩ = some (.int .i64 a) := by rw [hb1.cell (by simp)]; simp [go_sem]
  have c1 : w1.cell? ⟨w.heap.size, 1, none⟩ = some (.int .i64 f) := by rw [hb1.cell (by simp)]; simp [go_sem]
  have c2 : w1.cell? ⟨w.heap.size, 2, none⟩ = some (.int .i64 o) := by rw [hb1.cell (by simp)]; simp [go_sem]
  have c3 : w1.cell? ⟨w.heap.size, 3, none⟩ = some (.int .i64 n) := by rw [hb1.cell (by simp)]; simp [go_sem]
  have bW : Below w.heap.size w w1 := by
    have hs1 := hb1.size
    simp only [World.size_alloc] at hs1 hb1
    exact ((Below.refl _ w).alloc (Nat.le_refl _) _).trans (below_lower (by omega) hb1)
  have hlt : w.heap.size < w1.heap.size := by have := hb1.size; simp at this; omega
  clear hb1
  go_wp2_with fail
  refine (H2.out _ _ _ _ (by simp [go_sem])).mono ?_; rintro e w' ⟨rfl, rfl⟩
  go_wp2_with fail
  refine (H3.out _).mono ?_; rintro e w2 ⟨rfl, hb2⟩
  have bX : Below w.heap.size w w2 := by
    have h1 := bW.size
    have hs2 := hb2.size
    simp only [World.size_alloc] at hs2 hb2
    exact (bW.alloc (by omega) _).trans (below_lower (by omega) hb2)
  clear hb2 bW c0 c1 c2 c3 hlt
  go_wp2
  go_ret3
  exact ⟨rfl, bX⟩
theorem When_any (a f o n t : Int) (b : Bool) (w : World) : Calls Try.prog 20 #[ordV a f o n, .int .i64 t, .bool b] w fun e w' => e = .returned (whenR a f o n t b) ∧ Below w.heap.size w w' := by
  unfold whenR whenV
  by_cases h : OkOrder a f o n
  · rw [if_pos h]
    by_cases ht : 0 ≤ t ∧ t ≤ 1000000000
    · rw [if_pos ht]
      by_cases h0 : a = 0
      · subst h0
        rw [if_pos rfl]
        exact When_halt f o n t b h ht w
      · rw [if_neg h0]
        exact When_ok a f o n t b h h0 ht w
    · rw [if_neg ht]
      exact When_far a f o n t b h ht w
  · rw [if_neg h]
    exact When_bad a f o n t b h w
theorem rWhen_bad (a f o n t : Int) (b : Bool) (h : ¬ OkOrder a f o n) (w : World) : Calls Try.prog 29 #[ordV a f o n, .int .i64 t, .bool b] w fun e w' => e = .returned (.tuple #[.int .i64 0, .int .i64 0, .int .i64 7]) ∧ Below w.heap.size w w' := by
  have H1 := Lib.hid (rOrder_f a f o n h)
  clear h
  go_enter Try.func29, Try.ntmps29
  go_wp2_with fail
  refine (H1.out _).mono ?_; rintro e w1 ⟨rfl, hb1⟩
  have bW : Below w.heap.size w w1 := by
    have hs1 := hb1.size
    simp only [World.size_alloc] at hs1 hb1
    exact ((Below.refl _ w).alloc (Nat.le_refl _) _).trans (below_lower (by omega) hb1)
  clear hb1
  go_wp2
  go_ret3
  exact ⟨rfl, bW⟩
theorem rWhen_far (a f o n t : Int) (b : Bool) (h : OkOrder a f o n) (ht : ¬ (0 ≤ t ∧ t ≤ 1000000000)) (w : World) : Calls Try.prog 29 #[ordV a f o n, .int .i64 t, .bool b] w fun e w' => e = .returned (.tuple #[.int .i64 0, .int .i64 0, .int .i64 7]) ∧ Below w.heap.size w w' := by
  have H1 := Lib.hid (rOrder_t a f o n h)
  have h2 := fun w => rin_any t 0 1000000000 w
  rw [show (decide (0 ≤ t) && decide (t ≤ 1000000000)) = false from inB_f ht] at h2
  have H2 := Lib.hid h2
  clear h2 h ht
  go_enter Try.func29, Try.ntmps29
  go_wp2_with fail
  refine (H1.out _).mono ?_; rintro e w1 ⟨rfl, hb1⟩
  have c0 : w1.cell? ⟨w.heap.size, 0, none⟩ = some (.int .i64 a) := by rw [hb1.cell (by simp)]; simp [go_sem]
  have c1 : w1.cell? ⟨w.heap.size, 1, none⟩ = some (.int .i64 f) := by rw [hb1.cell (by simp)]; simp [go_sem]
  have c2 : w1.cell? ⟨w.heap.size, 2, none⟩ = some (.int .i64 o) := by rw [hb1.cell (by simp)]; simp [go_sem]
  have c3 : w1.cell? ⟨w.heap.size, 3, none⟩ = some (.int .i64 n) := by rw [hb1.cell (by simp)]; simp [go_sem]
  have bW : Below w.heap.size w w1 := by
    have hs1 := hb1.size
    simp only [World.size_alloc] at hs1 hb1
    exact ((Below.refl _ w).alloc (Nat.le_refl _) _).trans (below_lower (by omega) hb1)
  have hlt : w.heap.size < w1.heap.size := by have := hb1.size; simp at this; omega
  clear hb1
  go_wp2_with fail
  refine (H2.out _).mono ?_; rintro e w' ⟨rfl, rfl⟩
  go_wp2
  go_ret3
  have := bW.size
  exact ⟨rfl, by go_grown⟩
theorem rWhen_halt (f o n t : Int) (b : Bool) (h : OkOrder 0 f o n) (ht : 0 ≤ t ∧ t ≤ 1000000000) (w : World) : Calls Try.prog 29 #[ordV 0 f o n, .int .i64 t, .bool b] w fun e w' => e = .returned (.tuple #[.int .i64 0, .int .i64 0, .int .i64 2]) ∧ Below w.heap.size w w' := by
  have H1 := Lib.hid (rOrder_t 0 f o n h)
  have h2 := fun w => rin_any t 0 1000000000 w
  rw [show (decide (0 ≤ t) && decide (t ≤ 1000000000)) = true from inB_t ht] at h2
  have H2 := Lib.hid h2
  clear h2 h ht
  go_enter Try.func29, Try.ntmps29
  go_wp2_with fail
  refine (H1.out _).mono ?_; rintro e w1 ⟨rfl, hb1⟩
  have c0 : w1.cell? ⟨w.heap.size, 0, none⟩ = some (.int .i64 0) := by rw [hb1.cell (by simp)]; simp [go_sem]
  have c1 : w1.cell? ⟨w.heap.size, 1, none⟩ = some (.int .i64 f) := by rw [hb1.cell (by simp)]; simp [go_sem]
  have c2 : w1.cell? ⟨w.heap.size, 2, none⟩ = some (.int .i64 o) := by rw [hb1.cell (by simp)]; simp [go_sem]
  have c3 : w1.cell? ⟨w.heap.size, 3, none⟩ = some (.int .i64 n) := by rw [hb1.cell (by simp)]; simp [go_sem]
  have bW : Below w.heap.size w w1 := by
    have hs1 := hb1.size
    simp only [World.size_alloc] at hs1 hb1
    exact ((Below.refl _ w).alloc (Nat.le_refl _) _).trans (below_lower (by omega) hb1)
  have hlt : w.heap.size < w1.heap.size := by have := hb1.size; simp at this; omega
  clear hb1
  go_wp2_with fail
  refine (H2.out _).mono ?_; rintro e w' ⟨rfl, rfl⟩
  go_wp2
  go_ret3
  have := bW.size
  exact ⟨rfl, by go_grown⟩
theorem rWhen_ok (a f o n t : Int) (b : Bool) (h : OkOrder a f o n) (h0 : a ≠ 0) (ht : 0 ≤ t ∧ t ≤ 1000000000) (w : World) : Calls Try.prog 29 #[ordV a f o n, .int .i64 t, .bool b] w fun e w' => e = .returned (.tuple #[.int .i64 (atO a o n b), .int .i64 (untilO a f o n t b), .int .i64 0]) ∧ Below w.heap.size w w' := by
  have H1 := Lib.hid (rOrder_t a f o n h)
  have h2 := fun w => rin_any t 0 1000000000 w
  rw [show (decide (0 ≤ t) && decide (t ≤ 1000000000)) = true from inB_t ht] at h2
  have H2 := Lib.hid h2
  have H3 := Lib.hid (rwhen_any a f o n t b h (by omega))
  have ha : (a == 0) = false := by simpa using h0
  clear h2 h ht h0
  go_enter Try.func29, Try.ntmps29
  go_wp2_with fail
  refine (H1.out _).mono ?_; rintro e w1 ⟨rfl, hb1⟩
  have c0 : w1.cell? ⟨w.heap.size, 0, none⟩ = some (.int .i64 a) := by rw [hb1.cell (by simp)]; simp [go_sem]
  have c1 : w1.cell? ⟨w.heap.size, 1, none⟩ = some (.int .i64 f) := by rw [hb1.cell (by simp)]; simp [go_sem]
  have c2 : w1.cell? ⟨w.heap.size, 2, none⟩ = some (.int .i64 o) := by rw [hb1.cell (by simp)]; simp [go_sem]
  have c3 : w1.cell? ⟨w.heap.size, 3, none⟩ = some (.int .i64 n) := by rw [hb1.cell (by simp)]; simp [go_sem]
  have bW : Below w.heap.size w w1 := by
    have hs1 := hb1.size
    simp only [World.size_alloc] at hs1 hb1
    exact ((Below.refl _ w).alloc (Nat.le_refl _) _).trans (below_lower (by omega) hb1)
  have hlt : w.heap.size < w1.heap.size := by have := hb1.size; simp at this; omega
  clear hb1
  go_wp2_with fail
  refine (H2.out _).mono ?_; rintro e w' ⟨rfl, rfl⟩
  go_wp2_with fail
  refine (H3.out _).mono ?_; rintro e w2 ⟨rfl, hb2⟩
  have bX : Below w.heap.size w w2 := by
    have h1 := bW.size
    have hs2 := hb2.size
    exact below_next bW h1 hb2
    
  clear hb2 bW c0 c1 c2 c3 hlt
  go_wp2
  go_ret3
  exact ⟨rfl, bX⟩
theorem rWhen_any (a f o n t : Int) (b : Bool) (w : World) : Calls Try.prog 29 #[ordV a f o n, .int .i64 t, .bool b] w fun e w' => e = .returned (whenR a f o n t b) ∧ Below w.heap.size w w' := by
  unfold whenR whenV
  by_cases h : OkOrder a f o n
  · rw [if_pos h]
    by_cases ht : 0 ≤ t ∧ t ≤ 1000000000
    · rw [if_pos ht]
      by_cases h0 : a = 0
      · subst h0
        rw [if_pos rfl]
        exact rWhen_halt f o n t b h ht w
      · rw [if_neg h0]
        exact rWhen_ok a f o n t b h h0 ht w
    · rw [if_neg ht]
      exact rWhen_far a f o n t b h ht w
  · rw [if_neg h]
    exact rWhen_bad a f o n t b h w

set_option maxHeartbeats 2000000 in
theorem times_of (a f o n t : Int) (b : Bool) (u v e0 : Int)
    (K1 : Hid (∀ w, Calls Try.prog 20 #[ordV a f o n, .int .i64 t, .bool b] w fun e w' => e = .returned (.tuple #[.int .i64 u, .int .i64 v, .int .i64 e0]) ∧ Below w.heap.size w w'))
    (K2 : Hid (∀ w, Calls Try.prog 29 #[ordV a f o n, .int .i64 t, .bool b] w fun e w' => e = .returned (.tuple #[.int .i64 u, .int .i64 v, .int .i64 e0]) ∧ Below w.heap.size w w')) (w : World) :
    Calls Try.prog 5 #[ordV a f o n, .int .i64 t, .bool b] w fun e w' => e = .returned (.bool true) ∧ Below w.heap.size w w' := by
  have ee1 : (u == u) = true := by simp
  have ee2 : (v == v) = true := by simp
  have ee3 : (e0 == e0) = true := by simp
  go_enter Try.func5, Try.ntmps5
  go_wp2_with fail
  refine (K1.out _).mono ?_; rintro e w1 ⟨rfl, hb1⟩
  have c0 : w1.cell? ⟨w.heap.size, 0, none⟩ = some (.int .i64 a) := by rw [hb1.cell (by simp)]; simp [go_sem]
  have c1 : w1.cell? ⟨w.heap.size, 1, none⟩ = some (.int .i64 f) := by rw [hb1.cell (by simp)]; simp [go_sem]
  have c2 : w1.cell? ⟨w.heap.size, 2, none⟩ = some (.int .i64 o) := by rw [hb1.cell (by simp)]; simp [go_sem]
  have c3 : w1.cell? ⟨w.heap.size, 3, none⟩ = some (.int .i64 n) := by rw [hb1.cell (by simp)]; simp [go_sem]
  have bW : Below w.heap.size w w1 := by
    have hs1 := hb1.size
    simp only [World.size_alloc] at hs1 hb1
    exact ((Below.refl _ w).alloc (Nat.le_refl _) _).trans (below_lower (by omega) hb1)
  clear hb1
  go_wp2_with fail
  refine (K2.out _).mono ?_; rintro e w2 ⟨rfl, hb2⟩
  have bX := below_next bW bW.size hb2
  clear c0 c1 c2 c3 bW hb2
  go_wp2_with fail
  refine (awake_b _).mono ?_; rintro e w7 ⟨rfl, hb7⟩
  go_wp2
  go_ret
  exact ⟨rfl, below_next bX bX.size hb7⟩
theorem orderTimes_walk (a f o n t : Int) (ht : (Lit.int .i64 t).wf = true) (b : Bool) (w : World) :
    Calls Try.prog 5 #[ordV a f o n, .int .i64 t, .bool b] w fun e w' => e = .returned (.bool true) ∧ Below w.heap.size w w' :=
  times_of a f o n t b _ _ _ (Lib.hid (When_any a f o n t b)) (Lib.hid (rWhen_any a f o n t b)) w
end Go.Proofs.Ytmkcijecncdhpaa
