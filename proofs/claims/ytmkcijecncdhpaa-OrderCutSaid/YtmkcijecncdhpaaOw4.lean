/-
  CONTRACTS OF Encode, Decode, Signed, of the program and of the reference. No statement is proved here.
-/
import Derived.Test.YtmkcijecncdhpaaOw3
namespace Go.Proofs.Ytmkcijecncdhpaa
open Go.RowKit
set_option linter.unusedVariables false
set_option linter.unusedSimpArgs false

theorem encode_t (a b c d : Int) (h : OkOrder a b c d) (w : World) :
    Calls Try.prog 23 #[ordV a b c d] w fun e w' => e = .returned (.tuple #[.int .i64 (packO a b c d), .int .i64 0]) ∧ Below w.heap.size w w' := by
  have H1 := Lib.hid (isOrder_t a b c d h)
  have hp : packL [a, b, c, d] = packO a b c d := by simp [packL, packO]
  have hz : [a, b, c, d].all (inB 127) = true := by simp [inB, h.from_, h.to_, h.next]; have := h.op; omega
  have h2 : ∀ (k n : Nat) (w : World), w.cell? ⟨k, 0, none⟩ = some (.int .i64 a) → w.cell? ⟨k, 1, none⟩ = some (.int .i64 b) → w.cell? ⟨k, 2, none⟩ = some (.int .i64 c) → w.cell? ⟨k, 3, none⟩ = some (.int .i64 d) →
      Calls Try.prog 50 #[.slice (some ⟨k, 0, none⟩) 4 n] w fun e w' => e = .returned (.int .i64 (packO a b c d)) ∧ w' = w := fun k n w q0 q1 q2 q3 => by
    have := pack_any (some ⟨k, 0, none⟩) n [a, b, c, d] (by simp) hz (k + 1) w (fun _ => ⟨_, rfl, by show k < k + 1; omega, fun j hj => by
      match j, hj with
      | 0, _ => simpa [Addr.add] using q0
      | 1, _ => simpa [Addr.add] using q1
      | 2, _ => simpa [Addr.add] using q2
      | 3, _ => simpa [Addr.add] using q3⟩)
    rw [hp] at this
    simpa using this
  have H2 := Lib.hid h2
  clear h2 hp hz h
  go_enter Try.func23, Try.ntmps23
  go_wp2_with fail
  refine (H1.out _).mono ?_; rintro e w1 ⟨rfl, hb1⟩
  have hs1 := hb1.size
  have c0 : w1.cell? ⟨w.heap.size, 0, none⟩ = some (.int .i64 a) := by rw [hb1.cell (by simp)]; simp [go_sem]
  have c1 : w1.cell? ⟨w.heap.size, 1, none⟩ = some (.int .i64 b) := by rw [hb1.cell (by simp)]; simp [go_sem]
  have c2 : w1.cell? ⟨w.heap.size, 2, none⟩ = some (.int .i64 c) := by rw [hb1.cell (by simp)]; simp [go_sem]
  have c3 : w1.cell? ⟨w.heap.size, 3, none⟩ = some (.int .i64 d) := by rw [hb1.cell (by simp)]; simp [go_sem]
  have bW : Below w.heap.size w w1 := by
    simp only [World.size_alloc] at hs1 hb1
    exact ((Below.refl _ w).alloc (Nat.le_refl _) _).trans (below_lower (by omega) hb1)
  clear hb1 hs1
  go_wp2_with fail
  refine (H2.out _ _ _ (by simp [go_sem]) (by simp [go_sem]) (by simp [go_sem]) (by simp [go_sem])).mono ?_; rintro e w' ⟨rfl, rfl⟩
  go_wp2
  go_ret2
  have := bW.size
  exact ⟨rfl, by go_grown⟩
theorem encode_f (a b c d : Int) (h : ¬ OkOrder a b c d) (w : World) :
    Calls Try.prog 23 #[ordV a b c d] w fun e w' => e = .returned (.tuple #[.int .i64 0, .int .i64 7]) ∧ Below w.heap.size w w' := by
  have H1 := Lib.hid (isOrder_f a b c d h)
  clear h
  go_enter Try.func23, Try.ntmps23
  go_wp2_with fail
  refine (H1.out _).mono ?_; rintro e w1 ⟨rfl, hb1⟩
  have hs1 := hb1.size
  have bW : Below w.heap.size w w1 := by
    simp only [World.size_alloc] at hs1 hb1
    exact ((Below.refl _ w).alloc (Nat.le_refl _) _).trans (below_lower (by omega) hb1)
  clear hb1 hs1
  go_wp2
  go_ret2
  exact ⟨rfl, bW⟩
theorem encode_any (a b c d : Int) (w : World) :
    Calls Try.prog 23 #[ordV a b c d] w fun e w' => e = .returned (.tuple #[.int .i64 (encV a b c d).1, .int .i64 (encV a b c d).2]) ∧ Below w.heap.size w w' := by
  unfold encV
  by_cases h : OkOrder a b c d
  · rw [if_pos h]; exact encode_t a b c d h w
  · rw [if_neg h]; exact encode_f a b c d h w
theorem rencode_any (a b c d : Int) (w : World) :
    Calls Try.prog 24 #[ordV a b c d] w fun e w' => e = .returned (.tuple #[.int .i64 (encV a b c d).1, .int .i64 (encV a b c d).2]) ∧ Below w.heap.size w w' := by
  unfold encV
  by_cases h : OkOrder a b c d
  · rw [if_pos h]
    have H1 := Lib.hid (rOrder_t a b c d h)
    have H2 := Lib.hid (rWritten_ok a b c d h)
    clear h
    go_enter Try.func24, Try.ntmps24
    go_wp2_with fail
    refine (H1.out _).mono ?_; rintro e w1 ⟨rfl, hb1⟩
    have hs1 := hb1.size
    have c0 : w1.cell? ⟨w.heap.size, 0, none⟩ = some (.int .i64 a) := by rw [hb1.cell (by simp)]; simp [go_sem]
    have c1 : w1.cell? ⟨w.heap.size, 1, none⟩ = some (.int .i64 b) := by rw [hb1.cell (by simp)]; simp [go_sem]
    have c2 : w1.cell? ⟨w.heap.size, 2, none⟩ = some (.int .i64 c) := by rw [hb1.cell (by simp)]; simp [go_sem]
    have c3 : w1.cell? ⟨w.heap.size, 3, none⟩ = some (.int .i64 d) := by rw [hb1.cell (by simp)]; simp [go_sem]
    have bW : Below w.heap.size w w1 := by
      simp only [World.size_alloc] at hs1 hb1
      exact ((Below.refl _ w).alloc (Nat.le_refl _) _).trans (below_lower (by omega) hb1)
    clear hb1 hs1
    go_wp2_with fail
    refine (H2.out _).mono ?_; rintro e w2 ⟨rfl, hb2⟩
    go_wp2
    go_ret2
    exact ⟨rfl, below_next bW bW.size hb2⟩
  · rw [if_neg h]
    have H1 := Lib.hid (rOrder_f a b c d h)
    clear h
    go_enter Try.func24, Try.ntmps24
    go_wp2_with fail
    refine (H1.out _).mono ?_; rintro e w1 ⟨rfl, hb1⟩
    have hs1 := hb1.size
    have bW : Below w.heap.size w w1 := by
      simp only [World.size_alloc] at hs1 hb1
      exact ((Below.refl _ w).alloc (Nat.le_refl _) _).trans (below_lower (by omega) hb1)
    clear hb1 hs1
    go_wp2
    go_ret2
    exact ⟨rfl, bW⟩

/-- What both Signeds answer. -/
def sgnV (x : Int) : Int × Int := if 0 ≤ x ∧ x ≤ 16777215 then (signO x, 0) else (0, 7)
theorem Signed_any (x : Int) (w : World) : Calls Try.prog 27 #[.int .i64 x] w fun e w' => e = .returned (.tuple #[.int .i64 (sgnV x).1, .int .i64 (sgnV x).2]) ∧ Below w.heap.size w w' := by
  unfold sgnV
  have h1 := areWords_1 x
  by_cases h : 0 ≤ x ∧ x ≤ 16777215
  · rw [if_pos h]
    rw [inB_t h] at h1
    have H1 := Lib.hid h1
    have H2 := Lib.hid (signed_any x h)
    clear h1 h
    go_enter Try.func27, Try.ntmps27
    go_wp2_with fail
    refine (H1.out _ _ _ _ (by simp [go_sem])).mono ?_; rintro e w' ⟨rfl, rfl⟩
    go_wp2_with fail
    refine (H2.out _).mono ?_; rintro e w' ⟨rfl, rfl⟩
    go_wp2
    go_ret2
    exact ⟨rfl, by go_grown⟩
  · rw [if_neg h]
    rw [inB_f h] at h1
    have H1 := Lib.hid h1
    clear h1 h
    go_enter Try.func27, Try.ntmps27
    go_wp2_with fail
    refine (H1.out _ _ _ _ (by simp [go_sem])).mono ?_; rintro e w' ⟨rfl, rfl⟩
    go_wp2
    go_ret2
    exact ⟨rfl, by go_grown⟩
theorem rSigned_any (x : Int) (w : World) : Calls Try.prog 28 #[.int .i64 x] w fun e w' => e = .returned (.tuple #[.int .i64 (sgnV x).1, .int .i64 (sgnV x).2]) ∧ Below w.heap.size w w' := by
  unfold sgnV
  have h1 := rword_any x
  by_cases h : 0 ≤ x ∧ x ≤ 16777215
  · rw [if_pos h]
    rw [inB_t h] at h1
    have H1 := Lib.hid h1
    have H2 := Lib.hid (rsign_any x h)
    clear h1 h
    go_enter Try.func28, Try.ntmps28
    go_wp2_with fail
    refine (H1.out _).mono ?_; rintro e w' ⟨rfl, rfl⟩
    go_wp2_with fail
    refine (H2.out _).mono ?_; rintro e w' ⟨rfl, rfl⟩
    go_wp2
    go_ret2
    exact ⟨rfl, Below.refl _ _⟩
  · rw [if_neg h]
    rw [inB_f h] at h1
    have H1 := Lib.hid h1
    clear h1 h
    go_enter Try.func28, Try.ntmps28
    go_wp2_with fail
    refine (H1.out _).mono ?_; rintro e w' ⟨rfl, rfl⟩
    go_wp2
    go_ret2
    exact ⟨rfl, Below.refl _ _⟩

theorem written_any (x : Int) (h : 0 ≤ x ∧ x ≤ 16777215) (w : World) :
    Calls Try.prog 52 #[.int .i64 x] w fun e w' => e = .returned (ordV (opO x) (fromO x) (toO x) (nextO x)) ∧ Below w.heap.size w w' := by
  have h3 := unpack_any x h 3 (by omega)
  have h2 := unpack_any x h 2 (by omega)
  have h1 := unpack_any x h 1 (by omega)
  have h0 := unpack_any x h 0 (by omega)
  have e0 : x / 2 ^ (0 * 7) % 128 = nextO x := by unfold nextO; simp
  rw [e0] at h0
  have H3 : Hid (∀ w, Calls Try.prog 71 #[.int .i64 x, .int .i64 3] w fun e w' => e = .returned (.int .i64 (opO x)) ∧ w' = w) := Lib.hid h3
  have H2 : Hid (∀ w, Calls Try.prog 71 #[.int .i64 x, .int .i64 2] w fun e w' => e = .returned (.int .i64 (fromO x)) ∧ w' = w) := Lib.hid h2
  have H1 : Hid (∀ w, Calls Try.prog 71 #[.int .i64 x, .int .i64 1] w fun e w' => e = .returned (.int .i64 (toO x)) ∧ w' = w) := Lib.hid h1
  have H0 : Hid (∀ w, Calls Try.prog 71 #[.int .i64 x, .int .i64 0] w fun e w' => e = .returned (.int .i64 (nextO x)) ∧ w' = w) := Lib.hid h0
  clear h0 h1 h2 h3 e0 h
  go_enter Try.func52, Try.ntmps52
  go_wp2_with fail
  refine (H3.out _).mono ?_; rintro e w' ⟨rfl, rfl⟩
  go_wp2_with fail
  refine (H2.out _).mono ?_; rintro e w' ⟨rfl, rfl⟩
  go_wp2_with fail
  refine (H1.out _).mono ?_; rintro e w' ⟨rfl, rfl⟩
  go_wp2_with fail
  refine (H0.out _).mono ?_; rintro e w' ⟨rfl, rfl⟩
  go_wp2
  exact bodyPost_ret (v := ordV (opO x) (fromO x) (toO x) (nextO x)) (by simp [results, Try.results52, go_sem]) rfl ⟨rfl, by go_grown⟩
theorem rdecode_any (x : Int) (h : 0 ≤ x ∧ x ≤ 16777215) (w : World) :
    Calls Try.prog 53 #[.int .i64 x] w fun e w' => e = .returned (ordV (opO x) (fromO x) (toO x) (nextO x)) ∧ Below w.heap.size w w' := by
  have e3 : x / 128 / 128 / 128 = opO x := by unfold opO; omega
  have e2 : x / 128 / 128 % 128 = fromO x := by unfold fromO; omega
  have e1 : x / 128 % 128 = toO x := rfl
  have e0 : x % 128 = nextO x := rfl
  have E3 := Lib.hid e3
  have E2 := Lib.hid e2
  clear e3 e2 e1 e0
  go_enter Try.func53, Try.ntmps53
  go_wp2
  refine bodyPost_ret (v := ordV (x / 128 / 128 / 128) (x / 128 / 128 % 128) (x / 128 % 128) (x % 128)) (by simp [results, Try.results53, go_sem]) rfl ⟨?_, by go_grown⟩
  rw [E3.out, E2.out]
  rfl
end Go.Proofs.Ytmkcijecncdhpaa
