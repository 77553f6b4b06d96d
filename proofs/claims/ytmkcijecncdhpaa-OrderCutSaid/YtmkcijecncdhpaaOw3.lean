/-
  CONTRACTS OF Encode, Decode, Signed, of the program and of the reference. No statement is proved here.
-/
import Derived.Test.YtmkcijecncdhpaaOw2
namespace Go.Proofs.Ytmkcijecncdhpaa
open Go.RowKit
set_option linter.unusedVariables false
set_option linter.unusedSimpArgs false

/-- An order's value. -/
abbrev ordV (a b c d : Int) : Value := .agg #[.int .i64 a, .int .i64 b, .int .i64 c, .int .i64 d]

theorem isOrder_t (a b c d : Int) (h : OkOrder a b c d) (w : World) :
    Calls Try.prog 47 #[ordV a b c d] w fun e w' => e = .returned (.bool true) ∧ Below w.heap.size w w' := by
  have h1 := within_1 7 a
  rw [inB_t h.op] at h1
  have h2 := areAddr_3 b c d
  rw [inB_t h.from_, inB_t h.to_, inB_t h.next] at h2
  simp only [Bool.and_self] at h2
  have H1 := Lib.hid h1
  have H2 := Lib.hid h2
  clear h1 h2
  go_enter Try.func47, Try.ntmps47
  go_wp2_with fail
  refine (H1.out _ _ _ _ (by simp [go_sem])).mono ?_; rintro e w' ⟨rfl, rfl⟩
  go_wp2_with fail
  refine (H2.out _ _ _ (by simp [go_sem]) (by simp [go_sem]) (by simp [go_sem])).mono ?_; rintro e w' ⟨rfl, rfl⟩
  go_wp2
  go_ret
  exact ⟨rfl, by go_grown⟩
theorem isOrder_f (a b c d : Int) (h : ¬ OkOrder a b c d) (w : World) :
    Calls Try.prog 47 #[ordV a b c d] w fun e w' => e = .returned (.bool false) ∧ Below w.heap.size w w' := by
  by_cases ha : 0 ≤ a ∧ a ≤ 7
  · have h1 := within_1 7 a
    rw [inB_t ha] at h1
    have h2 := areAddr_3 b c d
    have e : (inB 127 b && (inB 127 c && inB 127 d)) = false := by
      cases hb : (inB 127 b && (inB 127 c && inB 127 d)) with
      | false => rfl
      | true =>
        simp only [inB, Bool.and_eq_true, decide_eq_true_eq] at hb
        exact absurd ⟨ha, hb.1, hb.2.1, hb.2.2⟩ h
    rw [e] at h2
    have H1 := Lib.hid h1
    have H2 := Lib.hid h2
    clear h1 h2 e h
    go_enter Try.func47, Try.ntmps47
    go_wp2_with fail
    refine (H1.out _ _ _ _ (by simp [go_sem])).mono ?_; rintro e w' ⟨rfl, rfl⟩
    go_wp2_with fail
    refine (H2.out _ _ _ (by simp [go_sem]) (by simp [go_sem]) (by simp [go_sem])).mono ?_; rintro e w' ⟨rfl, rfl⟩
    go_wp2
    go_ret
    exact ⟨rfl, by go_grown⟩
  · have h1 := within_1 7 a
    rw [inB_f ha] at h1
    have H1 := Lib.hid h1
    clear h1 h
    go_enter Try.func47, Try.ntmps47
    go_wp2_with fail
    refine (H1.out _ _ _ _ (by simp [go_sem])).mono ?_; rintro e w' ⟨rfl, rfl⟩
    go_wp2
    go_ret
    exact ⟨rfl, by go_grown⟩

theorem rOrder_t (a b c d : Int) (h : OkOrder a b c d) (w : World) :
    Calls Try.prog 51 #[ordV a b c d] w fun e w' => e = .returned (.bool true) ∧ Below w.heap.size w w' := by
  have h1 := fun w => rin_any a 0 7 w
  have h2 := fun w => raddr_any b w
  have h3 := fun w => raddr_any c w
  have h4 := fun w => raddr_any d w
  rw [inB_t h.from_] at h2
  rw [inB_t h.to_] at h3
  rw [inB_t h.next] at h4
  have e1 : (decide (0 ≤ a) && decide (a ≤ 7)) = true := inB_t h.op
  rw [e1] at h1
  have H1 := Lib.hid h1
  have H2 := Lib.hid h2
  have H3 := Lib.hid h3
  have H4 := Lib.hid h4
  clear h1 h2 h3 h4 e1
  go_enter Try.func51, Try.ntmps51
  go_wp2_with fail
  refine (H1.out _).mono ?_; rintro e w' ⟨rfl, rfl⟩
  go_wp2_with fail
  refine (H2.out _).mono ?_; rintro e w' ⟨rfl, rfl⟩
  go_wp2_with fail
  refine (H3.out _).mono ?_; rintro e w' ⟨rfl, rfl⟩
  go_wp2_with fail
  refine (H4.out _).mono ?_; rintro e w' ⟨rfl, rfl⟩
  go_wp2
  go_ret
  exact ⟨rfl, by go_grown⟩
theorem rOrder_f (a b c d : Int) (h : ¬ OkOrder a b c d) (w : World) :
    Calls Try.prog 51 #[ordV a b c d] w fun e w' => e = .returned (.bool false) ∧ Below w.heap.size w w' := by
  have h1 := fun w => rin_any a 0 7 w
  have h2 := fun w => raddr_any b w
  have h3 := fun w => raddr_any c w
  have h4 := fun w => raddr_any d w
  by_cases ha : 0 ≤ a ∧ a ≤ 7
  · have e1 : (decide (0 ≤ a) && decide (a ≤ 7)) = true := inB_t ha
    rw [e1] at h1
    by_cases hb : 0 ≤ b ∧ b ≤ 127
    · rw [inB_t hb] at h2
      by_cases hc : 0 ≤ c ∧ c ≤ 127
      · rw [inB_t hc] at h3
        have hd : ¬ (0 ≤ d ∧ d ≤ 127) := fun hd => h ⟨ha, hb, hc, hd⟩
        rw [inB_f hd] at h4
        have H1 := Lib.hid h1
        have H2 := Lib.hid h2
        have H3 := Lib.hid h3
        have H4 := Lib.hid h4
        clear h1 h2 h3 h4 e1 h hd
        go_enter Try.func51, Try.ntmps51
        go_wp2_with fail
        refine (H1.out _).mono ?_; rintro e w' ⟨rfl, rfl⟩
        go_wp2_with fail
        refine (H2.out _).mono ?_; rintro e w' ⟨rfl, rfl⟩
        go_wp2_with fail
        refine (H3.out _).mono ?_; rintro e w' ⟨rfl, rfl⟩
        go_wp2_with fail
        refine (H4.out _).mono ?_; rintro e w' ⟨rfl, rfl⟩
        go_wp2
        go_ret
        exact ⟨rfl, by go_grown⟩
      · rw [inB_f hc] at h3
        have H1 := Lib.hid h1
        have H2 := Lib.hid h2
        have H3 := Lib.hid h3
        clear h1 h2 h3 h4 e1 h
        go_enter Try.func51, Try.ntmps51
        go_wp2_with fail
        refine (H1.out _).mono ?_; rintro e w' ⟨rfl, rfl⟩
        go_wp2_with fail
        refine (H2.out _).mono ?_; rintro e w' ⟨rfl, rfl⟩
        go_wp2_with fail
        refine (H3.out _).mono ?_; rintro e w' ⟨rfl, rfl⟩
        go_wp2
        go_ret
        exact ⟨rfl, by go_grown⟩
    · rw [inB_f hb] at h2
      have H1 := Lib.hid h1
      have H2 := Lib.hid h2
      clear h1 h2 h3 h4 e1 h
      go_enter Try.func51, Try.ntmps51
      go_wp2_with fail
      refine (H1.out _).mono ?_; rintro e w' ⟨rfl, rfl⟩
      go_wp2_with fail
      refine (H2.out _).mono ?_; rintro e w' ⟨rfl, rfl⟩
      go_wp2
      go_ret
      exact ⟨rfl, by go_grown⟩
  · have e1 : (decide (0 ≤ a) && decide (a ≤ 7)) = false := inB_f ha
    rw [e1] at h1
    have H1 := Lib.hid h1
    clear h1 h2 h3 h4 e1 h
    go_enter Try.func51, Try.ntmps51
    go_wp2_with fail
    refine (H1.out _).mono ?_; rintro e w' ⟨rfl, rfl⟩
    go_wp2
    go_ret
    exact ⟨rfl, by go_grown⟩

theorem rWritten_ok (a b c d : Int) (h : OkOrder a b c d) (w : World) :
    Calls Try.prog 21 #[ordV a b c d] w fun e w' => e = .returned (.int .i64 (packO a b c d)) ∧ Below w.heap.size w w' := by
  obtain ⟨h1, h2, h3, h4⟩ := h
  go_enter Try.func21, Try.ntmps21
  go_wp2
  go_ret
  exact ⟨rfl, by go_grown⟩

/-- What both Encodes answer. -/
def encV (a b c d : Int) : Int × Int := if OkOrder a b c d then (packO a b c d, 0) else (0, 7)
theorem below_lower {n m : Nat} {w w' : World} (h : n ≤ m) (hb : Below m w w') : Below n w w' := ⟨hb.os, hb.tape, hb.output, hb.size, fun k hk => hb.block k (by omega)⟩
/-- Behind a call that made memory, from a world that had made some. -/
theorem below_next {n : Nat} {w W W' : World} (h : Below n w W) (hn : n ≤ W.heap.size) (hb : Below W.heap.size W W') : Below n w W' := h.trans (below_lower hn hb)
end Go.Proofs.Ytmkcijecncdhpaa
