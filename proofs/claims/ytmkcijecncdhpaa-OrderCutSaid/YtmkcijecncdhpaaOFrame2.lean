/-
  THE FRAME OF THE STATEMENTS: small arrays of small numbers. No statement is proved here.
-/
import Derived.Test.YtmkcijecncdhpaaOFrame
namespace Go.Proofs.Ytmkcijecncdhpaa
open Go.ChangeShapes Go.WideShapes Go.ChangeAt Go.RowKit
set_option linter.unusedVariables false
set_option linter.unusedSimpArgs false

theorem okWide_array {P : Program} {w : World} {r : Reach} {base : Nat} {t e : TypeId} {n : Nat} {v : Value} (ht : P.underlying t = some (.array n e)) (h : Value.okWide P w r base t v) : ∃ cs, v = .agg cs ∧ cs.size = P.cellsOf t := by
  unfold Value.okWide at h
  rw [ht] at h
  obtain ⟨cs, h1, h2, _⟩ := h
  exact ⟨cs, h1, h2⟩
theorem cells8 : Try.prog.cellsOf 5 = 1 := by kernel_rfl
theorem cellsA3 : Try.prog.cellsOf 48 = 3 := by kernel_rfl
set_option maxRecDepth 100000 in
theorem u8x3_open {H : Type} {enc : TypeId × Value → H} {W : World} {base b : Nat} {sp : Nat → Bool} {held : Bool} {v : Value} {d : DataW H} {ps : List MemPlace}
    (hv : Value.okWide Try.prog W .any base 48 v) (h : DataW.Trod enc Try.prog W b sp held 48 v d ps) :
    ∃ a0 a1 a2 : Int, v = .agg #[.int .u8 a0, .int .u8 a1, .int .u8 a2] ∧ (0 ≤ a0 ∧ a0 ≤ 255) ∧ (0 ≤ a1 ∧ a1 ≤ 255) ∧ (0 ≤ a2 ∧ a2 ≤ 255) := by
  obtain ⟨cs, rfl, hsz⟩ := okWide_array Try.underlying48 hv
  obtain ⟨fuel, hf⟩ := h
  obtain ⟨xs, n, _, _, _, hxl, hg⟩ := DataW.trod_array Try.underlying48 hf
  obtain ⟨l⟩ := cs
  match l, hsz.trans cellsA3 with
  | [c0, c1, c2], _ =>
    have one : ∀ (j : Nat) (c : Value), j < 3 → DataW.trod enc Try.prog W b sp held n 5 [c] = xs[j]? → ∃ a : Int, c = .int .u8 a ∧ 0 ≤ a ∧ a ≤ 255 := fun j c hj hh => by
      have hx : xs[j]? = some (xs[j]'(by omega)) := List.getElem?_eq_getElem (by omega)
      rw [hx] at hh
      obtain ⟨a, ha, _, hw⟩ := DataW.trod_int Try.underlying5 hh
      exact ⟨a, by simpa using ha, bounds_u8 hw⟩
    have g0 := hg 0 (by omega)
    have g1 := hg 1 (by omega)
    have g2 := hg 2 (by omega)
    simp only [cells8, Value.cells] at g0 g1 g2
    obtain ⟨a0, rfl, b0⟩ := one 0 c0 (by omega) (by simpa [cells8] using g0)
    obtain ⟨a1, rfl, b1⟩ := one 1 c1 (by omega) (by simpa [cells8] using g1)
    obtain ⟨a2, rfl, b2⟩ := one 2 c2 (by omega) (by simpa [cells8] using g2)
    exact ⟨a0, a1, a2, rfl, b0, b1, b2⟩
theorem cells16 : Try.prog.cellsOf 61 = 1 := by kernel_rfl
theorem cellsA2 : Try.prog.cellsOf 62 = 2 := by kernel_rfl
set_option maxRecDepth 100000 in
theorem u16x2_open {H : Type} {enc : TypeId × Value → H} {W : World} {base b : Nat} {sp : Nat → Bool} {held : Bool} {v : Value} {d : DataW H} {ps : List MemPlace}
    (hv : Value.okWide Try.prog W .any base 62 v) (h : DataW.Trod enc Try.prog W b sp held 62 v d ps) :
    ∃ a0 a1 : Int, v = .agg #[.int .u16 a0, .int .u16 a1] ∧ (0 ≤ a0 ∧ a0 ≤ 65535) ∧ (0 ≤ a1 ∧ a1 ≤ 65535) := by
  obtain ⟨cs, rfl, hsz⟩ := okWide_array Try.underlying62 hv
  obtain ⟨fuel, hf⟩ := h
  obtain ⟨xs, n, _, _, _, hxl, hg⟩ := DataW.trod_array Try.underlying62 hf
  obtain ⟨l⟩ := cs
  match l, hsz.trans cellsA2 with
  | [c0, c1], _ =>
    have one : ∀ (j : Nat) (c : Value), j < 2 → DataW.trod enc Try.prog W b sp held n 61 [c] = xs[j]? → ∃ a : Int, c = .int .u16 a ∧ 0 ≤ a ∧ a ≤ 65535 := fun j c hj hh => by
      have hx : xs[j]? = some (xs[j]'(by omega)) := List.getElem?_eq_getElem (by omega)
      rw [hx] at hh
      obtain ⟨a, ha, _, hw⟩ := DataW.trod_int Try.underlying61 hh
      exact ⟨a, by simpa using ha, bounds_u16 hw⟩
    have g0 := hg 0 (by omega)
    have g1 := hg 1 (by omega)
    simp only [cells16, Value.cells] at g0 g1
    obtain ⟨a0, rfl, b0⟩ := one 0 c0 (by omega) (by simpa [cells16] using g0)
    obtain ⟨a1, rfl, b1⟩ := one 1 c1 (by omega) (by simpa [cells16] using g1)
    exact ⟨a0, a1, rfl, b0, b1⟩
end Go.Proofs.Ytmkcijecncdhpaa
