/-
  THE FRAME OF THE STATEMENTS: small arrays and slices of bytes. No statement is proved here.
-/
import Derived.Test.YtplipfcnjmgicaaHtF
import Derived.Test.YtplipfcnjmgicaaMem
import Derived.ChangeSlices
namespace Go.Proofs.Ytplipfcnjmgicaa
open Go.ChangeShapes Go.WideShapes Go.ChangeAt Go.RowKit
set_option linter.unusedVariables false
set_option linter.unusedSimpArgs false

theorem okWide_array {P : Program} {w : World} {r : Reach} {base : Nat} {t e : TypeId} {n : Nat} {v : Value} (ht : P.underlying t = some (.array n e)) (h : Value.okWide P w r base t v) : ∃ cs, v = .agg cs ∧ cs.size = P.cellsOf t := by
  unfold Value.okWide at h
  rw [ht] at h
  obtain ⟨cs, h1, h2, _⟩ := h
  exact ⟨cs, h1, h2⟩
theorem cells8 : Try.prog.cellsOf 5 = 1 := by kernel_rfl
theorem cellsA3 : Try.prog.cellsOf 72 = 3 := by kernel_rfl
set_option maxRecDepth 100000 in
theorem u8x3_open {H : Type} {enc : TypeId × Value → H} {W : World} {base b : Nat} {sp : Nat → Bool} {held : Bool} {v : Value} {d : DataW H} {ps : List MemPlace}
    (hv : Value.okWide Try.prog W .any base 72 v) (h : DataW.Trod enc Try.prog W b sp held 72 v d ps) :
    ∃ a0 a1 a2 : Int, v = .agg #[.int .u8 a0, .int .u8 a1, .int .u8 a2] ∧ (0 ≤ a0 ∧ a0 ≤ 255) ∧ (0 ≤ a1 ∧ a1 ≤ 255) ∧ (0 ≤ a2 ∧ a2 ≤ 255) := by
  obtain ⟨cs, rfl, hsz⟩ := okWide_array Try.underlying72 hv
  obtain ⟨fuel, hf⟩ := h
  obtain ⟨xs, n, _, _, _, hxl, hg⟩ := DataW.trod_array Try.underlying72 hf
  obtain ⟨l⟩ := cs
  match l, hsz.trans cellsA3 with
  | [c0, c1, c2], _ =>
    have one : ∀ (j : Nat) (c : Value), j < 3 → DataW.trod enc Try.prog W b sp held n 5 [c] = xs[j]? → ∃ a : Int, c = .int .u8 a ∧ 0 ≤ a ∧ a ≤ 255 := fun j c hj hh => by
      have hx : xs[j]? = some (xs[j]'(by omega)) := List.getElem?_eq_getElem (by omega)
      rw [hx] at hh
      obtain ⟨a, ha, _, hw⟩ := DataW.trod_int Try.underlying5 hh
      exact ⟨a, by simpa using ha, bounds_u8 hw⟩
    have g0 := hg 0 (by omega)
    have g1 := hg 1 (by omega)
    have g2 := hg 2 (by omega)
    simp only [cells8, Value.cells] at g0 g1 g2
    obtain ⟨a0, rfl, b0⟩ := one 0 c0 (by omega) (by simpa [cells8] using g0)
    obtain ⟨a1, rfl, b1⟩ := one 1 c1 (by omega) (by simpa [cells8] using g1)
    obtain ⟨a2, rfl, b2⟩ := one 2 c2 (by omega) (by simpa [cells8] using g2)
    exact ⟨a0, a1, a2, rfl, b0, b1, b2⟩
set_option maxRecDepth 100000 in
/-- A slice of bytes that can be read reads as a list. -/
theorem u8s_open {H : Type} {enc : TypeId × Value → H} {W : World} {base b : Nat} {sp : Nat → Bool} {held : Bool} {v : Value} {d : DataW H} {ps : List MemPlace}
    (hv : Value.okWide Try.prog W .any base 56 v) (h : DataW.Trod enc Try.prog W b sp held 56 v d ps) :
    ∃ (A : Option Addr) (c : Nat) (zs : List Int), v = .slice A zs.length c ∧ zs.length ≤ maxLen ∧ ListAt (Value.int .u8) W W.heap.size A zs ∧ ∀ n ∈ zs, 0 ≤ n ∧ n ≤ 255 := by
  obtain ⟨a, len, cap, rfl⟩ := okWide_slice Try.underlying56 hv
  obtain ⟨fuel, hf⟩ := h
  rcases open_ints Try.underlying56 Try.underlying5 cells8 hf with ⟨h1, _⟩ | ⟨ad, l, cp, zs, hcs, _, hlc, hcm, hlen, _, hcell, hwf⟩
  · simp only [Value.cells, List.cons.injEq, Value.slice.injEq, and_true] at h1
    obtain ⟨rfl, rfl, rfl⟩ := h1
    exact ⟨none, 0, [], rfl, Nat.zero_le _, ListAt.nil _ _ _, fun n hn => by cases hn⟩
  · simp only [Value.cells, List.cons.injEq, Value.slice.injEq, and_true] at hcs
    obtain ⟨rfl, rfl, rfl⟩ := hcs
    have hl : len ≤ zs.length := by
      rw [hlen]
      split <;> omega
    have hlt : (zs.take len).length = len := by simp; omega
    refine ⟨some ad, cap, zs.take len, by rw [hlt], by omega, fun hp => ?_, fun n hn => bounds_u8 (hwf n (List.mem_of_mem_take hn))⟩
    have h0 := hcell 0 (by omega)
    refine ⟨ad, rfl, ?_, fun j hj => ?_⟩
    · have := World.block_lt_of_cell? W _ h0
      rwa [add_block] at this
    · have hj' : j < zs.length := by simp at hj; omega
      rw [hcell j hj']
      simp [List.getD, hj']
end Go.Proofs.Ytplipfcnjmgicaa
