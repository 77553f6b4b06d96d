/-
  THE FRAME OF THE STATEMENTS: slices of ints that can be read. No statement is proved here.
-/
import Derived.Test.YtplipfcnjmgicaaFrame
import Derived.Test.YtplipfcnjmgicaaPs3
import Derived.ChangeSlices
namespace Go.Proofs.Ytplipfcnjmgicaa
open Go.ChangeShapes Go.WideShapes Go.ChangeAt Go.RowKit
set_option linter.unusedVariables false
set_option linter.unusedSimpArgs false

set_option maxRecDepth 100000 in
/-- A slice of ints that can be read reads as a list. -/
theorem ints_open {H : Type} {enc : TypeId × Value → H} {W : World} {base b : Nat} {sp : Nat → Bool} {held : Bool} {v : Value} {d : DataW H} {ps : List MemPlace}
    (hv : Value.okWide Try.prog W .any base 35 v) (h : DataW.Trod enc Try.prog W b sp held 35 v d ps) :
    ∃ (A : Option Addr) (c : Nat) (zs : List Int), v = .slice A zs.length c ∧ zs.length ≤ maxLen ∧ IntsAt W W.heap.size A zs ∧ ∀ n ∈ zs, (Lit.int .i64 n).wf = true := by
  obtain ⟨a, len, cap, rfl⟩ := okWide_slice sliceInt.und hv
  obtain ⟨fuel, hf⟩ := h
  rcases open_ints sliceInt.und Try.underlying3 cells3 hf with ⟨h1, _⟩ | ⟨ad, l, cp, zs, hcs, _, hlc, hcm, hlen, _, hcell, hwf⟩
  · simp only [Value.cells, List.cons.injEq, Value.slice.injEq, and_true] at h1
    obtain ⟨rfl, rfl, rfl⟩ := h1
    exact ⟨none, 0, [], rfl, Nat.zero_le _, ListAt.nil _ _ _, fun n hn => by cases hn⟩
  · simp only [Value.cells, List.cons.injEq, Value.slice.injEq, and_true] at hcs
    obtain ⟨rfl, rfl, rfl⟩ := hcs
    have hl : len ≤ zs.length := by
      rw [hlen]
      split <;> omega
    have hlt : (zs.take len).length = len := by simp; omega
    refine ⟨some ad, cap, zs.take len, by rw [hlt], by omega, fun hp => ?_, fun n hn => hwf n (List.mem_of_mem_take hn)⟩
    have h0 := hcell 0 (by omega)
    refine ⟨ad, rfl, ?_, fun j hj => ?_⟩
    · have := World.block_lt_of_cell? W _ h0
      rwa [add_block] at this
    · have hj' : j < zs.length := by simp at hj; omega
      rw [hcell j hj']
      simp [List.getD, hj']
end Go.Proofs.Ytplipfcnjmgicaa
