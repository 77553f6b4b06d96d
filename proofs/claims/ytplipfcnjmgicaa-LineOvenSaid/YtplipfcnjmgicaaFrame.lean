/-
  THE FRAME OF THE STATEMENTS: a line that can be read is six ints. No statement is proved here.
-/
import Derived.Test.YtplipfcnjmgicaaRows
import Derived.Test.YtplipfcnjmgicaaMay
import Derived.Test.YtplipfcnjmgicaaLift
import Derived.WalkKit
import Derived.ProofKit
import Derived.OpenShut
import Derived.ChangeOld
import Derived.Below
namespace Go.Proofs.Ytplipfcnjmgicaa
open Go.ChangeShapes Go.WideShapes Go.ChangeAt Go.RowKit
set_option linter.unusedVariables false
set_option linter.unusedSimpArgs false

theorem seat_own : ownKnob Try.prog.godebug = none := by kernel_rfl
theorem seat_laidOut : laidOutB Try.prog = true := by kernel_rfl
theorem cells25 : Try.prog.cellsOf 25 = 6 := by kernel_rfl
theorem cells3 : Try.prog.cellsOf 3 = 1 := by kernel_rfl

set_option maxRecDepth 100000 in
/-- A line that can be read is six ints. -/
theorem line_open {H : Type} {enc : TypeId × Value → H} {W : World} {base b : Nat} {sp : Nat → Bool} {held : Bool} {v : Value} {d : DataW H} {ps : List MemPlace}
    (hv : Value.okWide Try.prog W .any base 25 v) (h : DataW.Trod enc Try.prog W b sp held 25 v d ps) :
    ∃ a0 a1 a2 a3 a4 a5 : Int, v = .agg #[.int .i64 a0, .int .i64 a1, .int .i64 a2, .int .i64 a3, .int .i64 a4, .int .i64 a5] := by
  obtain ⟨cs, rfl, hsz⟩ := okWide_struct Try.underlying25 hv
  obtain ⟨fuel, hf⟩ := h
  obtain ⟨xs, n, _, _, _, hxl, hg⟩ := DataW.trod_struct Try.underlying25 hf
  have hxl' : xs.length = 6 := hxl
  obtain ⟨l⟩ := cs
  match l, hsz.trans cells25 with
  | [c0, c1, c2, c3, c4, c5], _ =>
    have one : ∀ (j : Nat) (c : Value), j < 6 → DataW.trod enc Try.prog W b sp held n 3 [c] = xs[j]? → ∃ a : Int, c = .int .i64 a := fun j c hj hh => by
      have hx : xs[j]? = some (xs[j]'(by omega)) := List.getElem?_eq_getElem (by omega)
      rw [hx] at hh
      obtain ⟨a, ha, _⟩ := DataW.trod_int Try.underlying3 hh
      exact ⟨a, by simpa using ha⟩
    have g0 := hg 0 _ rfl
    have g1 := hg 1 _ rfl
    have g2 := hg 2 _ rfl
    have g3 := hg 3 _ rfl
    have g4 := hg 4 _ rfl
    have g5 := hg 5 _ rfl
    simp only [cells3, Value.cells] at g0 g1 g2 g3 g4 g5
    obtain ⟨a0, rfl⟩ := one 0 c0 (by omega) (by simpa [cells3] using g0)
    obtain ⟨a1, rfl⟩ := one 1 c1 (by omega) (by simpa [cells3] using g1)
    obtain ⟨a2, rfl⟩ := one 2 c2 (by omega) (by simpa [cells3] using g2)
    obtain ⟨a3, rfl⟩ := one 3 c3 (by omega) (by simpa [cells3] using g3)
    obtain ⟨a4, rfl⟩ := one 4 c4 (by omega) (by simpa [cells3] using g4)
    obtain ⟨a5, rfl⟩ := one 5 c5 (by omega) (by simpa [cells3] using g5)
    exact ⟨a0, a1, a2, a3, a4, a5, rfl⟩

end Go.Proofs.Ytplipfcnjmgicaa
