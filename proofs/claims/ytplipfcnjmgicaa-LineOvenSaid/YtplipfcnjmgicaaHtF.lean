/-
  THE FRAME OF THE STATEMENTS: an oven with its temperatures and minutes. No statement is proved here.
-/
import Derived.Test.YtplipfcnjmgicaaFrame
import Derived.Test.YtplipfcnjmgicaaHt1
namespace Go.Proofs.Ytplipfcnjmgicaa
open Go.ChangeShapes Go.WideShapes Go.ChangeAt Go.RowKit
set_option linter.unusedVariables false
set_option linter.unusedSimpArgs false

theorem cellsSpan : Try.prog.cellsOf 31 = 2 := by kernel_rfl
theorem cellsOven : Try.prog.cellsOf 50 = 6 := by kernel_rfl
theorem cellsHeated : Try.prog.cellsOf 52 = 10 := by kernel_rfl
theorem cellsBool : Try.prog.cellsOf 4 = 1 := by kernel_rfl
section
variable {H : Type} {enc : TypeId × Value → H} {W : World} {b : Nat} {sp : Nat → Bool} {held : Bool}
theorem one_int {n j : Nat} {c : Value} {xs : List (DataW H × List MemPlace)} (hj : j < xs.length) (hh : DataW.trod enc Try.prog W b sp held n 3 [c] = xs[j]?) : ∃ a : Int, c = .int .i64 a ∧ (Lit.int .i64 a).wf = true := by
  rw [List.getElem?_eq_getElem hj] at hh
  obtain ⟨a, ha, _, hw⟩ := DataW.trod_int Try.underlying3 hh
  exact ⟨a, by simpa using ha, hw⟩
theorem one_bool {n j : Nat} {c : Value} {xs : List (DataW H × List MemPlace)} (hj : j < xs.length) (hh : DataW.trod enc Try.prog W b sp held n 4 [c] = xs[j]?) : ∃ a : Bool, c = .bool a := by
  rw [List.getElem?_eq_getElem hj] at hh
  obtain ⟨a, ha, _⟩ := DataW.trod_bool Try.underlying4 hh
  exact ⟨a, by simpa using ha⟩
set_option maxRecDepth 100000 in
theorem span_cells {fuel : Nat} {cs : List Value} {x : DataW H × List MemPlace} (h : DataW.trod enc Try.prog W b sp held fuel 31 cs = some x) :
    ∃ a c : Int, cs = [.int .i64 a, .int .i64 c] ∧ (Lit.int .i64 a).wf = true ∧ (Lit.int .i64 c).wf = true := by
  obtain ⟨xs, n, _, _, hcl, hxl, hg⟩ := DataW.trod_struct Try.underlying31 h
  have hxl' : xs.length = 2 := hxl
  match cs, hcl.trans cellsSpan with
  | [c0, c1], _ =>
    have g0 := hg 0 _ rfl
    have g1 := hg 1 _ rfl
    obtain ⟨a0, rfl, w0⟩ := one_int (j := 0) (c := c0) (xs := xs) (by omega) (by simpa [cells3] using g0)
    obtain ⟨a1, rfl, w1⟩ := one_int (j := 1) (c := c1) (xs := xs) (by omega) (by simpa [cells3] using g1)
    exact ⟨a0, a1, rfl, w0, w1⟩
set_option maxRecDepth 100000 in
theorem oven_cells {fuel : Nat} {cs : List Value} {x : DataW H × List MemPlace} (h : DataW.trod enc Try.prog W b sp held fuel 50 cs = some x) :
    ∃ o : Ov, cs = [.int .i64 o.low, .int .i64 o.high, .int .i64 o.wl, .int .i64 o.wh, .int .i64 o.cl, .int .i64 o.ch] := by
  obtain ⟨xs, n, _, _, hcl, hxl, hg⟩ := DataW.trod_struct Try.underlying50 h
  have hxl' : xs.length = 4 := hxl
  match cs, hcl.trans cellsOven with
  | [c0, c1, c2, c3, c4, c5], _ =>
    have g0 := hg 0 _ rfl
    have g1 := hg 1 _ rfl
    have g2 := hg 2 _ rfl
    have g3 := hg 3 _ rfl
    rw [List.getElem?_eq_getElem (by omega)] at g2 g3
    obtain ⟨a0, rfl, w0⟩ := one_int (j := 0) (c := c0) (xs := xs) (by omega) (by simpa [cells3] using g0)
    obtain ⟨a1, rfl, w1⟩ := one_int (j := 1) (c := c1) (xs := xs) (by omega) (by simpa [cells3] using g1)
    obtain ⟨a2, a3, e2, w2⟩ := span_cells g2
    obtain ⟨a4, a5, e4, w4⟩ := span_cells g3
    simp [cellsSpan] at e2 e4
    obtain ⟨rfl, rfl⟩ := e2
    obtain ⟨rfl, rfl⟩ := e4
    exact ⟨⟨a0, a1, a2, a3, a4, a5⟩, rfl⟩
set_option maxRecDepth 100000 in
theorem heated_open {base : Nat} {v : Value} {d : DataW H} {ps : List MemPlace}
    (hv : Value.okWide Try.prog W .any base 52 v) (h : DataW.Trod enc Try.prog W b sp held 52 v d ps) :
    ∃ (o : Ov) (tl th : Int) (hb : Bool) (mi : Int), v = .agg #[.int .i64 o.low, .int .i64 o.high, .int .i64 o.wl, .int .i64 o.wh, .int .i64 o.cl, .int .i64 o.ch, .int .i64 tl, .int .i64 th, .bool hb, .int .i64 mi] ∧ (Lit.int .i64 mi).wf = true := by
  obtain ⟨cs, rfl, hsz⟩ := okWide_struct Try.underlying52 hv
  obtain ⟨fuel, hf⟩ := h
  obtain ⟨xs, n, _, _, _, hxl, hg⟩ := DataW.trod_struct Try.underlying52 hf
  have hxl' : xs.length = 4 := hxl
  obtain ⟨l⟩ := cs
  match l, hsz.trans cellsHeated with
  | [c0, c1, c2, c3, c4, c5, c6, c7, c8, c9], _ =>
    have g0 := hg 0 _ rfl
    have g1 := hg 1 _ rfl
    have g2 := hg 2 _ rfl
    have g3 := hg 3 _ rfl
    rw [List.getElem?_eq_getElem (by omega)] at g0 g1
    obtain ⟨o, e0⟩ := oven_cells g0
    obtain ⟨tl, th, e1, w1⟩ := span_cells g1
    simp [Value.cells, cellsSpan, cellsOven] at e0 e1
    obtain ⟨rfl, rfl, rfl, rfl, rfl, rfl⟩ := e0
    obtain ⟨rfl, rfl⟩ := e1
    obtain ⟨hb, rfl⟩ := one_bool (j := 2) (c := c8) (xs := xs) (by omega) (by simpa [Value.cells, cellsBool] using g2)
    obtain ⟨mi, rfl, w9⟩ := one_int (j := 3) (c := c9) (xs := xs) (by omega) (by simpa [Value.cells, cells3] using g3)
    exact ⟨o, tl, th, hb, mi, rfl, w9⟩
end
end Go.Proofs.Ytplipfcnjmgicaa
