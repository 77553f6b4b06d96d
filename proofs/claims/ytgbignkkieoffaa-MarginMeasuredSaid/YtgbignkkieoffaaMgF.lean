/-
  THE FRAME OF STAGE 3's STATEMENTS: kinds, spans. No statement is proved here.
-/
import Derived.Test.YtgbignkkieoffaaMgFrame
import Derived.Test.YtgbignkkieoffaaMg1
namespace Go.Proofs.Ytgbignkkieoffaa
open Go.ChangeShapes Go.WideShapes Go.ChangeAt Go.RowKit
set_option linter.unusedVariables false
set_option linter.unusedSimpArgs false

theorem cellsI : Try.prog.cellsOf 3 = 1 := by kernel_rfl
theorem cellsSpan : Try.prog.cellsOf 23 = 2 := by kernel_rfl
theorem cellsStep : Try.prog.cellsOf 55 = 2 := by kernel_rfl
theorem cellsSteps : Try.prog.cellsOf 24 = 1 := by kernel_rfl
theorem cellsKind : Try.prog.cellsOf 26 = 4 := by kernel_rfl
section
variable {H : Type} {enc : TypeId × Value → H} {W : World} {b : Nat} {sp : Nat → Bool} {held : Bool}
theorem one_int {n j : Nat} {c : Value} {xs : List (DataW H × List MemPlace)} (hj : j < xs.length) (hh : DataW.trod enc Try.prog W b sp held n 3 [c] = xs[j]?) : ∃ a : Int, c = .int .i64 a ∧ (Lit.int .i64 a).wf = true := by
  rw [List.getElem?_eq_getElem hj] at hh
  obtain ⟨a, ha, _, hw⟩ := DataW.trod_int Try.underlying3 hh
  exact ⟨a, by simpa using ha, hw⟩
set_option maxRecDepth 100000 in
theorem span_cells {fuel : Nat} {cs : List Value} {x : DataW H × List MemPlace} (h : DataW.trod enc Try.prog W b sp held fuel 23 cs = some x) :
    ∃ a c : Int, cs = [.int .i64 a, .int .i64 c] ∧ (Lit.int .i64 a).wf = true ∧ (Lit.int .i64 c).wf = true := by
  obtain ⟨xs, n, _, _, hcl, hxl, hg⟩ := DataW.trod_struct Try.underlying23 h
  have hxl' : xs.length = 2 := hxl
  match cs, hcl.trans cellsSpan with
  | [c0, c1], _ =>
    have g0 := hg 0 _ rfl
    have g1 := hg 1 _ rfl
    obtain ⟨a0, rfl, w0⟩ := one_int (j := 0) (c := c0) (xs := xs) (by omega) (by simpa [cellsI] using g0)
    obtain ⟨a1, rfl, w1⟩ := one_int (j := 1) (c := c1) (xs := xs) (by omega) (by simpa [cellsI] using g1)
    exact ⟨a0, a1, rfl, w0, w1⟩
set_option maxRecDepth 100000 in
theorem step_cells {fuel : Nat} {cs : List Value} {x : DataW H × List MemPlace} (h : DataW.trod enc Try.prog W b sp held fuel 55 cs = some x) :
    ∃ a c : Int, cs = [.int .i64 a, .int .i64 c] ∧ (Lit.int .i64 a).wf = true ∧ (Lit.int .i64 c).wf = true := by
  obtain ⟨xs, n, _, _, hcl, hxl, hg⟩ := DataW.trod_struct Try.underlying55 h
  have hxl' : xs.length = 2 := hxl
  match cs, hcl.trans cellsStep with
  | [c0, c1], _ =>
    have g0 := hg 0 _ rfl
    have g1 := hg 1 _ rfl
    obtain ⟨a0, rfl, w0⟩ := one_int (j := 0) (c := c0) (xs := xs) (by omega) (by simpa [cellsI] using g0)
    obtain ⟨a1, rfl, w1⟩ := one_int (j := 1) (c := c1) (xs := xs) (by omega) (by simpa [cellsI] using g1)
    exact ⟨a0, a1, rfl, w0, w1⟩
/-- A slice of pairs that can be read. -/
theorem pairs_of_trod {S E : TypeId} (hs : Try.prog.underlying S = some (.slice E)) (hc : Try.prog.cellsOf E = 2)
    (he : ∀ (fuel : Nat) (cs : List Value) (x : DataW H × List MemPlace), DataW.trod enc Try.prog W b sp held fuel E cs = some x → ∃ a c : Int, cs = [.int .i64 a, .int .i64 c] ∧ (Lit.int .i64 a).wf = true ∧ (Lit.int .i64 c).wf = true)
    {v : Value} {fuel : Nat} {x : DataW H × List MemPlace} (hf : DataW.trod enc Try.prog W b sp held fuel S [v] = some x) :
    ∃ (A : Option Addr) (c : Nat) (zs : List (Int × Int)), v = .slice A zs.length c ∧ zs.length ≤ maxLen ∧ PairsAt W W.heap.size A zs ∧ ∀ z ∈ zs, (Lit.int .i64 z.1).wf = true ∧ (Lit.int .i64 z.2).wf = true := by
  rcases DataW.trod_slice hs hf with ⟨h1, _⟩ | ⟨a, len, cap, elems, rest, n, _, hcs, _, hb, hl, hm, hlen, hel, _, _⟩
  · simp only [List.cons.injEq, and_true] at h1
    subst h1
    exact ⟨none, 0, [], rfl, Nat.zero_le _, PairsAt.nil _ _ _, fun n hn => by cases hn⟩
  · simp only [List.cons.injEq, and_true] at hcs
    subst hcs
    have each : ∀ i, i < len → ∃ z : Int × Int, W.cell? (a.add (i * 2)) = some (.int .i64 z.1) ∧ W.cell? ((a.add (i * 2)).add 1) = some (.int .i64 z.2) ∧ (Lit.int .i64 z.1).wf = true ∧ (Lit.int .i64 z.2).wf = true := by
      intro i hi
      have h2 := hel i hi
      rw [List.getElem?_eq_getElem (by omega), hc, Option.bind_eq_some_iff] at h2
      obtain ⟨cs', hcs', hy⟩ := h2
      obtain ⟨p, q, rfl, w1, w2⟩ := he _ _ _ hy
      obtain ⟨_, _, hcell⟩ := World.cells?_some hcs'
      exact ⟨(p, q), by simpa [Addr.add] using hcell 0 (by omega), by simpa using hcell 1 (by omega), w1, w2⟩
    let zs : List (Int × Int) := (List.range len).pmap (fun i hi => (each i (by simpa using hi)).choose) (fun i hi => hi)
    have hzl : zs.length = len := by simp [zs]
    have hz : ∀ i (hi : i < zs.length), W.cell? (a.add (i * 2)) = some (.int .i64 zs[i].1) ∧ W.cell? ((a.add (i * 2)).add 1) = some (.int .i64 zs[i].2) ∧ (Lit.int .i64 zs[i].1).wf = true ∧ (Lit.int .i64 zs[i].2).wf = true := by
      intro i hi
      have h3 := (each i (by omega)).choose_spec
      have h4 : zs[i] = (each i (by omega)).choose := by simp [zs]
      rw [h4]
      exact h3
    refine ⟨some a, cap, zs, by rw [hzl], by omega, fun hp => ⟨a, rfl, ?_, fun j hj => ?_⟩, fun z hzm => ?_⟩
    · have := World.block_lt_of_cell? W _ (hz 0 hp).1
      rwa [add_block] at this
    · exact ⟨(hz j hj).1, (hz j hj).2.1⟩
    · obtain ⟨i, hi, rfl⟩ := List.getElem_of_mem hzm
      exact (hz i hi).2.2
set_option maxRecDepth 100000 in
theorem spans_open {base : Nat} {v : Value} {d : DataW H} {ps : List MemPlace}
    (hv : Value.okWide Try.prog W .any base 37 v) (h : DataW.Trod enc Try.prog W b sp held 37 v d ps) :
    ∃ (A : Option Addr) (c : Nat) (zs : List (Int × Int)), v = .slice A zs.length c ∧ zs.length ≤ maxLen ∧ PairsAt W W.heap.size A zs ∧ ∀ z ∈ zs, (Lit.int .i64 z.1).wf = true ∧ (Lit.int .i64 z.2).wf = true := by
  obtain ⟨a, len, cap, rfl⟩ := okWide_slice Try.underlying37 hv
  obtain ⟨fuel, hf⟩ := h
  exact pairs_of_trod Try.underlying37 cellsSpan (fun _ _ _ hh => span_cells hh) (by simpa [Value.cells] using hf)
set_option maxRecDepth 100000 in
/-- A kind that can be read. -/
theorem kind_of_trod {fuel : Nat} {cs : List Value} {x : DataW H × List MemPlace} (h : DataW.trod enc Try.prog W b sp held fuel 26 cs = some x) :
    ∃ (k : Mg.Kd) (A : Option Addr) (c : Nat), cs = [.int .i64 k.new, .int .i64 k.lo, .int .i64 k.hi, .slice A k.st.length c] ∧ KindAt W A k := by
  obtain ⟨xs, n, _, _, hcl, hxl, hg⟩ := DataW.trod_struct Try.underlying26 h
  have hxl' : xs.length = 3 := hxl
  match cs, hcl.trans cellsKind with
  | [c0, c1, c2, c3], _ =>
    have g0 := hg 0 _ rfl
    have g1 := hg 1 _ rfl
    have g2 := hg 2 _ rfl
    obtain ⟨a0, rfl, w0⟩ := one_int (j := 0) (c := c0) (xs := xs) (by omega) (by simpa [cellsI] using g0)
    rw [List.getElem?_eq_getElem (by omega)] at g1 g2
    obtain ⟨a1, a2, e1, w1, w2⟩ := span_cells g1
    simp [cellsI, cellsSpan] at e1
    obtain ⟨rfl, rfl⟩ := e1
    obtain ⟨A, c, zs, rfl, hl, hp, hw⟩ := pairs_of_trod (v := c3) (S := 24) Try.underlying24 cellsStep (fun _ _ _ hh => step_cells hh) (by simpa [cellsI, cellsSpan, cellsSteps] using g2)
    exact ⟨⟨a0, a1, a2, zs⟩, A, c, rfl, ⟨hl, hp, w0, w1, w2, hw⟩⟩
set_option maxRecDepth 100000 in
theorem kind_open {base : Nat} {v : Value} {d : DataW H} {ps : List MemPlace}
    (hv : Value.okWide Try.prog W .any base 26 v) (h : DataW.Trod enc Try.prog W b sp held 26 v d ps) :
    ∃ (k : Mg.Kd) (A : Option Addr) (c : Nat), v = .agg #[.int .i64 k.new, .int .i64 k.lo, .int .i64 k.hi, .slice A k.st.length c] ∧ KindAt W A k := by
  obtain ⟨cs, rfl, hsz⟩ := okWide_struct Try.underlying26 hv
  obtain ⟨fuel, hf⟩ := h
  obtain ⟨k, A, c, e, hk⟩ := kind_of_trod (cs := cs.toList) (by simpa [Value.cells] using hf)
  exact ⟨k, A, c, by rw [show cs = #[.int .i64 k.new, .int .i64 k.lo, .int .i64 k.hi, .slice A k.st.length c] from by rw [← Array.toArray_toList (xs := cs), e]], hk⟩
end
end Go.Proofs.Ytgbignkkieoffaa
