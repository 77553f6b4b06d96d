/-
  THE FRAME OF THE STATEMENTS: orders, slices of ints, states that can be read. No statement is proved here.
-/
import Derived.Test.YtmkcijecncdhpaaRows
import Derived.Test.YtmkcijecncdhpaaOMay
import Derived.Test.YtmkcijecncdhpaaOLift
import Derived.Test.YtmkcijecncdhpaaMem
import Derived.WalkKit
import Derived.ProofKit
import Derived.OpenShut
import Derived.ChangeOld
import Derived.ChangeSlices
import Derived.Below
namespace Go.Proofs.Ytmkcijecncdhpaa
open Go.ChangeShapes Go.WideShapes Go.ChangeAt Go.RowKit
set_option linter.unusedVariables false
set_option linter.unusedSimpArgs false

theorem seat_own : ownKnob Try.prog.godebug = none := by kernel_rfl
theorem seat_laidOut : laidOutB Try.prog = true := by kernel_rfl
theorem cellsI : Try.prog.cellsOf 3 = 1 := by kernel_rfl
theorem cellsS : Try.prog.cellsOf 22 = 1 := by kernel_rfl
theorem cellsO : Try.prog.cellsOf 33 = 4 := by kernel_rfl
theorem cellsW : Try.prog.cellsOf 24 = 8 := by kernel_rfl
theorem sliceInt : SliceT Try.prog 22 3 (.int .i64 0) 8 := ⟨Try.underlying22, by kernel_rfl, rfl, by decide⟩

set_option maxRecDepth 100000 in
/-- An order that can be read is four ints. -/
theorem order_open {H : Type} {enc : TypeId × Value → H} {W : World} {base b : Nat} {sp : Nat → Bool} {held : Bool} {v : Value} {d : DataW H} {ps : List MemPlace}
    (hv : Value.okWide Try.prog W .any base 33 v) (h : DataW.Trod enc Try.prog W b sp held 33 v d ps) :
    ∃ a0 a1 a2 a3 : Int, v = .agg #[.int .i64 a0, .int .i64 a1, .int .i64 a2, .int .i64 a3] := by
  obtain ⟨cs, rfl, hsz⟩ := okWide_struct Try.underlying33 hv
  obtain ⟨fuel, hf⟩ := h
  obtain ⟨xs, n, _, _, _, hxl, hg⟩ := DataW.trod_struct Try.underlying33 hf
  have hxl' : xs.length = 4 := hxl
  obtain ⟨l⟩ := cs
  match l, hsz.trans cellsO with
  | [c0, c1, c2, c3], _ =>
    have one : ∀ (j : Nat) (c : Value), j < 4 → DataW.trod enc Try.prog W b sp held n 3 [c] = xs[j]? → ∃ a : Int, c = .int .i64 a := fun j c hj hh => by
      have hx : xs[j]? = some (xs[j]'(by omega)) := List.getElem?_eq_getElem (by omega)
      rw [hx] at hh
      obtain ⟨a, ha, _⟩ := DataW.trod_int Try.underlying3 hh
      exact ⟨a, by simpa using ha⟩
    have g0 := hg 0 _ rfl
    have g1 := hg 1 _ rfl
    have g2 := hg 2 _ rfl
    have g3 := hg 3 _ rfl
    simp only [cellsI, Value.cells] at g0 g1 g2 g3
    obtain ⟨a0, rfl⟩ := one 0 c0 (by omega) (by simpa [cellsI] using g0)
    obtain ⟨a1, rfl⟩ := one 1 c1 (by omega) (by simpa [cellsI] using g1)
    obtain ⟨a2, rfl⟩ := one 2 c2 (by omega) (by simpa [cellsI] using g2)
    obtain ⟨a3, rfl⟩ := one 3 c3 (by omega) (by simpa [cellsI] using g3)
    exact ⟨a0, a1, a2, a3, rfl⟩

/-- A slice of ints that reads, by its data. -/
theorem ints_of_trod {H : Type} {enc : TypeId × Value → H} {W : World} {b : Nat} {sp : Nat → Bool} {held : Bool} {v : Value} {fuel : Nat} {x : DataW H × List MemPlace}
    (hf : DataW.trod enc Try.prog W b sp held fuel 22 [v] = some x) :
    ∃ (A : Option Addr) (c : Nat) (zs : List Int), v = .slice A zs.length c ∧ zs.length ≤ maxLen ∧ IntsAt W W.heap.size A zs ∧ ∀ n ∈ zs, (Lit.int .i64 n).wf = true := by
  rcases open_ints sliceInt.und Try.underlying3 cellsI hf with ⟨h1, _⟩ | ⟨ad, len, cap, zs, hcs, _, hlc, hcm, hlen, _, hcell, hwf⟩
  · simp only [List.cons.injEq, and_true] at h1
    subst h1
    exact ⟨none, 0, [], rfl, Nat.zero_le _, ListAt.nil _ _ _, fun n hn => by cases hn⟩
  · simp only [List.cons.injEq, and_true] at hcs
    subst hcs
    have hl : len ≤ zs.length := by
      rw [hlen]
      split <;> omega
    have hlt : (zs.take len).length = len := by simp; omega
    refine ⟨some ad, cap, zs.take len, by rw [hlt], by omega, fun hp => ?_, fun n hn => hwf n (List.mem_of_mem_take hn)⟩
    have h0 := hcell 0 (by omega)
    refine ⟨ad, rfl, ?_, fun j hj => ?_⟩
    · have := World.block_lt_of_cell? W _ h0
      rwa [add_block] at this
    · have hj' : j < zs.length := by simp at hj; omega
      rw [hcell j hj']
      simp [List.getD, hj']
theorem ints_open {H : Type} {enc : TypeId × Value → H} {W : World} {base b : Nat} {sp : Nat → Bool} {held : Bool} {v : Value} {d : DataW H} {ps : List MemPlace}
    (hv : Value.okWide Try.prog W .any base 22 v) (h : DataW.Trod enc Try.prog W b sp held 22 v d ps) :
    ∃ (A : Option Addr) (c : Nat) (zs : List Int), v = .slice A zs.length c ∧ zs.length ≤ maxLen ∧ IntsAt W W.heap.size A zs ∧ ∀ n ∈ zs, (Lit.int .i64 n).wf = true := by
  obtain ⟨a, len, cap, rfl⟩ := okWide_slice sliceInt.und hv
  obtain ⟨fuel, hf⟩ := h
  exact ints_of_trod (by simpa [Value.cells] using hf)

set_option maxRecDepth 100000 in
/-- A state that can be read. -/
theorem state_open {H : Type} {enc : TypeId × Value → H} {W : World} {base b : Nat} {sp : Nat → Bool} {held : Bool} {v : Value} {d : DataW H} {ps : List MemPlace}
    (hv : Value.okWide Try.prog W .any base 24 v) (h : DataW.Trod enc Try.prog W b sp held 24 v d ps) :
    ∃ (A0 A1 A3 : Option Addr) (n0 n1 n3 : Nat) (z0 z1 z3 : List Int) (a2 a4 a5 a6 a7 : Int), v = .agg #[.slice A0 z0.length n0, .slice A1 z1.length n1, .int .i64 a2, .slice A3 z3.length n3, .int .i64 a4, .int .i64 a5, .int .i64 a6, .int .i64 a7] ∧
      (z0.length ≤ maxLen ∧ IntsAt W W.heap.size A0 z0 ∧ ∀ n ∈ z0, (Lit.int .i64 n).wf = true) ∧ (z1.length ≤ maxLen ∧ IntsAt W W.heap.size A1 z1 ∧ ∀ n ∈ z1, (Lit.int .i64 n).wf = true) ∧ (z3.length ≤ maxLen ∧ IntsAt W W.heap.size A3 z3 ∧ ∀ n ∈ z3, (Lit.int .i64 n).wf = true) ∧
      (Lit.int .i64 a2).wf = true ∧ (Lit.int .i64 a4).wf = true ∧ (Lit.int .i64 a5).wf = true ∧ (Lit.int .i64 a6).wf = true ∧ (Lit.int .i64 a7).wf = true := by
  obtain ⟨cs, rfl, hsz⟩ := okWide_struct Try.underlying24 hv
  obtain ⟨fuel, hf⟩ := h
  obtain ⟨xs, n, _, _, _, hxl, hg⟩ := DataW.trod_struct Try.underlying24 hf
  have hxl' : xs.length = 8 := hxl
  obtain ⟨l⟩ := cs
  match l, hsz.trans cellsW with
  | [c0, c1, c2, c3, c4, c5, c6, c7], _ =>
    have one : ∀ (j : Nat) (c : Value), j < 8 → DataW.trod enc Try.prog W b sp held n 3 [c] = xs[j]? → ∃ a : Int, c = .int .i64 a ∧ (Lit.int .i64 a).wf = true := fun j c hj hh => by
      have hx : xs[j]? = some (xs[j]'(by omega)) := List.getElem?_eq_getElem (by omega)
      rw [hx] at hh
      obtain ⟨a, ha, h2⟩ := DataW.trod_int Try.underlying3 hh
      exact ⟨a, by simpa using ha, h2.2⟩
    have lst : ∀ (j : Nat) (c : Value), j < 8 → DataW.trod enc Try.prog W b sp held n 22 [c] = xs[j]? → ∃ (A : Option Addr) (k : Nat) (zs : List Int), c = .slice A zs.length k ∧ zs.length ≤ maxLen ∧ IntsAt W W.heap.size A zs ∧ ∀ n ∈ zs, (Lit.int .i64 n).wf = true := fun j c hj hh => by
      have hx : xs[j]? = some (xs[j]'(by omega)) := List.getElem?_eq_getElem (by omega)
      rw [hx] at hh
      exact ints_of_trod hh
    have g0 := hg 0 _ rfl
    have g1 := hg 1 _ rfl
    have g2 := hg 2 _ rfl
    have g3 := hg 3 _ rfl
    have g4 := hg 4 _ rfl
    have g5 := hg 5 _ rfl
    have g6 := hg 6 _ rfl
    have g7 := hg 7 _ rfl
    simp only [cellsI, cellsS, Value.cells] at g0 g1 g2 g3 g4 g5 g6 g7
    obtain ⟨A0, n0, z0, rfl, l0, r0, f0⟩ := lst 0 c0 (by omega) (by simpa [cellsI, cellsS] using g0)
    obtain ⟨A1, n1, z1, rfl, l1, r1, f1⟩ := lst 1 c1 (by omega) (by simpa [cellsI, cellsS] using g1)
    obtain ⟨a2, rfl, w2⟩ := one 2 c2 (by omega) (by simpa [cellsI, cellsS] using g2)
    obtain ⟨A3, n3, z3, rfl, l3, r3, f3⟩ := lst 3 c3 (by omega) (by simpa [cellsI, cellsS] using g3)
    obtain ⟨a4, rfl, w4⟩ := one 4 c4 (by omega) (by simpa [cellsI, cellsS] using g4)
    obtain ⟨a5, rfl, w5⟩ := one 5 c5 (by omega) (by simpa [cellsI, cellsS] using g5)
    obtain ⟨a6, rfl, w6⟩ := one 6 c6 (by omega) (by simpa [cellsI, cellsS] using g6)
    obtain ⟨a7, rfl, w7⟩ := one 7 c7 (by omega) (by simpa [cellsI, cellsS] using g7)
    exact ⟨A0, A1, A3, n0, n1, n3, z0, z1, z3, a2, a4, a5, a6, a7, rfl, ⟨l0, r0, f0⟩, ⟨l1, r1, f1⟩, ⟨l3, r3, f3⟩, w2, w4, w5, w6, w7⟩
end Go.Proofs.Ytmkcijecncdhpaa
