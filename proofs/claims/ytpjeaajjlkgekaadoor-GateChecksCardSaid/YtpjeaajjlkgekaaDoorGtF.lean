/-
  THE FRAME OF STAGE 2's STATEMENTS: nets. No statement is proved here.
-/
import Derived.Test.YtpjeaajjlkgekaaDoorGtFrame
namespace Go.Proofs.YtpjeaajjlkgekaaDoor
open Go.ChangeShapes Go.WideShapes Go.ChangeAt Go.RowKit Gt
set_option linter.unusedVariables false
set_option linter.unusedSimpArgs false

theorem cellsI : Tryd.prog.cellsOf 3 = 1 := by kernel_rfl
theorem cellsGate : Tryd.prog.cellsOf 46 = 3 := by kernel_rfl
theorem cellsGates : Tryd.prog.cellsOf 22 = 1 := by kernel_rfl
theorem cellsInts : Tryd.prog.cellsOf 23 = 1 := by kernel_rfl
section
variable {H : Type} {enc : TypeId × Value → H} {W : World} {b : Nat} {sp : Nat → Bool} {held : Bool}
theorem one_int {n j : Nat} {c : Value} {xs : List (DataW H × List MemPlace)} (hj : j < xs.length) (hh : DataW.trod enc Tryd.prog W b sp held n 3 [c] = xs[j]?) : ∃ a : Int, c = .int .i64 a := by
  rw [List.getElem?_eq_getElem hj] at hh
  obtain ⟨a, ha, _, hw⟩ := DataW.trod_int Tryd.underlying3 hh
  exact ⟨a, by simpa using ha⟩
set_option maxRecDepth 100000 in
theorem gate_cells {fuel : Nat} {cs : List Value} {x : DataW H × List MemPlace} (h : DataW.trod enc Tryd.prog W b sp held fuel 46 cs = some x) :
    ∃ a c e : Int, cs = [.int .i64 a, .int .i64 c, .int .i64 e] := by
  obtain ⟨xs, n, _, _, hcl, hxl, hg⟩ := DataW.trod_struct Tryd.underlying46 h
  have hxl' : xs.length = 3 := hxl
  match cs, hcl.trans cellsGate with
  | [c0, c1, c2], _ =>
    have g0 := hg 0 _ rfl
    have g1 := hg 1 _ rfl
    have g2 := hg 2 _ rfl
    obtain ⟨a0, rfl⟩ := one_int (j := 0) (c := c0) (xs := xs) (by omega) (by simpa [cellsI] using g0)
    obtain ⟨a1, rfl⟩ := one_int (j := 1) (c := c1) (xs := xs) (by omega) (by simpa [cellsI] using g1)
    obtain ⟨a2, rfl⟩ := one_int (j := 2) (c := c2) (xs := xs) (by omega) (by simpa [cellsI] using g2)
    exact ⟨a0, a1, a2, rfl⟩
/-- A slice of gates that can be read. -/
theorem gates_of_trod {v : Value} {fuel : Nat} {x : DataW H × List MemPlace} (hf : DataW.trod enc Tryd.prog W b sp held fuel 22 [v] = some x) :
    ∃ (A : Option Addr) (c : Nat) (zs : List G), v = .slice A zs.length c ∧ zs.length ≤ maxLen ∧ GatesAt W W.heap.size A zs := by
  rcases DataW.trod_slice Tryd.underlying22 hf with ⟨h1, _⟩ | ⟨a, len, cap, elems, rest, n, _, hcs, _, hb, hl, hm, hlen, hel, _, _⟩
  · simp only [List.cons.injEq, and_true] at h1
    subst h1
    exact ⟨none, 0, [], rfl, Nat.zero_le _, GatesAt.nil _ _ _⟩
  · simp only [List.cons.injEq, and_true] at hcs
    subst hcs
    have each : ∀ i, i < len → ∃ z : G, W.cell? (a.add (i * 3)) = some (.int .i64 z.1) ∧ W.cell? ((a.add (i * 3)).add 1) = some (.int .i64 z.2.1) ∧ W.cell? ((a.add (i * 3)).add 2) = some (.int .i64 z.2.2) := by
      intro i hi
      have h2 := hel i hi
      rw [List.getElem?_eq_getElem (by omega), cellsGate, Option.bind_eq_some_iff] at h2
      obtain ⟨cs', hcs', hy⟩ := h2
      obtain ⟨p, q, r, rfl⟩ := gate_cells hy
      obtain ⟨_, _, hcell⟩ := World.cells?_some hcs'
      exact ⟨(p, q, r), by simpa [Addr.add] using hcell 0 (by omega), by simpa using hcell 1 (by omega), by simpa using hcell 2 (by omega)⟩
    let zs : List G := (List.range len).pmap (fun i hi => (each i (by simpa using hi)).choose) (fun i hi => hi)
    have hzl : zs.length = len := by simp [zs]
    have hz : ∀ i (hi : i < zs.length), W.cell? (a.add (i * 3)) = some (.int .i64 zs[i].1) ∧ W.cell? ((a.add (i * 3)).add 1) = some (.int .i64 zs[i].2.1) ∧ W.cell? ((a.add (i * 3)).add 2) = some (.int .i64 zs[i].2.2) := by
      intro i hi
      have h3 := (each i (by omega)).choose_spec
      have h4 : zs[i] = (each i (by omega)).choose := by simp [zs]
      rw [h4]
      exact h3
    refine ⟨some a, cap, zs, by rw [hzl], by omega, fun hp => ⟨a, rfl, ?_, fun j hj => hz j hj⟩⟩
    have := World.block_lt_of_cell? W _ (hz 0 hp).1
    rwa [add_block] at this
/-- A slice of numbers that can be read. -/
theorem ints_of_trod {v : Value} {fuel : Nat} {x : DataW H × List MemPlace} (hf : DataW.trod enc Tryd.prog W b sp held fuel 23 [v] = some x) :
    ∃ (A : Option Addr) (c : Nat) (zs : List Int), v = .slice A zs.length c ∧ zs.length ≤ maxLen ∧ IntsAt W W.heap.size A zs := by
  rcases DataW.trod_slice Tryd.underlying23 hf with ⟨h1, _⟩ | ⟨a, len, cap, elems, rest, n, _, hcs, _, hb, hl, hm, hlen, hel, _, _⟩
  · simp only [List.cons.injEq, and_true] at h1
    subst h1
    exact ⟨none, 0, [], rfl, Nat.zero_le _, fun h => by simp at h⟩
  · simp only [List.cons.injEq, and_true] at hcs
    subst hcs
    have each : ∀ i, i < len → ∃ z : Int, W.cell? (a.add i) = some (.int .i64 z) := by
      intro i hi
      have h2 := hel i hi
      rw [List.getElem?_eq_getElem (by omega), cellsI, Option.bind_eq_some_iff] at h2
      obtain ⟨cs', hcs', hy⟩ := h2
      obtain ⟨z, rfl, _, _⟩ := DataW.trod_int Tryd.underlying3 hy
      obtain ⟨_, _, hcell⟩ := World.cells?_some hcs'
      exact ⟨z, by simpa [Addr.add] using hcell 0 (by simp)⟩
    let zs : List Int := (List.range len).pmap (fun i hi => (each i (by simpa using hi)).choose) (fun i hi => hi)
    have hzl : zs.length = len := by simp [zs]
    have hz : ∀ i (hi : i < zs.length), W.cell? (a.add i) = some (.int .i64 zs[i]) := by
      intro i hi
      have h3 := (each i (by omega)).choose_spec
      have h4 : zs[i] = (each i (by omega)).choose := by simp [zs]
      rw [h4]
      exact h3
    refine ⟨some a, cap, zs, by rw [hzl], by omega, fun hp => ⟨a, rfl, ?_, fun j hj => hz j hj⟩⟩
    have := World.block_lt_of_cell? W _ (hz 0 hp)
    rwa [add_block] at this
theorem cellsNet : Tryd.prog.cellsOf 25 = 3 := by kernel_rfl
set_option maxRecDepth 100000 in
theorem net_open {base : Nat} {v : Value} {d : DataW H} {ps : List MemPlace}
    (hv : Value.okWide Tryd.prog W .any base 25 v) (h : DataW.Trod enc Tryd.prog W b sp held 25 v d ps) :
    ∃ (n : Nt) (A : Option Addr) (c : Nat) (B : Option Addr) (d : Nat), v = ntV n A c B d ∧ NetAt W A B n := by
  obtain ⟨cs, rfl, hsz⟩ := okWide_struct Tryd.underlying25 hv
  obtain ⟨fuel, hf⟩ := h
  obtain ⟨xs, n, _, _, hcl, hxl, hg⟩ := DataW.trod_struct Tryd.underlying25 (cs := cs.toList) (by simpa [Value.cells] using hf)
  have hxl' : xs.length = 3 := hxl
  obtain ⟨l⟩ := cs
  match l, hcl.trans cellsNet with
  | [c0, c1, c2], _ =>
    have g0 := hg 0 _ rfl
    have g1 := hg 1 _ rfl
    have g2 := hg 2 _ rfl
    obtain ⟨a0, rfl⟩ := one_int (j := 0) (c := c0) (xs := xs) (by omega) (by simpa [cellsI] using g0)
    rw [List.getElem?_eq_getElem (by omega)] at g1 g2
    obtain ⟨A, c, zs, rfl, hl, hp⟩ := gates_of_trod (v := c1) (by simpa [cellsI, cellsGates] using g1)
    obtain ⟨B, d, ys, rfl, hl2, hp2⟩ := ints_of_trod (v := c2) (by simpa [cellsI, cellsGates, cellsInts] using g2)
    exact ⟨⟨a0, zs, ys⟩, A, c, B, d, rfl, ⟨hl, hl2, hp, hp2⟩⟩
end
end Go.Proofs.YtpjeaajjlkgekaaDoor
