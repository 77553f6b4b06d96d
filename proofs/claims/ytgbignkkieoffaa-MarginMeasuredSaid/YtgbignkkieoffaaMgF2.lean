/-
  THE FRAME OF STAGE 3's STATEMENTS: lives. No statement is proved here.
-/
import Derived.Test.YtgbignkkieoffaaMgF
namespace Go.Proofs.Ytgbignkkieoffaa
open Go.ChangeShapes Go.WideShapes Go.ChangeAt Go.RowKit
set_option linter.unusedVariables false
set_option linter.unusedSimpArgs false

theorem cells16 : Try.prog.cellsOf 51 = 1 := by kernel_rfl
theorem cellsU16s : Try.prog.cellsOf 50 = 1 := by kernel_rfl
theorem cellsLife : Try.prog.cellsOf 53 = 4 := by kernel_rfl
section
variable {H : Type} {enc : TypeId × Value → H} {W : World} {b : Nat} {sp : Nat → Bool} {held : Bool}
/-- A slice of numbers of 16 bits that can be read. -/
theorem u16s_of_trod {v : Value} {fuel : Nat} {x : DataW H × List MemPlace} (hf : DataW.trod enc Try.prog W b sp held fuel 50 [v] = some x) :
    ∃ (A : Option Addr) (c : Nat) (zs : List Int), v = .slice A zs.length c ∧ zs.length ≤ maxLen ∧ ListAt (Value.int .u16) W W.heap.size A zs ∧ ∀ n ∈ zs, 0 ≤ n ∧ n ≤ 65535 := by
  rcases open_ints Try.underlying50 Try.underlying51 cells16 hf with ⟨h1, _⟩ | ⟨ad, len, cap, zs, hcs, _, hlc, hcm, hlen, _, hcell, hwf⟩
  · simp only [List.cons.injEq, and_true] at h1
    subst h1
    exact ⟨none, 0, [], rfl, Nat.zero_le _, ListAt.nil _ _ _, fun n hn => by cases hn⟩
  · simp only [List.cons.injEq, and_true] at hcs
    subst hcs
    have hl : len ≤ zs.length := by
      rw [hlen]
      split <;> omega
    have hlt : (zs.take len).length = len := by simp; omega
    refine ⟨some ad, cap, zs.take len, by rw [hlt], by omega, fun hp => ?_, fun n hn => bounds_u16 (hwf n (List.mem_of_mem_take hn))⟩
    have h0 := hcell 0 (by omega)
    refine ⟨ad, rfl, ?_, fun j hj => ?_⟩
    · have := World.block_lt_of_cell? W _ h0
      rwa [add_block] at this
    · have hj' : j < zs.length := by simp at hj; omega
      rw [hcell j hj']
      simp [List.getD, hj']
set_option maxRecDepth 100000 in
theorem life_open {base : Nat} {v : Value} {d : DataW H} {ps : List MemPlace}
    (hv : Value.okWide Try.prog W .any base 53 v) (h : DataW.Trod enc Try.prog W b sp held 53 v d ps) :
    ∃ (v0 v1 : Value) (F : Int) (B : Option Addr) (nb : Nat) (zs : List Int), v = .agg #[v0, v1, .int .u16 F, .slice B zs.length nb] ∧ (0 ≤ F ∧ F ≤ 65535) ∧ zs.length ≤ maxLen ∧ ListAt (Value.int .u16) W W.heap.size B zs ∧ ∀ n ∈ zs, 0 ≤ n ∧ n ≤ 65535 := by
  obtain ⟨cs, rfl, hsz⟩ := okWide_struct Try.underlying53 hv
  obtain ⟨fuel, hf⟩ := h
  obtain ⟨xs, n, _, _, _, hxl, hg⟩ := DataW.trod_struct Try.underlying53 hf
  have hxl' : xs.length = 4 := hxl
  obtain ⟨l⟩ := cs
  match l, hsz.trans cellsLife with
  | [c0, c1, c2, c3], _ =>
    have g2 := hg 2 _ rfl
    have g3 := hg 3 _ rfl
    rw [List.getElem?_eq_getElem (by omega)] at g2 g3
    obtain ⟨F, hF, _, hw⟩ := DataW.trod_int Try.underlying51 g2
    simp [Value.cells, cells16, cellsU16s] at hF
    obtain ⟨A, c, zs, rfl, hl, hz, hb⟩ := u16s_of_trod (v := c3) (by simpa [Value.cells, cells16, cellsU16s] using g3)
    exact ⟨c0, c1, F, A, c, zs, by rw [hF], bounds_u16 hw, hl, hz, hb⟩
end
end Go.Proofs.Ytgbignkkieoffaa
