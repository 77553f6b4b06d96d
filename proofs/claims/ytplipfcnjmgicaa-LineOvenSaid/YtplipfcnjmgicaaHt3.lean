/-
  THE MOMENTS THAT ARE MET: reach. No statement is proved here.
-/
import Derived.Test.YtplipfcnjmgicaaHt2
import Derived.Maps.AppendAt
namespace Go.Proofs.Ytplipfcnjmgicaa
open Go.RowKit Go.Maps
set_option linter.unusedVariables false
set_option linter.unusedSimpArgs false

theorem seat_laid : laidOutB Try.prog = true := by kernel_rfl
theorem moKeyed : Keyed Try.prog 107 := Keyed.of_law (deep_law_laid seat_laid (m := 2) (by omega) (of_decide_eq_true (by kernel_rfl)) (by kernel_rfl) (by rw [Try.underlying107]))
theorem moInfo : (Try.prog.info? 107).map (fun i => (i.zero, i.size, i.bytes)) = some (some (.agg #[.int .i64 0, .bool false]), 2, 16) := by kernel_rfl
theorem mapZero (w : World) : (zeroValue 4).run Try.prog w = .ok (.bool false) w := by kernel_rfl
theorem moCells : Try.prog.cellsOf 107 = 2 := by kernel_rfl
theorem moKeyType : Try.prog.keyType 107 = true := by kernel_rfl
theorem cellsI : Try.prog.cellsOf 3 = 1 := by kernel_rfl
theorem cellsB : Try.prog.cellsOf 4 = 1 := by kernel_rfl
theorem typesN : ∃ n, Try.prog.types.size + 1 = n + 1 + 1 := by
  have : 1 ≤ Try.prog.types.size := of_decide_eq_true (by kernel_rfl)
  exact ⟨Try.prog.types.size - 1, by omega⟩
set_option maxRecDepth 100000 in
/-- A moment is a key. -/
theorem moKey (m : Mo) (hm : -600 ≤ m.1 ∧ m.1 ≤ 1100) : ∃ l, keyOf Try.prog 107 (moV m) = some l := by
  obtain ⟨t, h⟩ := m
  have hw : (Lit.int .i64 t).wf = true := WalkArith.wf_i64 (by dsimp only at hm; omega)
  have e1 : ∀ d, Try.prog.keyLits (d + 1) 3 [.int .i64 t] = some [.int .i64 t] := fun d => by
    unfold Program.keyLits
    rw [Try.underlying3]
    simp [hw]
  have e2 : ∀ d, Try.prog.keyLits (d + 1) 4 [.bool h] = some [.bool h] := fun d => by
    unfold Program.keyLits
    rw [Try.underlying4]
  have e3 : ∀ d, Try.prog.keyLits (d + 1 + 1) 107 [.int .i64 t, .bool h] = some [.int .i64 t, .bool h] := fun d => by
    unfold Program.keyLits
    rw [Try.underlying107]
    dsimp only
    rw [if_pos (by rw [moCells]; exact ⟨rfl, by simp⟩)]
    simp only [List.mapM_cons, List.mapM_nil, List.drop_zero, List.drop_succ_cons, cellsI, cellsB, List.take_succ_cons, List.take_zero, e1, e2]
    rfl
  unfold keyOf
  rw [Try.underlying107]
  have hf : (moV (t, h)).formed Try.prog 107 = true := by simp [Value.formed, Try.underlying107, moCells]
  obtain ⟨n, hn⟩ := typesN
  refine ⟨.string (keyBytes [.int .i64 t, .bool h]), ?_⟩
  dsimp only
  rw [moKeyType, hf, hn]
  show Option.map _ (Try.prog.keyLits (n + 1 + 1) 107 [.int .i64 t, .bool h]) = _
  rw [e3]
  rfl
theorem moV_inj (m m' : Mo) (h : moV m = moV m') : m = m' := by
  obtain ⟨t, b⟩ := m
  obtain ⟨t', b'⟩ := m'
  simp at h
  simp [h]
end Go.Proofs.Ytplipfcnjmgicaa
