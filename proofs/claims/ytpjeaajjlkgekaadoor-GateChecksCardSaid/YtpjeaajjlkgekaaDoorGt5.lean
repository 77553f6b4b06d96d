/-
  CONTRACTS OF the adder's net, and of nets that are the same. No statement is proved here.
-/
import Derived.Test.YtpjeaajjlkgekaaDoorGt4
namespace Go.Proofs.YtpjeaajjlkgekaaDoor
open Go.RowKit Gt Go.Sort
set_option linter.unusedVariables false
set_option linter.unusedSimpArgs false

theorem cNet : Tryd.prog.cellsOf 25 = 3 := by kernel_rfl
def adderN : Nt := ⟨2, [(5, 7, 0), (3, 0, 1), (3, 3, 2), (1, 0, 1), (1, 3, 2), (2, 5, 6)], [4]⟩
def AdderOut (w : World) (e : Ending) (w' : World) : Prop := ∃ A c B d, e = .returned (ntV adderN A c B d) ∧ NetAt w' A B adderN ∧ Below w.heap.size w w'
theorem adder_gates {U : World} {b : Nat} (hb : b < U.heap.size) (h : ∀ j, j < 18 → U.cell? ⟨b, j, none⟩ = some (.int .i64 ([5, 7, 0, 3, 0, 1, 3, 3, 2, 1, 0, 1, 1, 3, 2, 2, 5, 6].getD j 0))) : GatesAt U U.heap.size (some ⟨b, 0, none⟩) adderN.gs := fun _ => by
  refine ⟨⟨b, 0, none⟩, rfl, hb, fun j hj => ?_⟩
  have hj' : j < 6 := hj
  obtain rfl | rfl | rfl | rfl | rfl | rfl : j = 0 ∨ j = 1 ∨ j = 2 ∨ j = 3 ∨ j = 4 ∨ j = 5 := by omega
  · exact ⟨h 0 (by omega), h 1 (by omega), h 2 (by omega)⟩
  · exact ⟨h 3 (by omega), h 4 (by omega), h 5 (by omega)⟩
  · exact ⟨h 6 (by omega), h 7 (by omega), h 8 (by omega)⟩
  · exact ⟨h 9 (by omega), h 10 (by omega), h 11 (by omega)⟩
  · exact ⟨h 12 (by omega), h 13 (by omega), h 14 (by omega)⟩
  · exact ⟨h 15 (by omega), h 16 (by omega), h 17 (by omega)⟩
theorem adder_out {w V : World} {b o : Nat} (hV : Below w.heap.size w V) (hb : b < V.heap.size) (ho : o < V.heap.size) (h : ∀ j, j < 18 → V.cell? ⟨b, j, none⟩ = some (.int .i64 ([5, 7, 0, 3, 0, 1, 3, 3, 2, 1, 0, 1, 1, 3, 2, 2, 5, 6].getD j 0))) (h2 : V.cell? ⟨o, 0, none⟩ = some (.int .i64 4)) : AdderOut w (.returned (ntV adderN (some ⟨b, 0, none⟩) 6 (some ⟨o, 0, none⟩) 1)) V :=
  ⟨_, _, _, _, rfl, ⟨by decide, by decide, adder_gates hb h, fun _ => ⟨⟨o, 0, none⟩, rfl, ho, fun j hj => by
    have hj' : j < 1 := hj
    obtain rfl : j = 0 := by omega
    simpa [Addr.add, adderN] using h2⟩⟩, hV⟩
set_option maxRecDepth 100000 in
set_option maxHeartbeats 2000000 in
theorem radder_any (w : World) : Calls Tryd.prog 17 #[] w (AdderOut w) := by
  go_enter Tryd.func17, Tryd.ntmps17
  go_wp2
  refine bodyPost_ret (v := ntV adderN (some ⟨w.heap.size + 1, 0, none⟩) 6 (some ⟨w.heap.size + 1 + 1, 0, none⟩) 1) (by simp [results, Tryd.results17, cNet, go_sem, adderN]) rfl ?_
  refine adder_out (by go_grown) (by simp) (by simp) (fun j hj => ?_) (by simp [go_sem])
  obtain rfl | rfl | rfl | rfl | rfl | rfl | rfl | rfl | rfl | rfl | rfl | rfl | rfl | rfl | rfl | rfl | rfl | rfl : j = 0 ∨ j = 1 ∨ j = 2 ∨ j = 3 ∨ j = 4 ∨ j = 5 ∨ j = 6 ∨ j = 7 ∨ j = 8 ∨ j = 9 ∨ j = 10 ∨ j = 11 ∨ j = 12 ∨ j = 13 ∨ j = 14 ∨ j = 15 ∨ j = 16 ∨ j = 17 := by omega
  all_goals simp [go_sem]
set_option maxRecDepth 100000 in
set_option maxHeartbeats 2000000 in
theorem adder_any (w : World) : Calls Tryd.prog 5 #[] w (AdderOut w) := by
  go_enter Tryd.func5, Tryd.ntmps5
  go_wp2
  refine bodyPost_ret (v := ntV adderN (some ⟨w.heap.size + 1, 0, none⟩) 6 (some ⟨w.heap.size + 1 + 1, 0, none⟩) 1) (by simp [results, Tryd.results5, cNet, go_sem, adderN]) rfl ?_
  refine adder_out (by go_grown) (by simp) (by simp) (fun j hj => ?_) (by simp [go_sem])
  obtain rfl | rfl | rfl | rfl | rfl | rfl | rfl | rfl | rfl | rfl | rfl | rfl | rfl | rfl | rfl | rfl | rfl | rfl : j = 0 ∨ j = 1 ∨ j = 2 ∨ j = 3 ∨ j = 4 ∨ j = 5 ∨ j = 6 ∨ j = 7 ∨ j = 8 ∨ j = 9 ∨ j = 10 ∨ j = 11 ∨ j = 12 ∨ j = 13 ∨ j = 14 ∨ j = 15 ∨ j = 16 ∨ j = 17 := by omega
  all_goals simp [go_sem]
end Go.Proofs.YtpjeaajjlkgekaaDoor
