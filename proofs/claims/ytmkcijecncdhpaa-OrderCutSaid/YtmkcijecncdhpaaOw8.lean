/-
  CONTRACT OF waits. No statement is proved here.
-/
import Derived.Test.YtmkcijecncdhpaaOw7
import Derived.RegionTactic
import Derived.ChangeAlike
namespace Go.Proofs.Ytmkcijecncdhpaa
open Go.RowKit
set_option linter.unusedVariables false
set_option linter.unusedSimpArgs false

def waitCells (l : List (Int × Int)) : List Value := l.flatMap fun p => [.int .i64 p.1, .int .i64 p.2]
def WaitsOut (w : World) (l : List (Int × Int)) (e : Ending) (w' : World) : Prop :=
  ∃ k, e = .returned (.slice (some ⟨k, 0, none⟩) l.length l.length) ∧ w.heap.size ≤ k ∧ RowIs w' k 98 (waitCells l) ∧ Below w.heap.size w w'
theorem row_new_drew {U : World} {k : Nat} {e : TypeId} {xs : List Value} {a : Array Value} (h : U.heap.size = k) (ha : a = xs.toArray) : RowIs (U.alloc (.cells a e)).drew k e xs := by
  subst h ha
  exact RowIs.new U e xs

theorem waits_0 (f o n : Int) (w : World) : Calls Try.prog 70 #[ordV 0 f o n] w (WaitsOut w (waitsO 0 f o)) := by
  go_enter Try.func70, Try.ntmps70
  go_wp2
  go_region
  all_goals
    go_wp2
    go_ret
    exact ⟨w.heap.size + 1 + 1 + 1, rfl, by omega, row_new_drew (by simp) (by simp [waitCells, waitsO]), by go_grown⟩
theorem waits_1 (f o n : Int) (w : World) : Calls Try.prog 70 #[ordV 1 f o n] w (WaitsOut w (waitsO 1 f o)) := by
  go_enter Try.func70, Try.ntmps70
  go_wp2
  go_region
  all_goals
    go_wp2
    go_ret
    exact ⟨w.heap.size + 1 + 1 + 1, rfl, by omega, row_new_drew (by simp) (by simp [waitCells, waitsO]), by go_grown⟩
theorem waits_2 (f o n : Int) (w : World) : Calls Try.prog 70 #[ordV 2 f o n] w (WaitsOut w (waitsO 2 f o)) := by
  go_enter Try.func70, Try.ntmps70
  go_wp2
  go_region
  all_goals
    go_wp2
    go_ret
    exact ⟨w.heap.size + 1 + 1 + 1, rfl, by omega, row_new_drew (by simp) (by simp [waitCells, waitsO]), by go_grown⟩
theorem waits_3 (f o n : Int) (w : World) : Calls Try.prog 70 #[ordV 3 f o n] w (WaitsOut w (waitsO 3 f o)) := by
  go_enter Try.func70, Try.ntmps70
  go_wp2
  go_region
  all_goals
    go_wp2
    go_ret
    exact ⟨w.heap.size + 1 + 1 + 1, rfl, by omega, row_new_drew (by simp) (by simp [waitCells, waitsO]), by go_grown⟩
theorem waits_4 (f o n : Int) (w : World) : Calls Try.prog 70 #[ordV 4 f o n] w (WaitsOut w (waitsO 4 f o)) := by
  go_enter Try.func70, Try.ntmps70
  go_wp2
  go_region
  all_goals
    go_wp2
    go_ret
    exact ⟨w.heap.size + 1 + 1 + 1, rfl, by omega, row_new_drew (by simp) (by simp [waitCells, waitsO]), by go_grown⟩
theorem waits_5 (f o n : Int) (w : World) : Calls Try.prog 70 #[ordV 5 f o n] w (WaitsOut w (waitsO 5 f o)) := by
  go_enter Try.func70, Try.ntmps70
  go_wp2
  go_region
  all_goals
    go_wp2
    go_ret
    exact ⟨w.heap.size + 1 + 1 + 1, rfl, by omega, row_new_drew (by simp) (by simp [waitCells, waitsO]), by go_grown⟩
theorem waits_6 (f o n : Int) (w : World) : Calls Try.prog 70 #[ordV 6 f o n] w (WaitsOut w (waitsO 6 f o)) := by
  go_enter Try.func70, Try.ntmps70
  go_wp2
  go_region
  all_goals
    go_wp2
    go_ret
    exact ⟨w.heap.size + 1 + 1 + 1, rfl, by omega, row_new_drew (by simp) (by simp [waitCells, waitsO]), by go_grown⟩
theorem waits_7 (f o n : Int) (w : World) : Calls Try.prog 70 #[ordV 7 f o n] w (WaitsOut w (waitsO 7 f o)) := by
  go_enter Try.func70, Try.ntmps70
  go_wp2
  go_region
  all_goals
    go_wp2
    go_ret
    exact ⟨w.heap.size + 1 + 1 + 1, rfl, by omega, row_new_drew (by simp) (by simp [waitCells, waitsO]), by go_grown⟩
theorem waits_any (a f o n : Int) (h : 0 ≤ a ∧ a ≤ 7) (w : World) : Calls Try.prog 70 #[ordV a f o n] w (WaitsOut w (waitsO a f o)) := by
  obtain rfl | rfl | rfl | rfl | rfl | rfl | rfl | rfl : a = 0 ∨ a = 1 ∨ a = 2 ∨ a = 3 ∨ a = 4 ∨ a = 5 ∨ a = 6 ∨ a = 7 := by omega
  · exact waits_0 f o n w
  · exact waits_1 f o n w
  · exact waits_2 f o n w
  · exact waits_3 f o n w
  · exact waits_4 f o n w
  · exact waits_5 f o n w
  · exact waits_6 f o n w
  · exact waits_7 f o n w
end Go.Proofs.Ytmkcijecncdhpaa
