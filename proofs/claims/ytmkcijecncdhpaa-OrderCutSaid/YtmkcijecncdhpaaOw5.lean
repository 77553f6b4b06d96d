/-
  CONTRACTS OF what Check calls: the closure, slices.IndexFunc, and the reference's odd. No statement is proved here.
-/
import Derived.Test.YtmkcijecncdhpaaOw4
namespace Go.Proofs.Ytmkcijecncdhpaa
open Go.RowKit
set_option linter.unusedVariables false
set_option linter.unusedSimpArgs false

theorem isNone_any (x : Int) (w : World) : Calls Try.prog 58 #[.int .i64 x] w fun e w' => e = .returned (.bool (!inB 16777215 x)) ∧ w' = w.alloc (.cells #[.int .i64 x] 3) := by
  have H1 := Lib.hid (areWords_1 x)
  go_enter Try.func58, Try.ntmps58
  go_wp2_with fail
  refine (H1.out _ _ _ _ (by simp [go_sem])).mono ?_; rintro e w' ⟨rfl, rfl⟩
  go_wp2
  go_ret
  exact ⟨rfl, rfl⟩
end Go.Proofs.Ytmkcijecncdhpaa
