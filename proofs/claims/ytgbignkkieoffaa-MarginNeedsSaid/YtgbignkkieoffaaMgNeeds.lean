/-
  MarginNeeds: the walk. No statement is proved here.
-/
import Derived.Test.YtgbignkkieoffaaMg7
import Derived.Test.YtgbignkkieoffaaM3Awake
import Derived.Lib.QuietBelow
namespace Go.Proofs.Ytgbignkkieoffaa
open Go.RowKit Mg Go.Sort
set_option linter.unusedVariables false
set_option linter.unusedSimpArgs false

theorem awake_m (w : World) : Calls Try.prog 12 #[] w (fun e w' => e = .returned (.bool true) ∧ Below w.heap.size w w') := Ev.awake w
set_option maxRecDepth 100000 in
set_option maxHeartbeats 4000000 in
theorem needs_walk (W : World) (k : Kd) (A : Option Addr) (c : Nat) (hk : KindAt W A k) (volt : Int) (_ : (Lit.int .i64 volt).wf = true) :
    Calls Try.prog 3 #[kdV k A c, .int .i64 volt] W fun e w' => e = .returned (.bool true) ∧ Below W.heap.size W w' := by
  have P0 := kdW_new W k A c 26
  have HK := Lib.hid hk
  clear hk
  go_enter Try.func3, Try.ntmps3
  go_wp2_with fail
  refine (need_any k A c volt _ (P0.kind HK.out)).mono ?_; rintro e w1 ⟨rfl, hb⟩
  have P1 := P0.after hb
  clear P0 hb
  have P1' := P1
  obtain ⟨_, c0, c1, c2, c3, hs⟩ := P1'
  go_wp2_with fail
  refine (rneed_any k A c volt _ (P1.kind HK.out)).mono ?_; rintro e w2 ⟨rfl, hb2⟩
  have P2 := P1.after hb2
  clear P1 hb2 c0 c1 c2 c3 hs
  have P2' := P2
  obtain ⟨_, c0, c1, c2, c3, hs⟩ := P2'
  go_wp2
  have HB := Lib.hid P2.below
  have k0 := cell_regrown c0
  have k1 := cell_regrown c1
  have k2 := cell_regrown c2
  have k3 := cell_regrown c3
  have z1 : (k.err == k.err) = true := by simp
  have z2 : (k.needV volt == k.needV volt) = true := by simp
  have z3 : (k.needErr volt == k.needErr volt) = true := by simp
  have hK2 := P2.kind HK.out
  have cA : ∀ d os, Calls Try.prog 10 #[kdV k A c] (grow (redrawn w2 d) os) fun e w'' => e = .returned (.int .i64 k.err) ∧ ∃ p : Regrown, w'' = grow (redrawn w2 p.d) p.os := fun d os =>
    Calls.regrown_of (check_any k A c _ (hK2.below (below_regrown w2 d os)))
  have cB : ∀ d os, Calls Try.prog 11 #[kdV k A c] (grow (redrawn w2 d) os) fun e w'' => e = .returned (.int .i64 k.err) ∧ ∃ p : Regrown, w'' = grow (redrawn w2 p.d) p.os := fun d os =>
    Calls.regrown_of (rcheck_any k A c _ (hK2.below (below_regrown w2 d os)))
  have cC : ∀ d os, Calls Try.prog 12 #[] (grow (redrawn w2 d) os) fun e w'' => e = .returned (.bool true) ∧ ∃ p : Regrown, w'' = grow (redrawn w2 p.d) p.os := fun d os =>
    Calls.regrown_of (awake_m _)
  clear c0 c1 c2 c3 P2 hK2
  refine wp_region_quiet_below rfl (by kernel_rfl) ?_
  repeat (quiet_step (first | with_reducible exact cA _ _ | with_reducible exact cB _ _ | with_reducible exact cC _ _); try simp only [z1, z2, z3])
  refine wpQuiet_nil ?_
  intro _ hw'
  obtain ⟨⟨dq, osq⟩, hw''⟩ := hw'
  subst hw''
  have b3 := below_regrown w2 dq osq
  generalize grow (redrawn w2 dq) osq = X at *
  clear cA cB cC k0 k1 k2 k3 z1 z2 z3
  go_wp2
  go_ret
  exact ⟨rfl, HB.out.trans (below_low HB.out.size b3)⟩
end Go.Proofs.Ytgbignkkieoffaa
