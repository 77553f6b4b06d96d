/-
  GateChecks: the walk. No statement is proved here.
-/
import Derived.Test.YtpjeaajjlkgekaaDoorGt6
import Derived.Test.YtpjeaajjlkgekaaDoorG2Awake
namespace Go.Proofs.YtpjeaajjlkgekaaDoor
open Go.RowKit Gt Go.Sort
set_option linter.unusedVariables false
set_option linter.unusedSimpArgs false

theorem holds_below {w w' : World} (h : Ev.Holds Ev.gvars w) (hb : Below w.heap.size w w') : Ev.Holds Ev.gvars w' := fun v hm => by
  obtain ⟨ds, e, fr, h1, h2⟩ := h v hm
  have hlt : v.g < w.heap.size := (Array.getElem?_eq_some_iff.1 h1).1
  exact ⟨ds, e, fr, (hb.block v.g hlt).trans h1, h2⟩
theorem below_next {W U V : World} (h : Below W.heap.size W U) (hb : Below U.heap.size U V) : Below W.heap.size W V := h.trans (below_low h.size hb)
set_option maxRecDepth 100000 in
set_option maxHeartbeats 4000000 in
theorem checks_walk (w : World) (n : Nt) (A : Option Addr) (c : Nat) (B : Option Addr) (d : Nat) (hN : NetAt w A B n) (hw : Ev.Holds Ev.gvars w) :
    Calls Tryd.prog 4 #[ntV n A c B d] w fun e w' => e = .returned (.bool true) ∧ Below w.heap.size w w' := by
  have P0 := ntW_new w n A c B d 25
  have K1 := fun w' (h : NetAt w' A B n) => check_any n A c B d w' h
  have K2 := fun w' (h : NetAt w' A B n) => rcheck_any n A c B d w' h
  generalize n.chk = v at K1 K2
  obtain ⟨p, i, e0⟩ := v
  have qp : (p == p) = true := by simp
  have qi : (i == i) = true := by simp
  have qe : (e0 == e0) = true := by simp
  have HK2 := Lib.hid K2
  have HN := Lib.hid hN
  have HW := Lib.hid hw
  clear hw K2
  go_enter Tryd.func4, Tryd.ntmps4
  go_wp2_with fail
  refine (K1 _ (P0.net HN.out)).mono ?_; rintro e w1 ⟨rfl, hb1⟩
  dsimp only
  have P1 := P0.after hb1
  have HP1 := Lib.hid P1
  clear K1 P0 hb1
  obtain ⟨_, c0, c1, c2, hs⟩ := P1
  go_wp2_with fail
  refine (HK2.out _ (HP1.out.net HN.out)).mono ?_; rintro e w2 ⟨rfl, hb2⟩
  dsimp only
  have P2 := HP1.out.after hb2
  have HB2 := Lib.hid P2.below
  clear c0 c1 c2 hs hb2 P2 HP1 HK2
  go_wp2_with fail
  refine (adder_any _).mono ?_; rintro e w3 ⟨A3, c3, B3, d3, rfl, hN3, hb3⟩
  go_wp2_with fail
  refine (radder_any _).mono ?_; rintro e w4 ⟨A4, c4, B4, d4, rfl, hN4, hb4⟩
  go_wp2_with fail
  refine (nets_same adderN A3 c3 B3 d3 A4 c4 B4 d4 _ (hN3.below hb4) hN4).mono ?_; rintro e w5 ⟨rfl, hb5⟩
  have HB5 := Lib.hid (below_next (below_next (below_next HB2.out hb3) hb4) hb5)
  clear hN3 hN4 hb3 hb4 hb5
  go_wp2_with fail
  refine (Ev.awake (holds_below HW.out HB5.out)).mono ?_; rintro e w6 ⟨rfl, hb6⟩
  have HB6 := Lib.hid (below_next HB5.out hb6)
  clear hb6
  go_wp2
  go_ret
  exact ⟨rfl, HB6.out⟩
end Go.Proofs.YtpjeaajjlkgekaaDoor
