/-
  OrderBegins: the walk, from what both Begins say. No statement is proved here.
-/
import Derived.Test.YtmkcijecncdhpaaOw21
import Derived.Test.YtmkcijecncdhpaaOChecks
namespace Go.Proofs.Ytmkcijecncdhpaa
open Go.RowKit
set_option linter.unusedVariables false
set_option linter.unusedSimpArgs false

/-- A state and an error number are the answer. -/
def StateIs (w : World) (y0 y1 : List Int) (pl st k : Int) (e : Ending) (w' : World) : Prop :=
  ∃ A0 c0 A1 c1, e = .returned (.tuple #[stV A0 A1 none c0 c1 0 y0 y1 [] 0 pl st 0 0, .int .i64 k]) ∧
    IntsAt w' w'.heap.size A0 y0 ∧ IntsAt w' w'.heap.size A1 y1 ∧ Below w.heap.size w w'
theorem padL_len {z : List Int} (h : z.length ≤ 128) : (padL z).length = 128 := by
  unfold padL
  rw [List.length_append, List.length_replicate]
  omega
theorem BeginOk.state {w w' : World} {z0 z1 : List Int} {st : Int} {e : Ending} (l0 : z0.length ≤ 128) (h : BeginOk w z0 z1 st e w') : StateIs w (padL z0) z1 (st % 16) st 0 e w' := by
  obtain ⟨A0, c0, A1, c1, rfl, h0, h1, hb⟩ := h
  refine ⟨A0, c0, A1, c1, ?_, h0, h1, hb⟩
  show _ = Ending.returned (.tuple #[.agg #[.slice A0 (padL z0).length c0, _, _, _, _, _, _, _], _])
  rw [padL_len l0]
  rfl
theorem BeginNo.state {w w' : World} {k : Int} {e : Ending} (h : BeginNo w k e w') : StateIs w [] [] 0 0 k e w' := by
  obtain ⟨rfl, hb⟩ := h
  exact ⟨none, 0, none, 0, rfl, ListAt.nil _ _ _, ListAt.nil _ _ _, hb⟩
set_option maxHeartbeats 4000000 in
theorem begins_of (A0 A1 : Option Addr) (n0 n1 : Nat) (z0 z1 : List Int) (st : Int) (y0 y1 : List Int) (pl at' k : Int) (l0 : y0.length ≤ maxLen) (l1 : y1.length ≤ maxLen)
    (K1 : Hid (∀ W, IntsAt W W.heap.size A0 z0 → IntsAt W W.heap.size A1 z1 → Calls Try.prog 17 #[.slice A0 z0.length n0, .slice A1 z1.length n1, .int .i64 st] W (StateIs W y0 y1 pl at' k)))
    (K2 : Hid (∀ W, IntsAt W W.heap.size A0 z0 → IntsAt W W.heap.size A1 z1 → Calls Try.prog 34 #[.slice A0 z0.length n0, .slice A1 z1.length n1, .int .i64 st] W (StateIs W y0 y1 pl at' k)))
    (w : World) (i0 : IntsAt w w.heap.size A0 z0) (i1 : IntsAt w w.heap.size A1 z1) :
    Calls Try.prog 11 #[.slice A0 z0.length n0, .slice A1 z1.length n1, .int .i64 st] w fun e w' => e = .returned (.bool true) ∧ Below w.heap.size w w' := by
  have ek : (k == k) = true := by simp
  have H1 := Lib.hid i0
  have H2 := Lib.hid i1
  clear i0 i1
  go_enter Try.func11, Try.ntmps11
  go_wp2_with fail
  refine (K1.out _ H1.out H2.out).mono ?_; rintro e w1 ⟨B0, d0, B1, d1, rfl, j0, j1, hb1⟩
  have G1 := Lib.hid (And.intro j0 j1)
  have HB1 := Lib.hid hb1
  clear j0 j1 hb1
  go_wp2_with fail
  refine (K2.out _ ?p1 ?p2).mono ?_
  case p1 => exact (H1.out.below (HB1.out.trans (below_lower HB1.out.size ((Below.refl _ _).alloc (Nat.le_refl _) _)))).more (by have := HB1.out.size; simp; omega)
  case p2 => exact (H2.out.below (HB1.out.trans (below_lower HB1.out.size ((Below.refl _ _).alloc (Nat.le_refl _) _)))).more (by have := HB1.out.size; simp; omega)
  rintro e w2 ⟨C0, e0, C1, e1, rfl, j0, j1, hb2⟩
  obtain ⟨⟨c0, c1, c2, c3, c4, c5, c6, c7⟩, bW, hlt⟩ := box_state w1 _ _ _ _ _ _ _ _ _ hb2
  have G2 := Lib.hid (And.intro ((G1.out.1.below bW).more bW.size) ((G1.out.2.below bW).more bW.size))
  have G3 := Lib.hid (And.intro j0 j1)
  have HB2 := Lib.hid (HB1.out.trans (below_lower HB1.out.size bW))
  clear j0 j1 hb2 bW HB1 G1
  go_wp2_with fail
  have bN : Below w2.heap.size w2 (w2.alloc (.cells #[.slice C0 y0.length e0, .slice C1 y1.length e1, .int .i64 0, .slice none 0 0, .int .i64 pl, .int .i64 at', .int .i64 0, .int .i64 0] 24)) := (Below.refl _ _).alloc (Nat.le_refl _) _
  refine (states_same B0 B1 none C0 C1 none d0 d1 0 e0 e1 0 y0 y1 [] 0 pl at' 0 0 l0 l1 (by unfold maxLen; simp) _ ((G2.out.1.below bN).more bN.size) ((G2.out.2.below bN).more bN.size) (ListAt.nil _ _ _) ((G3.out.1.below bN).more bN.size) ((G3.out.2.below bN).more bN.size) (ListAt.nil _ _ _)).mono ?_
  rintro e w3 ⟨rfl, hb3⟩
  have HB3 := Lib.hid ((HB2.out.trans (below_lower HB2.out.size bN)).trans (below_lower (Nat.le_trans HB2.out.size bN.size) hb3))
  clear bN hb3 c0 c1 c2 c3 c4 c5 c6 c7 HB2
  go_wp2_with fail
  refine (awake_b _).mono ?_; rintro e w7 ⟨rfl, hb7⟩
  go_wp2
  go_ret
  exact ⟨rfl, HB3.out.trans (below_lower HB3.out.size hb7)⟩
theorem begGood_iff {z0 z1 : List Int} {st : Int} (h : begGood z0 z1 st = true) : z0.all (inB 16777215) = true ∧ z1.all (inB 16777215) = true ∧ (0 ≤ st ∧ st ≤ 127) := by
  unfold begGood at h
  rw [Bool.and_eq_true, Bool.and_eq_true] at h
  obtain ⟨⟨h0, h1⟩, h2⟩ := h
  unfold inB at h2
  exact ⟨h0, h1, by simpa using h2⟩
theorem orderBegins_walk (w : World) (A0 : Option Addr) (n0 : Nat) (z0 : List Int) (l0 : z0.length ≤ maxLen) (w0 : ∀ n ∈ z0, (Lit.int .i64 n).wf = true) (A1 : Option Addr) (n1 : Nat) (z1 : List Int) (l1 : z1.length ≤ maxLen) (w1 : ∀ n ∈ z1, (Lit.int .i64 n).wf = true)
    (st : Int) (w2 : (Lit.int .i64 st).wf = true) (i0 : IntsAt w w.heap.size A0 z0) (i1 : IntsAt w w.heap.size A1 z1) :
    Calls Try.prog 11 #[.slice A0 z0.length n0, .slice A1 z1.length n1, .int .i64 st] w fun e w' => e = .returned (.bool true) ∧ Below w.heap.size w w' := by
  by_cases h0 : z0.length ≤ 128
  · by_cases h1 : z1.length ≤ 200
    · cases hg : begGood z0 z1 st with
      | true =>
        obtain ⟨q0, q1, hs⟩ := begGood_iff hg
        exact begins_of A0 A1 n0 n1 z0 z1 st (padL z0) z1 (st % 16) st 0 (by rw [padL_len h0]; unfold maxLen; omega) l1
          (Lib.hid fun W j0 j1 => (begin_ok A0 A1 n0 n1 z0 z1 st h0 h1 q0 q1 hs W j0 j1).mono fun e W' h => h.state h0)
          (Lib.hid fun W j0 j1 => (rbegin_ok A0 A1 n0 n1 z0 z1 st h0 h1 q0 q1 hs W j0 j1).mono fun e W' h => h.state h0) w i0 i1
      | false =>
        exact begins_of A0 A1 n0 n1 z0 z1 st [] [] 0 0 7 (Nat.zero_le _) (Nat.zero_le _)
          (Lib.hid fun W j0 j1 => (begin_bad A0 A1 n0 n1 z0 z1 st h0 h1 hg W j0 j1).mono fun e W' h => h.state)
          (Lib.hid fun W j0 j1 => (rbegin_bad A0 A1 n0 n1 z0 z1 st h0 h1 hg W j0 j1).mono fun e W' h => h.state) w i0 i1
    · exact begins_of A0 A1 n0 n1 z0 z1 st [] [] 0 0 3 (Nat.zero_le _) (Nat.zero_le _)
        (Lib.hid fun W _ _ => (begin_long1 A0 A1 n0 n1 z0 z1 st l1 h0 (by omega) W).mono fun e W' h => h.state)
        (Lib.hid fun W _ _ => (rbegin_long1 A0 A1 n0 n1 z0 z1 st l1 h0 (by omega) W).mono fun e W' h => h.state) w i0 i1
  · exact begins_of A0 A1 n0 n1 z0 z1 st [] [] 0 0 3 (Nat.zero_le _) (Nat.zero_le _)
      (Lib.hid fun W _ _ => (begin_long0 A0 A1 n0 n1 z0 z1 st l0 l1 (by omega) W).mono fun e W' h => h.state)
      (Lib.hid fun W _ _ => (rbegin_long0 A0 A1 n0 n1 z0 z1 st l0 l1 (by omega) W).mono fun e W' h => h.state) w i0 i1
end Go.Proofs.Ytmkcijecncdhpaa
