/-
  CONTRACT OF Check of the program. No statement is proved here.
-/
import Derived.Test.YtmkcijecncdhpaaOw11
import Derived.Deep.QuietTactic
import Derived.BigQuiet
namespace Go.Proofs.Ytmkcijecncdhpaa
open Go.RowKit
set_option linter.unusedVariables false
set_option linter.unusedSimpArgs false

/-- A state's value. -/
abbrev stV (A0 A1 A3 : Option Addr) (n0 n1 n3 : Nat) (z0 z1 z3 : List Int) (a2 a4 a5 a6 a7 : Int) : Value :=
  .agg #[.slice A0 z0.length n0, .slice A1 z1.length n1, .int .i64 a2, .slice A3 z3.length n3, .int .i64 a4, .int .i64 a5, .int .i64 a6, .int .i64 a7]
/-- What both Checks answer. -/
def checkV (z0 z1 z3 : List Int) (a2 a4 a5 a6 a7 : Int) : Int × Int × Int :=
  if z0.length ≠ 128 ∨ 200 < z1.length ∨ 200 < z3.length then (1, 0, 3)
  else if oddI z0 ≠ -1 then (2, oddI z0, 7)
  else if oddI z1 ≠ -1 then (3, oddI z1, 7)
  else if oddI z3 ≠ -1 then (4, oddI z3, 7)
  else if ¬ ((inB z1.length a2 && (inB 1000000000 a4 && (inB 127 a5 && (inB a4 a6 && inB 4 a7)))) = true) then (5, 0, 7)
  else if a4 % 16 ≠ a5 % 16 then (6, 0, 2) else (0, 0, 0)
def CheckIs (w : World) (v : Int × Int × Int) (e : Ending) (w' : World) : Prop := e = .returned (.tuple #[.int .i64 v.1, .int .i64 v.2.1, .int .i64 v.2.2]) ∧ Below w.heap.size w w'
theorem below_drewN {n k : Nat} {w W : World} (h : Below n w W) : Below n w (W.drewN k) := h.trans ⟨rfl, rfl, rfl, Nat.le_refl _, fun _ _ => rfl⟩
/-- A state in a block. -/
structure StAt (U : World) (b : Nat) (v0 v1 v3 : Value) (a2 a4 a5 a6 a7 : Int) : Prop where
  c0 : U.cell? ⟨b, 0, none⟩ = some v0
  c1 : U.cell? ⟨b, 1, none⟩ = some v1
  c2 : U.cell? ⟨b, 2, none⟩ = some (.int .i64 a2)
  c3 : U.cell? ⟨b, 3, none⟩ = some v3
  c4 : U.cell? ⟨b, 4, none⟩ = some (.int .i64 a4)
  c5 : U.cell? ⟨b, 5, none⟩ = some (.int .i64 a5)
  c6 : U.cell? ⟨b, 6, none⟩ = some (.int .i64 a6)
  c7 : U.cell? ⟨b, 7, none⟩ = some (.int .i64 a7)
theorem StAt.below {U V : World} {b n : Nat} {v0 v1 v3 : Value} {a2 a4 a5 a6 a7 : Int} (h : StAt U b v0 v1 v3 a2 a4 a5 a6 a7) (hb : Below n U V) (hn : b < n) : StAt V b v0 v1 v3 a2 a4 a5 a6 a7 :=
  have c : ∀ j, V.cell? ⟨b, j, none⟩ = U.cell? ⟨b, j, none⟩ := fun j => hb.cell (p := ⟨b, j, none⟩) hn
  ⟨(c 0).trans h.c0, (c 1).trans h.c1, (c 2).trans h.c2, (c 3).trans h.c3, (c 4).trans h.c4, (c 5).trans h.c5, (c 6).trans h.c6, (c 7).trans h.c7⟩
theorem StAt.new (w : World) (v0 v1 v3 : Value) (a2 a4 a5 a6 a7 : Int) (t : TypeId) : StAt (w.alloc (.cells #[v0, v1, .int .i64 a2, v3, .int .i64 a4, .int .i64 a5, .int .i64 a6, .int .i64 a7] t)) w.heap.size v0 v1 v3 a2 a4 a5 a6 a7 := by
  constructor <;> simp [go_sem]
/-- What stands in Check's blocks. -/
structure ChW (w : World) (v0 v1 v3 : Value) (a2 a4 a5 a6 a7 : Int) (U : World) : Prop where
  below : Below w.heap.size w U
  st : StAt U w.heap.size v0 v1 v3 a2 a4 a5 a6 a7
  r0 : U.cell? ⟨w.heap.size + 1, 0, none⟩ = some v0
  r1 : U.cell? ⟨w.heap.size + 1, 1, none⟩ = some v1
  r2 : U.cell? ⟨w.heap.size + 1, 2, none⟩ = some v3
  size : w.heap.size + 1 < U.heap.size
theorem ChW.after {w U V : World} {v0 v1 v3 : Value} {a2 a4 a5 a6 a7 : Int} (h : ChW w v0 v1 v3 a2 a4 a5 a6 a7 U) (hb : Below U.heap.size U V) : ChW w v0 v1 v3 a2 a4 a5 a6 a7 V :=
  have hs := h.size
  have c : ∀ j, V.cell? ⟨w.heap.size + 1, j, none⟩ = U.cell? ⟨w.heap.size + 1, j, none⟩ := fun j => hb.cell (p := ⟨w.heap.size + 1, j, none⟩) hs
  ⟨h.below.trans (below_lower (by omega) hb), h.st.below hb (by omega), (c 0).trans h.r0, (c 1).trans h.r1, (c 2).trans h.r2, Nat.lt_of_lt_of_le hs hb.size⟩
theorem chW_new (w : World) (v0 v1 v3 : Value) (a2 a4 a5 a6 a7 : Int) (t u : TypeId) : ChW w v0 v1 v3 a2 a4 a5 a6 a7 ((w.alloc (.cells #[v0, v1, .int .i64 a2, v3, .int .i64 a4, .int .i64 a5, .int .i64 a6, .int .i64 a7] t)).alloc (.cells #[v0, v1, v3] u)) :=
  ⟨by go_grown, (StAt.new w v0 v1 v3 a2 a4 a5 a6 a7 t).below ((Below.refl _ _).alloc (Nat.le_refl _) _) (by simp), by simp [go_sem], by simp [go_sem], by simp [go_sem], by simp⟩

theorem check_len0 (A0 A1 A3 : Option Addr) (n0 n1 n3 : Nat) (z0 z1 z3 : List Int) (a2 a4 a5 a6 a7 : Int) (h : z0.length ≠ 128) (l0 : z0.length ≤ maxLen) (l1 : z1.length ≤ maxLen) (l3 : z3.length ≤ maxLen) (w : World) : Calls Try.prog 32 #[stV A0 A1 A3 n0 n1 n3 z0 z1 z3 a2 a4 a5 a6 a7] w (CheckIs w (checkV z0 z1 z3 a2 a4 a5 a6 a7)) := by
  have HV : Hid (checkV z0 z1 z3 a2 a4 a5 a6 a7 = (1, 0, 3)) := Lib.hid (by unfold checkV; rw [if_pos (by omega)])
  unfold maxLen at l0 l1 l3
  have e0 : ((z0.length : Int) != 128) = true := by simp; omega
  clear h
  go_enter Try.func32, Try.ntmps32
  go_wp2
  go_ret3
  exact ⟨by rw [HV.out]; rfl, by go_grown⟩
theorem check_len1 (A0 A1 A3 : Option Addr) (n0 n1 n3 : Nat) (z0 z1 z3 : List Int) (a2 a4 a5 a6 a7 : Int) (h : z0.length = 128 ∧ 200 < z1.length) (l0 : z0.length ≤ maxLen) (l1 : z1.length ≤ maxLen) (l3 : z3.length ≤ maxLen) (w : World) : Calls Try.prog 32 #[stV A0 A1 A3 n0 n1 n3 z0 z1 z3 a2 a4 a5 a6 a7] w (CheckIs w (checkV z0 z1 z3 a2 a4 a5 a6 a7)) := by
  have HV : Hid (checkV z0 z1 z3 a2 a4 a5 a6 a7 = (1, 0, 3)) := Lib.hid (by unfold checkV; rw [if_pos (by omega)])
  unfold maxLen at l0 l1 l3
  have e0 : ((z0.length : Int) != 128) = false := by simp; omega
  have e1 : (200 : Int) < z1.length := by omega
  clear h
  go_enter Try.func32, Try.ntmps32
  go_wp2
  go_ret3
  exact ⟨by rw [HV.out]; rfl, by go_grown⟩
theorem check_len2 (A0 A1 A3 : Option Addr) (n0 n1 n3 : Nat) (z0 z1 z3 : List Int) (a2 a4 a5 a6 a7 : Int) (h : z0.length = 128 ∧ z1.length ≤ 200 ∧ 200 < z3.length) (l0 : z0.length ≤ maxLen) (l1 : z1.length ≤ maxLen) (l3 : z3.length ≤ maxLen) (w : World) : Calls Try.prog 32 #[stV A0 A1 A3 n0 n1 n3 z0 z1 z3 a2 a4 a5 a6 a7] w (CheckIs w (checkV z0 z1 z3 a2 a4 a5 a6 a7)) := by
  have HV : Hid (checkV z0 z1 z3 a2 a4 a5 a6 a7 = (1, 0, 3)) := Lib.hid (by unfold checkV; rw [if_pos (by omega)])
  unfold maxLen at l0 l1 l3
  have e0 : ((z0.length : Int) != 128) = false := by simp; omega
  have e1 : ¬ (200 : Int) < z1.length := by omega
  have e3 : (200 : Int) < z3.length := by omega
  clear h
  go_enter Try.func32, Try.ntmps32
  go_wp2
  go_ret3
  exact ⟨by rw [HV.out]; rfl, by go_grown⟩
theorem not_not {p : Prop} : ¬ ¬ p ↔ p := Classical.not_not

set_option maxRecDepth 100000 in
set_option maxHeartbeats 4000000 in
theorem check_lens (A0 A1 A3 : Option Addr) (n0 n1 n3 : Nat) (z0 z1 z3 : List Int) (a2 a4 a5 a6 a7 : Int) (h0 : z0.length = 128) (h1 : z1.length ≤ 200) (h3 : z3.length ≤ 200) (w : World) (i0 : IntsAt w w.heap.size A0 z0) (i1 : IntsAt w w.heap.size A1 z1) (i3 : IntsAt w w.heap.size A3 z3) : Calls Try.prog 32 #[stV A0 A1 A3 n0 n1 n3 z0 z1 z3 a2 a4 a5 a6 a7] w (CheckIs w (checkV z0 z1 z3 a2 a4 a5 a6 a7)) := by
  have e0 : ((z0.length : Int) != 128) = false := by simp; omega
  have e1 : ¬ (200 : Int) < z1.length := by omega
  have e3 : ¬ (200 : Int) < z3.length := by omega
  have m0 : z0.length ≤ maxLen := by unfold maxLen; omega
  have m1 : z1.length ≤ maxLen := by unfold maxLen; omega
  have m3 : z3.length ≤ maxLen := by unfold maxLen; omega
  have HH := Lib.hid h0
  go_enter Try.func32, Try.ntmps32
  clear h0
  go_wp2
  have P0 := chW_new w (.slice A0 z0.length n0) (.slice A1 z1.length n1) (.slice A3 z3.length n3) a2 a4 a5 a6 a7 24 22
  generalize ((w.alloc _).alloc _) = U at *
  go_loopw [34] (fun i wr => ∃ k : Nat, k ≤ 3 ∧ i = .int .i64 k ∧ Hid (1 ≤ k → oddI z0 = -1) ∧ Hid (2 ≤ k → oddI z1 = -1) ∧ Hid (3 ≤ k → oddI z3 = -1) ∧ ChW w (.slice A0 z0.length n0) (.slice A1 z1.length n1) (.slice A3 z3.length n3) a2 a4 a5 a6 a7 wr) (fun i _ => 3 - (intOf i).toNat)
  case atStart => exact ⟨0, by omega, rfl, Lib.hid (fun h => by omega), Lib.hid (fun h => by omega), Lib.hid (fun h => by omega), P0⟩
  case round =>
    clear P0
    obtain ⟨k, hk, rfl, H0, H1, H2, P⟩ := hrel
    obtain rfl | rfl | rfl | rfl : k = 0 ∨ k = 1 ∨ k = 2 ∨ k = 3 := by omega
    · simp only [Int.natCast_zero] at *
      have K := indexFunc_any A0 n0 z0 m0
      have hR := i0.below P.below
      have hsz := P.below.size
      obtain ⟨hb, ⟨c0, c1, c2, c3, c4, c5, c6, c7⟩, r0, r1, r2, hs⟩ := P
      by_cases ho : oddI z0 = -1
      · rw [ho] at K
        have K' := Lib.hid K
        have HO := Lib.hid ho
        clear K ho 
        go_wp2_with fail
        refine (K'.out _ (hR.more hsz)).mono ?_; rintro e w1 ⟨rfl, hb1⟩
        have Q := (ChW.mk hb ⟨c0, c1, c2, c3, c4, c5, c6, c7⟩ r0 r1 r2 hs).after hb1
        clear hb1 hb c0 c1 c2 c3 c4 c5 c6 c7 r0 r1 r2 hs hR
        go_wp2
        go_roundw
        case rel => exact ⟨1, by omega, by go_num, Lib.hid (fun _ => HO.out), Lib.hid (fun h => by omega), Lib.hid (fun h => by omega), Q⟩
        case measure => simp [intOf] <;> omega
      · have HV : Hid (checkV z0 z1 z3 a2 a4 a5 a6 a7 = (2, oddI z0, 7)) := Lib.hid (by unfold checkV; rw [if_neg (by have := HH.out; omega)]; rw [if_pos ho])
        have hne : (oddI z0 != -1) = true := by simpa using ho
        have K' := Lib.hid K
        clear K ho 
        go_wp2_with fail
        refine (K'.out _ (hR.more hsz)).mono ?_; rintro e w1 ⟨rfl, hb1⟩
        have hB := below_next hb hsz hb1
        clear hb1 hb c0 c1 c2 c3 c4 c5 c6 c7 r0 r1 r2 hs hR
        go_wp2
        go_ret3
        exact ⟨by rw [HV.out]; rfl, hB⟩
    · simp only [Int.natCast_one] at *
      have q0 := H0.out (by omega)
      have K := indexFunc_any A1 n1 z1 m1
      have hR := i1.below P.below
      have hsz := P.below.size
      obtain ⟨hb, ⟨c0, c1, c2, c3, c4, c5, c6, c7⟩, r0, r1, r2, hs⟩ := P
      by_cases ho : oddI z1 = -1
      · rw [ho] at K
        have K' := Lib.hid K
        have HO := Lib.hid ho
        clear K ho q0
        go_wp2_with fail
        refine (K'.out _ (hR.more hsz)).mono ?_; rintro e w1 ⟨rfl, hb1⟩
        have Q := (ChW.mk hb ⟨c0, c1, c2, c3, c4, c5, c6, c7⟩ r0 r1 r2 hs).after hb1
        clear hb1 hb c0 c1 c2 c3 c4 c5 c6 c7 r0 r1 r2 hs hR
        go_wp2
        go_roundw
        case rel => exact ⟨2, by omega, by go_num, Lib.hid (fun _ => H0.out (by omega)), Lib.hid (fun _ => HO.out), Lib.hid (fun h => by omega), Q⟩
        case measure => simp [intOf] <;> omega
      · have HV : Hid (checkV z0 z1 z3 a2 a4 a5 a6 a7 = (3, oddI z1, 7)) := Lib.hid (by unfold checkV; rw [if_neg (by have := HH.out; omega)]; rw [if_neg (not_not.2 q0)]; rw [if_pos ho])
        have hne : (oddI z1 != -1) = true := by simpa using ho
        have K' := Lib.hid K
        clear K ho q0
        go_wp2_with fail
        refine (K'.out _ (hR.more hsz)).mono ?_; rintro e w1 ⟨rfl, hb1⟩
        have hB := below_next hb hsz hb1
        clear hb1 hb c0 c1 c2 c3 c4 c5 c6 c7 r0 r1 r2 hs hR
        go_wp2
        go_ret3
        exact ⟨by rw [HV.out]; rfl, hB⟩
    · have hc2 : ((2 : Nat) : Int) = 2 := rfl
      rw [hc2]
      clear hc2
      have q0 := H0.out (by omega)
      have q1 := H1.out (by omega)
      have K := indexFunc_any A3 n3 z3 m3
      have hR := i3.below P.below
      have hsz := P.below.size
      obtain ⟨hb, ⟨c0, c1, c2, c3, c4, c5, c6, c7⟩, r0, r1, r2, hs⟩ := P
      by_cases ho : oddI z3 = -1
      · rw [ho] at K
        have K' := Lib.hid K
        have HO := Lib.hid ho
        clear K ho q0 q1
        go_wp2_with fail
        refine (K'.out _ (hR.more hsz)).mono ?_; rintro e w1 ⟨rfl, hb1⟩
        have Q := (ChW.mk hb ⟨c0, c1, c2, c3, c4, c5, c6, c7⟩ r0 r1 r2 hs).after hb1
        clear hb1 hb c0 c1 c2 c3 c4 c5 c6 c7 r0 r1 r2 hs hR
        go_wp2
        go_roundw
        case rel => exact ⟨3, by omega, by go_num, Lib.hid (fun _ => H0.out (by omega)), Lib.hid (fun _ => H1.out (by omega)), Lib.hid (fun _ => HO.out), Q⟩
        case measure => simp [intOf] <;> omega
      · have HV : Hid (checkV z0 z1 z3 a2 a4 a5 a6 a7 = (4, oddI z3, 7)) := Lib.hid (by unfold checkV; rw [if_neg (by have := HH.out; omega)]; rw [if_neg (not_not.2 q0)]; rw [if_neg (not_not.2 q1)]; rw [if_pos ho])
        have hne : (oddI z3 != -1) = true := by simpa using ho
        have K' := Lib.hid K
        clear K ho q0 q1
        go_wp2_with fail
        refine (K'.out _ (hR.more hsz)).mono ?_; rintro e w1 ⟨rfl, hb1⟩
        have hB := below_next hb hsz hb1
        clear hb1 hb c0 c1 c2 c3 c4 c5 c6 c7 r0 r1 r2 hs hR
        go_wp2
        go_ret3
        exact ⟨by rw [HV.out]; rfl, hB⟩
    · have hc2 : ((3 : Nat) : Int) = 3 := rfl
      rw [hc2]
      clear hc2
      have q0 := H0.out (by omega)
      have q1 := H1.out (by omega)
      have q2 := H2.out (by omega)
      clear H0 H1 H2
      obtain ⟨hb, ⟨c0, c1, c2, c3, c4, c5, c6, c7⟩, r0, r1, r2, hs⟩ := P
      clear r0 r1 r2
      have hsz := hb.size
      have hs0 : w.heap.size < wr.heap.size := by omega
      have hs1 : w.heap.size < wr.heap.size + 1 := by omega
      have hs2 : w.heap.size < wr.heap.size + 1 + 1 := by omega
      have hs3 : w.heap.size < wr.heap.size + 1 + 1 + 1 := by omega
      have hs4 : w.heap.size < wr.heap.size + 1 + 1 + 1 + 1 := by omega
      clear hs
      by_cases g0 : 0 ≤ a2 ∧ a2 ≤ (z1.length : Int)
      rotate_left
      · have HV : Hid (checkV z0 z1 z3 a2 a4 a5 a6 a7 = (5, 0, 7)) := Lib.hid (by unfold checkV; rw [if_neg (by have := HH.out; omega)]; rw [if_neg (not_not.2 q0)]; rw [if_neg (not_not.2 q1)]; rw [if_neg (not_not.2 q2)]; rw [if_pos (by simp only [inB, Bool.and_eq_true, decide_eq_true_eq]; omega)])
        have K0 := within_1 ((z1.length : Int)) a2
        rw [inB_f g0] at K0
        have L0 := Lib.hid K0
        clear K0
        clear q0 q1 q2 g0
        go_wp2_with fail
        refine (L0.out _ _ _ _ (by simp [go_sem])).mono ?_; rintro e w' ⟨rfl, rfl⟩
        go_wp2
        go_ret3
        exact ⟨by rw [HV.out]; rfl, by go_grown⟩
      by_cases g1 : 0 ≤ a4 ∧ a4 ≤ 1000000000
      rotate_left
      · have HV : Hid (checkV z0 z1 z3 a2 a4 a5 a6 a7 = (5, 0, 7)) := Lib.hid (by unfold checkV; rw [if_neg (by have := HH.out; omega)]; rw [if_neg (not_not.2 q0)]; rw [if_neg (not_not.2 q1)]; rw [if_neg (not_not.2 q2)]; rw [if_pos (by simp only [inB, Bool.and_eq_true, decide_eq_true_eq]; omega)])
        have K0 := within_1 ((z1.length : Int)) a2
        rw [inB_t g0] at K0
        have L0 := Lib.hid K0
        clear K0
        have K1 := within_1 (1000000000) a4
        rw [inB_f g1] at K1
        have L1 := Lib.hid K1
        clear K1
        clear q0 q1 q2 g0 g1
        go_wp2_with fail
        refine (L0.out _ _ _ _ (by simp [go_sem])).mono ?_; rintro e w' ⟨rfl, rfl⟩
        go_wp2_with fail
        refine (L1.out _ _ _ _ (by simp [go_sem])).mono ?_; rintro e w' ⟨rfl, rfl⟩
        go_wp2
        go_ret3
        exact ⟨by rw [HV.out]; rfl, by go_grown⟩
      by_cases g2 : 0 ≤ a5 ∧ a5 ≤ 127
      rotate_left
      · have HV : Hid (checkV z0 z1 z3 a2 a4 a5 a6 a7 = (5, 0, 7)) := Lib.hid (by unfold checkV; rw [if_neg (by have := HH.out; omega)]; rw [if_neg (not_not.2 q0)]; rw [if_neg (not_not.2 q1)]; rw [if_neg (not_not.2 q2)]; rw [if_pos (by simp only [inB, Bool.and_eq_true, decide_eq_true_eq]; omega)])
        have K0 := within_1 ((z1.length : Int)) a2
        rw [inB_t g0] at K0
        have L0 := Lib.hid K0
        clear K0
        have K1 := within_1 (1000000000) a4
        rw [inB_t g1] at K1
        have L1 := Lib.hid K1
        clear K1
        have K2 := areAddr_1 a5
        rw [inB_f g2] at K2
        have L2 := Lib.hid K2
        clear K2
        clear q0 q1 q2 g0 g1 g2
        go_wp2_with fail
        refine (L0.out _ _ _ _ (by simp [go_sem])).mono ?_; rintro e w' ⟨rfl, rfl⟩
        go_wp2_with fail
        refine (L1.out _ _ _ _ (by simp [go_sem])).mono ?_; rintro e w' ⟨rfl, rfl⟩
        go_wp2_with fail
        refine (L2.out _ _ _ _ (by simp [go_sem])).mono ?_; rintro e w' ⟨rfl, rfl⟩
        go_wp2
        go_ret3
        exact ⟨by rw [HV.out]; rfl, by go_grown⟩
      by_cases g3 : 0 ≤ a6 ∧ a6 ≤ a4
      rotate_left
      · have HV : Hid (checkV z0 z1 z3 a2 a4 a5 a6 a7 = (5, 0, 7)) := Lib.hid (by unfold checkV; rw [if_neg (by have := HH.out; omega)]; rw [if_neg (not_not.2 q0)]; rw [if_neg (not_not.2 q1)]; rw [if_neg (not_not.2 q2)]; rw [if_pos (by simp only [inB, Bool.and_eq_true, decide_eq_true_eq]; omega)])
        have K0 := within_1 ((z1.length : Int)) a2
        rw [inB_t g0] at K0
        have L0 := Lib.hid K0
        clear K0
        have K1 := within_1 (1000000000) a4
        rw [inB_t g1] at K1
        have L1 := Lib.hid K1
        clear K1
        have K2 := areAddr_1 a5
        rw [inB_t g2] at K2
        have L2 := Lib.hid K2
        clear K2
        have K3 := within_1 (a4) a6
        rw [inB_f g3] at K3
        have L3 := Lib.hid K3
        clear K3
        clear q0 q1 q2 g0 g1 g2 g3
        go_wp2_with fail
        refine (L0.out _ _ _ _ (by simp [go_sem])).mono ?_; rintro e w' ⟨rfl, rfl⟩
        go_wp2_with fail
        refine (L1.out _ _ _ _ (by simp [go_sem])).mono ?_; rintro e w' ⟨rfl, rfl⟩
        go_wp2_with fail
        refine (L2.out _ _ _ _ (by simp [go_sem])).mono ?_; rintro e w' ⟨rfl, rfl⟩
        go_wp2_with fail
        refine (L3.out _ _ _ _ (by simp [go_sem])).mono ?_; rintro e w' ⟨rfl, rfl⟩
        go_wp2
        go_ret3
        exact ⟨by rw [HV.out]; rfl, by go_grown⟩
      by_cases g4 : 0 ≤ a7 ∧ a7 ≤ 4
      rotate_left
      · have HV : Hid (checkV z0 z1 z3 a2 a4 a5 a6 a7 = (5, 0, 7)) := Lib.hid (by unfold checkV; rw [if_neg (by have := HH.out; omega)]; rw [if_neg (not_not.2 q0)]; rw [if_neg (not_not.2 q1)]; rw [if_neg (not_not.2 q2)]; rw [if_pos (by simp only [inB, Bool.and_eq_true, decide_eq_true_eq]; omega)])
        have K0 := within_1 ((z1.length : Int)) a2
        rw [inB_t g0] at K0
        have L0 := Lib.hid K0
        clear K0
        have K1 := within_1 (1000000000) a4
        rw [inB_t g1] at K1
        have L1 := Lib.hid K1
        clear K1
        have K2 := areAddr_1 a5
        rw [inB_t g2] at K2
        have L2 := Lib.hid K2
        clear K2
        have K3 := within_1 (a4) a6
        rw [inB_t g3] at K3
        have L3 := Lib.hid K3
        clear K3
        have K4 := within_1 (4) a7
        rw [inB_f g4] at K4
        have L4 := Lib.hid K4
        clear K4
        clear q0 q1 q2 g0 g1 g2 g3 g4
        go_wp2_with fail
        refine (L0.out _ _ _ _ (by simp [go_sem])).mono ?_; rintro e w' ⟨rfl, rfl⟩
        go_wp2_with fail
        refine (L1.out _ _ _ _ (by simp [go_sem])).mono ?_; rintro e w' ⟨rfl, rfl⟩
        go_wp2_with fail
        refine (L2.out _ _ _ _ (by simp [go_sem])).mono ?_; rintro e w' ⟨rfl, rfl⟩
        go_wp2_with fail
        refine (L3.out _ _ _ _ (by simp [go_sem])).mono ?_; rintro e w' ⟨rfl, rfl⟩
        go_wp2_with fail
        refine (L4.out _ _ _ _ (by simp [go_sem])).mono ?_; rintro e w' ⟨rfl, rfl⟩
        go_wp2
        go_ret3
        exact ⟨by rw [HV.out]; rfl, by go_grown⟩
      by_cases g5 : a4 % 16 = a5 % 16
      rotate_left
      · have HV : Hid (checkV z0 z1 z3 a2 a4 a5 a6 a7 = (6, 0, 2)) := Lib.hid (by unfold checkV; rw [if_neg (by have := HH.out; omega)]; rw [if_neg (not_not.2 q0)]; rw [if_neg (not_not.2 q1)]; rw [if_neg (not_not.2 q2)]; rw [if_neg (by simp only [inB, Bool.and_eq_true, decide_eq_true_eq]; omega)]; rw [if_pos g5])
        have ht : (a4 % 16 != a5 % 16) = true := by simpa using g5
        have K0 := within_1 ((z1.length : Int)) a2
        rw [inB_t g0] at K0
        have L0 := Lib.hid K0
        clear K0
        have K1 := within_1 (1000000000) a4
        rw [inB_t g1] at K1
        have L1 := Lib.hid K1
        clear K1
        have K2 := areAddr_1 a5
        rw [inB_t g2] at K2
        have L2 := Lib.hid K2
        clear K2
        have K3 := within_1 (a4) a6
        rw [inB_t g3] at K3
        have L3 := Lib.hid K3
        clear K3
        have K4 := within_1 (4) a7
        rw [inB_t g4] at K4
        have L4 := Lib.hid K4
        clear K4
        clear q0 q1 q2 g0 g1 g2 g3 g4 g5
        go_wp2_with fail
        refine (L0.out _ _ _ _ (by simp [go_sem])).mono ?_; rintro e w' ⟨rfl, rfl⟩
        go_wp2_with fail
        refine (L1.out _ _ _ _ (by simp [go_sem])).mono ?_; rintro e w' ⟨rfl, rfl⟩
        go_wp2_with fail
        refine (L2.out _ _ _ _ (by simp [go_sem])).mono ?_; rintro e w' ⟨rfl, rfl⟩
        go_wp2_with fail
        refine (L3.out _ _ _ _ (by simp [go_sem])).mono ?_; rintro e w' ⟨rfl, rfl⟩
        go_wp2_with fail
        refine (L4.out _ _ _ _ (by simp [go_sem])).mono ?_; rintro e w' ⟨rfl, rfl⟩
        clear L0 L1 L2 L3 L4
        go_wp2_with fail
        go_quiet (first | (go_at_call 43; exact Calls.quiet_of_same (placeOf_any a4 _)) | (go_at_call 43; exact Calls.quiet_of_same (placeOf_any a5 _)))
        go_wp2
        go_ret3
        refine ⟨by rw [HV.out]; rfl, below_drewN ?_⟩
        go_grown
      · have HV : Hid (checkV z0 z1 z3 a2 a4 a5 a6 a7 = (0, 0, 0)) := Lib.hid (by unfold checkV; rw [if_neg (by have := HH.out; omega)]; rw [if_neg (not_not.2 q0)]; rw [if_neg (not_not.2 q1)]; rw [if_neg (not_not.2 q2)]; rw [if_neg (by simp only [inB, Bool.and_eq_true, decide_eq_true_eq]; omega)]; rw [if_neg (not_not.2 g5)])
        have ht : (a4 % 16 != a5 % 16) = false := by simpa using g5
        have K0 := within_1 ((z1.length : Int)) a2
        rw [inB_t g0] at K0
        have L0 := Lib.hid K0
        clear K0
        have K1 := within_1 (1000000000) a4
        rw [inB_t g1] at K1
        have L1 := Lib.hid K1
        clear K1
        have K2 := areAddr_1 a5
        rw [inB_t g2] at K2
        have L2 := Lib.hid K2
        clear K2
        have K3 := within_1 (a4) a6
        rw [inB_t g3] at K3
        have L3 := Lib.hid K3
        clear K3
        have K4 := within_1 (4) a7
        rw [inB_t g4] at K4
        have L4 := Lib.hid K4
        clear K4
        clear q0 q1 q2 g0 g1 g2 g3 g4 g5
        go_wp2_with fail
        refine (L0.out _ _ _ _ (by simp [go_sem])).mono ?_; rintro e w' ⟨rfl, rfl⟩
        go_wp2_with fail
        refine (L1.out _ _ _ _ (by simp [go_sem])).mono ?_; rintro e w' ⟨rfl, rfl⟩
        go_wp2_with fail
        refine (L2.out _ _ _ _ (by simp [go_sem])).mono ?_; rintro e w' ⟨rfl, rfl⟩
        go_wp2_with fail
        refine (L3.out _ _ _ _ (by simp [go_sem])).mono ?_; rintro e w' ⟨rfl, rfl⟩
        go_wp2_with fail
        refine (L4.out _ _ _ _ (by simp [go_sem])).mono ?_; rintro e w' ⟨rfl, rfl⟩
        clear L0 L1 L2 L3 L4
        go_wp2_with fail
        go_quiet (first | (go_at_call 43; exact Calls.quiet_of_same (placeOf_any a4 _)) | (go_at_call 43; exact Calls.quiet_of_same (placeOf_any a5 _)))
        go_wp2
        go_ret3
        refine ⟨by rw [HV.out]; rfl, below_drewN ?_⟩
        go_grown

theorem check_any (A0 A1 A3 : Option Addr) (n0 n1 n3 : Nat) (z0 z1 z3 : List Int) (a2 a4 a5 a6 a7 : Int) (l0 : z0.length ≤ maxLen) (l1 : z1.length ≤ maxLen) (l3 : z3.length ≤ maxLen) (w : World) (i0 : IntsAt w w.heap.size A0 z0) (i1 : IntsAt w w.heap.size A1 z1) (i3 : IntsAt w w.heap.size A3 z3) : Calls Try.prog 32 #[stV A0 A1 A3 n0 n1 n3 z0 z1 z3 a2 a4 a5 a6 a7] w (CheckIs w (checkV z0 z1 z3 a2 a4 a5 a6 a7)) := by
  by_cases h0 : z0.length = 128
  · by_cases h1 : z1.length ≤ 200
    · by_cases h3 : z3.length ≤ 200
      · exact check_lens A0 A1 A3 n0 n1 n3 z0 z1 z3 a2 a4 a5 a6 a7 h0 h1 h3 w i0 i1 i3
      · exact check_len2 A0 A1 A3 n0 n1 n3 z0 z1 z3 a2 a4 a5 a6 a7 ⟨h0, h1, by omega⟩ l0 l1 l3 w
    · exact check_len1 A0 A1 A3 n0 n1 n3 z0 z1 z3 a2 a4 a5 a6 a7 ⟨h0, by omega⟩ l0 l1 l3 w
  · exact check_len0 A0 A1 A3 n0 n1 n3 z0 z1 z3 a2 a4 a5 a6 a7 h0 l0 l1 l3 w
end Go.Proofs.Ytmkcijecncdhpaa
