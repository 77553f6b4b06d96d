/-
  CONTRACT OF Check of the reference. No statement is proved here.
-/
import Derived.Test.YtmkcijecncdhpaaOw12
namespace Go.Proofs.Ytmkcijecncdhpaa
open Go.RowKit
set_option linter.unusedVariables false
set_option linter.unusedSimpArgs false

theorem rin0 (g x : Int) (w : World) : Calls Try.prog 56 #[.int .i64 x, .int .i64 0, .int .i64 g] w fun e w' => e = .returned (.bool (inB g x)) ∧ w' = w := rin_any x 0 g w

theorem rcheck_len0 (A0 A1 A3 : Option Addr) (n0 n1 n3 : Nat) (z0 z1 z3 : List Int) (a2 a4 a5 a6 a7 : Int) (h : z0.length ≠ 128) (l0 : z0.length ≤ maxLen) (l1 : z1.length ≤ maxLen) (l3 : z3.length ≤ maxLen) (w : World) : Calls Try.prog 33 #[stV A0 A1 A3 n0 n1 n3 z0 z1 z3 a2 a4 a5 a6 a7] w (CheckIs w (checkV z0 z1 z3 a2 a4 a5 a6 a7)) := by
  have HV : Hid (checkV z0 z1 z3 a2 a4 a5 a6 a7 = (1, 0, 3)) := Lib.hid (by unfold checkV; rw [if_pos (by omega)])
  unfold maxLen at l0 l1 l3
  have e0 : ((z0.length : Int) != 128) = true := by simp; omega
  clear h
  go_enter Try.func33, Try.ntmps33
  go_wp2
  go_ret3
  exact ⟨by rw [HV.out]; rfl, by go_grown⟩
theorem rcheck_len1 (A0 A1 A3 : Option Addr) (n0 n1 n3 : Nat) (z0 z1 z3 : List Int) (a2 a4 a5 a6 a7 : Int) (h : z0.length = 128 ∧ 200 < z1.length) (l0 : z0.length ≤ maxLen) (l1 : z1.length ≤ maxLen) (l3 : z3.length ≤ maxLen) (w : World) : Calls Try.prog 33 #[stV A0 A1 A3 n0 n1 n3 z0 z1 z3 a2 a4 a5 a6 a7] w (CheckIs w (checkV z0 z1 z3 a2 a4 a5 a6 a7)) := by
  have HV : Hid (checkV z0 z1 z3 a2 a4 a5 a6 a7 = (1, 0, 3)) := Lib.hid (by unfold checkV; rw [if_pos (by omega)])
  unfold maxLen at l0 l1 l3
  have e0 : ((z0.length : Int) != 128) = false := by simp; omega
  have e1 : (200 : Int) < z1.length := by omega
  clear h
  go_enter Try.func33, Try.ntmps33
  go_wp2
  go_ret3
  exact ⟨by rw [HV.out]; rfl, by go_grown⟩
theorem rcheck_len2 (A0 A1 A3 : Option Addr) (n0 n1 n3 : Nat) (z0 z1 z3 : List Int) (a2 a4 a5 a6 a7 : Int) (h : z0.length = 128 ∧ z1.length ≤ 200 ∧ 200 < z3.length) (l0 : z0.length ≤ maxLen) (l1 : z1.length ≤ maxLen) (l3 : z3.length ≤ maxLen) (w : World) : Calls Try.prog 33 #[stV A0 A1 A3 n0 n1 n3 z0 z1 z3 a2 a4 a5 a6 a7] w (CheckIs w (checkV z0 z1 z3 a2 a4 a5 a6 a7)) := by
  have HV : Hid (checkV z0 z1 z3 a2 a4 a5 a6 a7 = (1, 0, 3)) := Lib.hid (by unfold checkV; rw [if_pos (by omega)])
  unfold maxLen at l0 l1 l3
  have e0 : ((z0.length : Int) != 128) = false := by simp; omega
  have e1 : ¬ (200 : Int) < z1.length := by omega
  have e3 : (200 : Int) < z3.length := by omega
  clear h
  go_enter Try.func33, Try.ntmps33
  go_wp2
  go_ret3
  exact ⟨by rw [HV.out]; rfl, by go_grown⟩
theorem oddI_pos : ∀ {zs : List Int}, oddI zs ≠ -1 → 0 ≤ oddI zs := by
  intro zs
  have key : ∀ (l : List Int) (i : Int), 0 ≤ i → oddF l i ≠ -1 → 0 ≤ oddF l i := by
    intro l
    induction l with
    | nil => intro i _ h; exact absurd rfl h
    | cons z r ih =>
      intro i hi h
      rw [oddF_cons] at h ⊢
      split at h
      · rename_i hz
        rw [if_pos hz]
        exact ih (i + 1) (by omega) h
      · rename_i hz
        rw [if_neg hz]
        exact hi
  exact key zs 0 (by omega)
set_option maxRecDepth 100000 in
set_option maxHeartbeats 4000000 in
theorem rcheck_lens (A0 A1 A3 : Option Addr) (n0 n1 n3 : Nat) (z0 z1 z3 : List Int) (a2 a4 a5 a6 a7 : Int) (h0 : z0.length = 128) (h1 : z1.length ≤ 200) (h3 : z3.length ≤ 200) (w : World) (i0 : IntsAt w w.heap.size A0 z0) (i1 : IntsAt w w.heap.size A1 z1) (i3 : IntsAt w w.heap.size A3 z3) : Calls Try.prog 33 #[stV A0 A1 A3 n0 n1 n3 z0 z1 z3 a2 a4 a5 a6 a7] w (CheckIs w (checkV z0 z1 z3 a2 a4 a5 a6 a7)) := by
  have e0 : ((z0.length : Int) != 128) = false := by simp; omega
  have e1 : ¬ (200 : Int) < z1.length := by omega
  have e3 : ¬ (200 : Int) < z3.length := by omega
  have m0 : z0.length ≤ maxLen := by unfold maxLen; omega
  have m1 : z1.length ≤ maxLen := by unfold maxLen; omega
  have m3 : z3.length ≤ maxLen := by unfold maxLen; omega
  have HH := Lib.hid h0
  go_enter Try.func33, Try.ntmps33
  clear h0
  go_wp2
  have P := chW_new w (.slice A0 z0.length n0) (.slice A1 z1.length n1) (.slice A3 z3.length n3) a2 a4 a5 a6 a7 24 22
  generalize ((w.alloc _).alloc _) = U at *
  go_loop [6] (fun i => ∃ k : Nat, k ≤ 3 ∧ i = .int .i64 k ∧ Hid (1 ≤ k → oddI z0 = -1) ∧ Hid (2 ≤ k → oddI z1 = -1) ∧ Hid (3 ≤ k → oddI z3 = -1)) (fun i => 3 - (intOf i).toNat)
  case atStart => exact ⟨0, by omega, rfl, Lib.hid (fun h => by omega), Lib.hid (fun h => by omega), Lib.hid (fun h => by omega)⟩
  case round =>
    obtain ⟨k, hk, rfl, H0, H1, H2⟩ := hrel
    obtain rfl | rfl | rfl | rfl : k = 0 ∨ k = 1 ∨ k = 2 ∨ k = 3 := by omega
    · simp only [Int.natCast_zero] at *
      have K := rodd_any A0 n0 z0 m0 w.heap.size _ (i0.below P.below)
      have Q := P
      obtain ⟨hb, ⟨c0, c1, c2, c3, c4, c5, c6, c7⟩, r0, r1, r2, hs⟩ := P
      by_cases ho : oddI z0 = -1
      · rw [ho] at K
        have K' := Lib.hid K
        have HO := Lib.hid ho
        clear K ho 
        go_wp2_with fail
        refine K'.out.mono ?_; rintro e w1 ⟨rfl, rfl⟩
        clear hb c0 c1 c2 c3 c4 c5 c6 c7 r0 r1 r2 hs
        go_wp2
        go_round
        case rel => exact ⟨1, by omega, by go_num, Lib.hid (fun _ => HO.out), Lib.hid (fun h => by omega), Lib.hid (fun h => by omega)⟩
        case measure => simp [intOf] <;> omega
      · have HV : Hid (checkV z0 z1 z3 a2 a4 a5 a6 a7 = (2, oddI z0, 7)) := Lib.hid (by unfold checkV; rw [if_neg (by have := HH.out; omega)]; rw [if_pos ho])
        have hne : 0 ≤ oddI z0 := oddI_pos ho
        have K' := Lib.hid K
        clear K ho 
        go_wp2_with fail
        refine K'.out.mono ?_; rintro e w1 ⟨rfl, rfl⟩
        clear c0 c1 c2 c3 c4 c5 c6 c7 r0 r1 r2 hs
        go_wp2
        go_ret3
        exact ⟨by rw [HV.out]; rfl, hb⟩
    · simp only [Int.natCast_one] at *
      have q0 := H0.out (by omega)
      have K := rodd_any A1 n1 z1 m1 w.heap.size _ (i1.below P.below)
      have Q := P
      obtain ⟨hb, ⟨c0, c1, c2, c3, c4, c5, c6, c7⟩, r0, r1, r2, hs⟩ := P
      by_cases ho : oddI z1 = -1
      · rw [ho] at K
        have K' := Lib.hid K
        have HO := Lib.hid ho
        clear K ho q0
        go_wp2_with fail
        refine K'.out.mono ?_; rintro e w1 ⟨rfl, rfl⟩
        clear hb c0 c1 c2 c3 c4 c5 c6 c7 r0 r1 r2 hs
        go_wp2
        go_round
        case rel => exact ⟨2, by omega, by go_num, Lib.hid (fun _ => H0.out (by omega)), Lib.hid (fun _ => HO.out), Lib.hid (fun h => by omega)⟩
        case measure => simp [intOf] <;> omega
      · have HV : Hid (checkV z0 z1 z3 a2 a4 a5 a6 a7 = (3, oddI z1, 7)) := Lib.hid (by unfold checkV; rw [if_neg (by have := HH.out; omega)]; rw [if_neg (not_not.2 q0)]; rw [if_pos ho])
        have hne : 0 ≤ oddI z1 := oddI_pos ho
        have K' := Lib.hid K
        clear K ho q0
        go_wp2_with fail
        refine K'.out.mono ?_; rintro e w1 ⟨rfl, rfl⟩
        clear c0 c1 c2 c3 c4 c5 c6 c7 r0 r1 r2 hs
        go_wp2
        go_ret3
        exact ⟨by rw [HV.out]; rfl, hb⟩
    · have hc2 : ((2 : Nat) : Int) = 2 := rfl
      rw [hc2]
      clear hc2
      have q0 := H0.out (by omega)
      have q1 := H1.out (by omega)
      have K := rodd_any A3 n3 z3 m3 w.heap.size _ (i3.below P.below)
      have Q := P
      obtain ⟨hb, ⟨c0, c1, c2, c3, c4, c5, c6, c7⟩, r0, r1, r2, hs⟩ := P
      by_cases ho : oddI z3 = -1
      · rw [ho] at K
        have K' := Lib.hid K
        have HO := Lib.hid ho
        clear K ho q0 q1
        go_wp2_with fail
        refine K'.out.mono ?_; rintro e w1 ⟨rfl, rfl⟩
        clear hb c0 c1 c2 c3 c4 c5 c6 c7 r0 r1 r2 hs
        go_wp2
        go_round
        case rel => exact ⟨3, by omega, by go_num, Lib.hid (fun _ => H0.out (by omega)), Lib.hid (fun _ => H1.out (by omega)), Lib.hid (fun _ => HO.out)⟩
        case measure => simp [intOf] <;> omega
      · have HV : Hid (checkV z0 z1 z3 a2 a4 a5 a6 a7 = (4, oddI z3, 7)) := Lib.hid (by unfold checkV; rw [if_neg (by have := HH.out; omega)]; rw [if_neg (not_not.2 q0)]; rw [if_neg (not_not.2 q1)]; rw [if_pos ho])
        have hne : 0 ≤ oddI z3 := oddI_pos ho
        have K' := Lib.hid K
        clear K ho q0 q1
        go_wp2_with fail
        refine K'.out.mono ?_; rintro e w1 ⟨rfl, rfl⟩
        clear c0 c1 c2 c3 c4 c5 c6 c7 r0 r1 r2 hs
        go_wp2
        go_ret3
        exact ⟨by rw [HV.out]; rfl, hb⟩
    · have hc2 : ((3 : Nat) : Int) = 3 := rfl
      rw [hc2]
      clear hc2
      have q0 := H0.out (by omega)
      have q1 := H1.out (by omega)
      have q2 := H2.out (by omega)
      clear H0 H1 H2
      obtain ⟨hb, ⟨c0, c1, c2, c3, c4, c5, c6, c7⟩, r0, r1, r2, hs⟩ := P
      clear r0 r1 r2 hs
      by_cases g0 : 0 ≤ a2 ∧ a2 ≤ (z1.length : Int)
      rotate_left
      · have HV : Hid (checkV z0 z1 z3 a2 a4 a5 a6 a7 = (5, 0, 7)) := Lib.hid (by unfold checkV; rw [if_neg (by have := HH.out; omega)]; rw [if_neg (not_not.2 q0)]; rw [if_neg (not_not.2 q1)]; rw [if_neg (not_not.2 q2)]; rw [if_pos (by simp only [inB, Bool.and_eq_true, decide_eq_true_eq]; omega)])
        have K0 := rin0 ((z1.length : Int)) a2
        rw [inB_f g0] at K0
        have L0 := Lib.hid K0
        clear K0
        clear q0 q1 q2 g0
        go_wp2_with fail
        refine (L0.out _).mono ?_; rintro e w' ⟨rfl, rfl⟩
        go_wp2
        go_ret3
        exact ⟨by rw [HV.out]; rfl, hb⟩
      by_cases g1 : 0 ≤ a4 ∧ a4 ≤ 1000000000
      rotate_left
      · have HV : Hid (checkV z0 z1 z3 a2 a4 a5 a6 a7 = (5, 0, 7)) := Lib.hid (by unfold checkV; rw [if_neg (by have := HH.out; omega)]; rw [if_neg (not_not.2 q0)]; rw [if_neg (not_not.2 q1)]; rw [if_neg (not_not.2 q2)]; rw [if_pos (by simp only [inB, Bool.and_eq_true, decide_eq_true_eq]; omega)])
        have K0 := rin0 ((z1.length : Int)) a2
        rw [inB_t g0] at K0
        have L0 := Lib.hid K0
        clear K0
        have K1 := rin0 (1000000000) a4
        rw [inB_f g1] at K1
        have L1 := Lib.hid K1
        clear K1
        clear q0 q1 q2 g0 g1
        go_wp2_with fail
        refine (L0.out _).mono ?_; rintro e w' ⟨rfl, rfl⟩
        go_wp2_with fail
        refine (L1.out _).mono ?_; rintro e w' ⟨rfl, rfl⟩
        go_wp2
        go_ret3
        exact ⟨by rw [HV.out]; rfl, hb⟩
      by_cases g2 : 0 ≤ a5 ∧ a5 ≤ 127
      rotate_left
      · have HV : Hid (checkV z0 z1 z3 a2 a4 a5 a6 a7 = (5, 0, 7)) := Lib.hid (by unfold checkV; rw [if_neg (by have := HH.out; omega)]; rw [if_neg (not_not.2 q0)]; rw [if_neg (not_not.2 q1)]; rw [if_neg (not_not.2 q2)]; rw [if_pos (by simp only [inB, Bool.and_eq_true, decide_eq_true_eq]; omega)])
        have K0 := rin0 ((z1.length : Int)) a2
        rw [inB_t g0] at K0
        have L0 := Lib.hid K0
        clear K0
        have K1 := rin0 (1000000000) a4
        rw [inB_t g1] at K1
        have L1 := Lib.hid K1
        clear K1
        have K2 := raddr_any a5
        rw [inB_f g2] at K2
        have L2 := Lib.hid K2
        clear K2
        clear q0 q1 q2 g0 g1 g2
        go_wp2_with fail
        refine (L0.out _).mono ?_; rintro e w' ⟨rfl, rfl⟩
        go_wp2_with fail
        refine (L1.out _).mono ?_; rintro e w' ⟨rfl, rfl⟩
        go_wp2_with fail
        refine (L2.out _).mono ?_; rintro e w' ⟨rfl, rfl⟩
        go_wp2
        go_ret3
        exact ⟨by rw [HV.out]; rfl, hb⟩
      by_cases g3 : 0 ≤ a6 ∧ a6 ≤ a4
      rotate_left
      · have HV : Hid (checkV z0 z1 z3 a2 a4 a5 a6 a7 = (5, 0, 7)) := Lib.hid (by unfold checkV; rw [if_neg (by have := HH.out; omega)]; rw [if_neg (not_not.2 q0)]; rw [if_neg (not_not.2 q1)]; rw [if_neg (not_not.2 q2)]; rw [if_pos (by simp only [inB, Bool.and_eq_true, decide_eq_true_eq]; omega)])
        have K0 := rin0 ((z1.length : Int)) a2
        rw [inB_t g0] at K0
        have L0 := Lib.hid K0
        clear K0
        have K1 := rin0 (1000000000) a4
        rw [inB_t g1] at K1
        have L1 := Lib.hid K1
        clear K1
        have K2 := raddr_any a5
        rw [inB_t g2] at K2
        have L2 := Lib.hid K2
        clear K2
        have K3 := rin0 (a4) a6
        rw [inB_f g3] at K3
        have L3 := Lib.hid K3
        clear K3
        clear q0 q1 q2 g0 g1 g2 g3
        go_wp2_with fail
        refine (L0.out _).mono ?_; rintro e w' ⟨rfl, rfl⟩
        go_wp2_with fail
        refine (L1.out _).mono ?_; rintro e w' ⟨rfl, rfl⟩
        go_wp2_with fail
        refine (L2.out _).mono ?_; rintro e w' ⟨rfl, rfl⟩
        go_wp2_with fail
        refine (L3.out _).mono ?_; rintro e w' ⟨rfl, rfl⟩
        go_wp2
        go_ret3
        exact ⟨by rw [HV.out]; rfl, hb⟩
      by_cases g4 : 0 ≤ a7 ∧ a7 ≤ 4
      rotate_left
      · have HV : Hid (checkV z0 z1 z3 a2 a4 a5 a6 a7 = (5, 0, 7)) := Lib.hid (by unfold checkV; rw [if_neg (by have := HH.out; omega)]; rw [if_neg (not_not.2 q0)]; rw [if_neg (not_not.2 q1)]; rw [if_neg (not_not.2 q2)]; rw [if_pos (by simp only [inB, Bool.and_eq_true, decide_eq_true_eq]; omega)])
        have K0 := rin0 ((z1.length : Int)) a2
        rw [inB_t g0] at K0
        have L0 := Lib.hid K0
        clear K0
        have K1 := rin0 (1000000000) a4
        rw [inB_t g1] at K1
        have L1 := Lib.hid K1
        clear K1
        have K2 := raddr_any a5
        rw [inB_t g2] at K2
        have L2 := Lib.hid K2
        clear K2
        have K3 := rin0 (a4) a6
        rw [inB_t g3] at K3
        have L3 := Lib.hid K3
        clear K3
        have K4 := rin0 (4) a7
        rw [inB_f g4] at K4
        have L4 := Lib.hid K4
        clear K4
        clear q0 q1 q2 g0 g1 g2 g3 g4
        go_wp2_with fail
        refine (L0.out _).mono ?_; rintro e w' ⟨rfl, rfl⟩
        go_wp2_with fail
        refine (L1.out _).mono ?_; rintro e w' ⟨rfl, rfl⟩
        go_wp2_with fail
        refine (L2.out _).mono ?_; rintro e w' ⟨rfl, rfl⟩
        go_wp2_with fail
        refine (L3.out _).mono ?_; rintro e w' ⟨rfl, rfl⟩
        go_wp2_with fail
        refine (L4.out _).mono ?_; rintro e w' ⟨rfl, rfl⟩
        go_wp2
        go_ret3
        exact ⟨by rw [HV.out]; rfl, hb⟩
      by_cases g5 : a4 % 16 = a5 % 16
      rotate_left
      · have HV : Hid (checkV z0 z1 z3 a2 a4 a5 a6 a7 = (6, 0, 2)) := Lib.hid (by unfold checkV; rw [if_neg (by have := HH.out; omega)]; rw [if_neg (not_not.2 q0)]; rw [if_neg (not_not.2 q1)]; rw [if_neg (not_not.2 q2)]; rw [if_neg (by simp only [inB, Bool.and_eq_true, decide_eq_true_eq]; omega)]; rw [if_pos g5])
        have ht : (a4 % 16 != a5 % 16) = true := by simpa using g5
        have K0 := rin0 ((z1.length : Int)) a2
        rw [inB_t g0] at K0
        have L0 := Lib.hid K0
        clear K0
        have K1 := rin0 (1000000000) a4
        rw [inB_t g1] at K1
        have L1 := Lib.hid K1
        clear K1
        have K2 := raddr_any a5
        rw [inB_t g2] at K2
        have L2 := Lib.hid K2
        clear K2
        have K3 := rin0 (a4) a6
        rw [inB_t g3] at K3
        have L3 := Lib.hid K3
        clear K3
        have K4 := rin0 (4) a7
        rw [inB_t g4] at K4
        have L4 := Lib.hid K4
        clear K4
        have p4 := g1.1
        have p5 := g2.1
        clear q0 q1 q2 g0 g1 g2 g3 g4 g5
        go_wp2_with fail
        refine (L0.out _).mono ?_; rintro e w' ⟨rfl, rfl⟩
        go_wp2_with fail
        refine (L1.out _).mono ?_; rintro e w' ⟨rfl, rfl⟩
        go_wp2_with fail
        refine (L2.out _).mono ?_; rintro e w' ⟨rfl, rfl⟩
        go_wp2_with fail
        refine (L3.out _).mono ?_; rintro e w' ⟨rfl, rfl⟩
        go_wp2_with fail
        refine (L4.out _).mono ?_; rintro e w' ⟨rfl, rfl⟩
        clear L0 L1 L2 L3 L4
        go_wp2
        go_ret3
        exact ⟨by rw [HV.out]; rfl, hb⟩
      · have HV : Hid (checkV z0 z1 z3 a2 a4 a5 a6 a7 = (0, 0, 0)) := Lib.hid (by unfold checkV; rw [if_neg (by have := HH.out; omega)]; rw [if_neg (not_not.2 q0)]; rw [if_neg (not_not.2 q1)]; rw [if_neg (not_not.2 q2)]; rw [if_neg (by simp only [inB, Bool.and_eq_true, decide_eq_true_eq]; omega)]; rw [if_neg (not_not.2 g5)])
        have ht : (a4 % 16 != a5 % 16) = false := by simpa using g5
        have K0 := rin0 ((z1.length : Int)) a2
        rw [inB_t g0] at K0
        have L0 := Lib.hid K0
        clear K0
        have K1 := rin0 (1000000000) a4
        rw [inB_t g1] at K1
        have L1 := Lib.hid K1
        clear K1
        have K2 := raddr_any a5
        rw [inB_t g2] at K2
        have L2 := Lib.hid K2
        clear K2
        have K3 := rin0 (a4) a6
        rw [inB_t g3] at K3
        have L3 := Lib.hid K3
        clear K3
        have K4 := rin0 (4) a7
        rw [inB_t g4] at K4
        have L4 := Lib.hid K4
        clear K4
        have p4 := g1.1
        have p5 := g2.1
        clear q0 q1 q2 g0 g1 g2 g3 g4 g5
        go_wp2_with fail
        refine (L0.out _).mono ?_; rintro e w' ⟨rfl, rfl⟩
        go_wp2_with fail
        refine (L1.out _).mono ?_; rintro e w' ⟨rfl, rfl⟩
        go_wp2_with fail
        refine (L2.out _).mono ?_; rintro e w' ⟨rfl, rfl⟩
        go_wp2_with fail
        refine (L3.out _).mono ?_; rintro e w' ⟨rfl, rfl⟩
        go_wp2_with fail
        refine (L4.out _).mono ?_; rintro e w' ⟨rfl, rfl⟩
        clear L0 L1 L2 L3 L4
        go_wp2
        go_ret3
        exact ⟨by rw [HV.out]; rfl, hb⟩

theorem rcheck_any (A0 A1 A3 : Option Addr) (n0 n1 n3 : Nat) (z0 z1 z3 : List Int) (a2 a4 a5 a6 a7 : Int) (l0 : z0.length ≤ maxLen) (l1 : z1.length ≤ maxLen) (l3 : z3.length ≤ maxLen) (w : World) (i0 : IntsAt w w.heap.size A0 z0) (i1 : IntsAt w w.heap.size A1 z1) (i3 : IntsAt w w.heap.size A3 z3) : Calls Try.prog 33 #[stV A0 A1 A3 n0 n1 n3 z0 z1 z3 a2 a4 a5 a6 a7] w (CheckIs w (checkV z0 z1 z3 a2 a4 a5 a6 a7)) := by
  by_cases h0 : z0.length = 128
  · by_cases h1 : z1.length ≤ 200
    · by_cases h3 : z3.length ≤ 200
      · exact rcheck_lens A0 A1 A3 n0 n1 n3 z0 z1 z3 a2 a4 a5 a6 a7 h0 h1 h3 w i0 i1 i3
      · exact rcheck_len2 A0 A1 A3 n0 n1 n3 z0 z1 z3 a2 a4 a5 a6 a7 ⟨h0, h1, by omega⟩ l0 l1 l3 w
    · exact rcheck_len1 A0 A1 A3 n0 n1 n3 z0 z1 z3 a2 a4 a5 a6 a7 ⟨h0, by omega⟩ l0 l1 l3 w
  · exact rcheck_len0 A0 A1 A3 n0 n1 n3 z0 z1 z3 a2 a4 a5 a6 a7 h0 l0 l1 l3 w
end Go.Proofs.Ytmkcijecncdhpaa
