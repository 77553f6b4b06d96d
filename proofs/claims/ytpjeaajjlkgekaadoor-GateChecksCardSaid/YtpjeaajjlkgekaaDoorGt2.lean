/-
  CONTRACTS OF the error of a gate, of the program and of the reference. No statement is proved here.
-/
import Derived.Test.YtpjeaajjlkgekaaDoorGt1
namespace Go.Proofs.YtpjeaajjlkgekaaDoor
open Go.RowKit Gt
set_option linter.unusedVariables false
set_option linter.unusedSimpArgs false

theorem GateAt.below {w w' : World} {p : Addr} {g : G} {n : Nat} (h : GateAt w p g) (hb : Below n w w') (hp : p.block < n) : GateAt w' p g :=
  ⟨(hb.cell hp).trans h.c0, (hb.cell (p := ⟨p.block, _, none⟩) hp).trans h.c1, (hb.cell (p := ⟨p.block, _, none⟩) hp).trans h.c2⟩
/-- What stands in the gate's box. -/
structure GbW (U : World) (b : Nat) (g : G) : Prop where
  g0 : U.cell? ⟨b, 0, none⟩ = some (.int .i64 g.1)
  g1 : U.cell? ⟨b, 1, none⟩ = some (.int .i64 g.2.1)
  g2 : U.cell? ⟨b, 2, none⟩ = some (.int .i64 g.2.2)
  lt : b < U.heap.size
theorem gbW_new (w : World) (g : G) (T : TypeId) : GbW (w.alloc (.cells #[.int .i64 g.1, .int .i64 g.2.1, .int .i64 g.2.2] T)) w.heap.size g := ⟨by simp [go_sem], by simp [go_sem], by simp [go_sem], by simp⟩
theorem GbW.after {U V : World} {b : Nat} {g : G} (h : GbW U b g) (hb : Below U.heap.size U V) : GbW V b g :=
  ⟨(hb.cell (p := ⟨b, 0, none⟩) h.lt).trans h.g0, (hb.cell (p := ⟨b, 1, none⟩) h.lt).trans h.g1, (hb.cell (p := ⟨b, 2, none⟩) h.lt).trans h.g2, Nat.lt_of_lt_of_le h.lt hb.size⟩
namespace Gt
theorem gErr_kind {n : Nt} {i : Nat} (h : inS 1 5 (gG n.gs i).1 = false) : n.gErr i = 2 := by unfold Nt.gErr; rw [h]; rfl
theorem gErr_is {n : Nt} {i : Nat} {la lb : Int} (h : inS 1 5 (gG n.gs i).1 = true) (ha : la = if (gG n.gs i).1 = 5 then n.ins + n.gs.length - 1 else n.ins + i - 1) (hb : lb = if (gG n.gs i).1 = 4 ∨ (gG n.gs i).1 = 5 then 0 else n.ins + i - 1) :
    n.gErr i = if inS 0 la (gG n.gs i).2.1 && inS 0 lb (gG n.gs i).2.2 then 0 else 4 := by
  unfold Nt.gErr
  rw [if_pos h, ← ha, ← hb]
end Gt

set_option maxHeartbeats 4000000 in
theorem gate_kind (n : Nt) (A : Option Addr) (c : Nat) (B : Option Addr) (d i : Nat) (hi : i < n.gs.length) (h24 : n.gs.length ≤ 24) (hins : 1 ≤ n.ins ∧ n.ins ≤ 6) (hk : inS 1 5 (gG n.gs i).1 = false) (w : World) (hN : NetAt w A B n) : Calls Tryd.prog 40 #[ntV n A c B d, .int .i64 i] w (RetInt w 2) := by
  obtain ⟨ad, rfl, hb, GA⟩ := hN.g.at_ hi
  have P0 := ntW_new w n (some ad) c B d 25
  have GA1 := GA.below P0.below (by rw [add_block]; exact hb)
  have HN := Lib.hid hN
  have P1 := P0.after ((Below.refl _ _).alloc (Nat.le_refl _) (.cells #[.int .i64 (gG n.gs i).1, .int .i64 (gG n.gs i).2.1, .int .i64 (gG n.gs i).2.2] 46))
  have G1 := gbW_new (w.alloc (.cells #[.int .i64 n.ins, .slice (some ad) n.gs.length c, .slice B n.outs.length d] 25)) (gG n.gs i) 46
  rw [World.size_alloc] at G1
  obtain ⟨a0, a1, a2⟩ := GA1
  have HK := Lib.hid hk
  clear hk hN GA
  go_enter Tryd.func40, Tryd.ntmps40
  go_wp2_with fail
  generalize (w.alloc (.cells #[.int .i64 n.ins, .slice (some ad) n.gs.length c, .slice B n.outs.length d] 25)).alloc (.cells #[.int .i64 (gG n.gs i).1, .int .i64 (gG n.gs i).2.1, .int .i64 (gG n.gs i).2.2] 46) = V at *
  obtain ⟨g0, g1, g2, gl⟩ := G1
  refine (within_any _ 1 5 _).mono ?_; rintro e w1 ⟨rfl, rfl⟩
  rw [HK.out]
  have HB := Lib.hid P1.below
  clear P1 P0 a0 a1 a2
  go_wp2
  go_ret
  exact ⟨rfl, HB.out⟩

set_option maxHeartbeats 4000000 in
theorem gate_two_ok (n : Nt) (A : Option Addr) (c : Nat) (B : Option Addr) (d i : Nat) (hi : i < n.gs.length) (h24 : n.gs.length ≤ 24) (hins : 1 ≤ n.ins ∧ n.ins ≤ 6) (hk : inS 1 3 (gG n.gs i).1 = true) (ha : inS 0 (n.ins + i - 1) (gG n.gs i).2.1 = true) (hb2 : inS 0 (n.ins + i - 1) (gG n.gs i).2.2 = true) (w : World) (hN : NetAt w A B n) : Calls Tryd.prog 40 #[ntV n A c B d, .int .i64 i] w (RetInt w 0) := by
  obtain ⟨ad, rfl, hb, GA⟩ := hN.g.at_ hi
  have P0 := ntW_new w n (some ad) c B d 25
  have GA1 := GA.below P0.below (by rw [add_block]; exact hb)
  have HN := Lib.hid hN
  have P1 := P0.after ((Below.refl _ _).alloc (Nat.le_refl _) (.cells #[.int .i64 (gG n.gs i).1, .int .i64 (gG n.gs i).2.1, .int .i64 (gG n.gs i).2.2] 46))
  have G1 := gbW_new (w.alloc (.cells #[.int .i64 n.ins, .slice (some ad) n.gs.length c, .slice B n.outs.length d] 25)) (gG n.gs i) 46
  rw [World.size_alloc] at G1
  have hk3 := inS_iff.1 hk
  have HK := Lib.hid (show inS 1 5 (gG n.gs i).1 = true from inS_iff.2 (by omega))
  have q5 : ((gG n.gs i).1 == 5) = false := by simp; omega
  have q4 : ((gG n.gs i).1 == 4) = false := by simp; omega
  have HT := Lib.hid (show 1 ≤ (gG n.gs i).1 ∧ (gG n.gs i).1 ≤ 5 by omega)
  have HT2 := Lib.hid (show (if (gG n.gs i).1 = 4 ∨ (gG n.gs i).1 = 5 then (1 : Int) else 2) = 2 from if_neg (by omega))
  clear hk3
  have HA := Lib.hid ha
  have HB2 := Lib.hid hb2
  obtain ⟨a0, a1, a2⟩ := GA1
  clear hk ha hb2 hN GA
  go_enter Tryd.func40, Tryd.ntmps40
  go_wp2_with fail
  generalize (w.alloc (.cells #[.int .i64 n.ins, .slice (some ad) n.gs.length c, .slice B n.outs.length d] 25)).alloc (.cells #[.int .i64 (gG n.gs i).1, .int .i64 (gG n.gs i).2.1, .int .i64 (gG n.gs i).2.2] 46) = V at *
  have P1' := P1
  obtain ⟨_, c0, c1, c2, cs⟩ := P1'
  have G1' := G1
  obtain ⟨g0, g1, g2, gl⟩ := G1'
  clear P0 a0 a1 a2
  refine (within_any _ 1 5 _).mono ?_; rintro e w1 ⟨rfl, rfl⟩
  rw [HK.out]
  go_wp2_with fail
  refine (takes_any (gG n.gs i).1 HT.out _).mono ?_; rintro e w2 ⟨rfl, rfl⟩
  rw [HT2.out]
  go_wp2_with fail
  refine (within_any _ 0 _ _).mono ?_; rintro e w4 ⟨rfl, rfl⟩
  rw [HA.out]
  go_wp2_with fail
  refine (within_any _ 0 _ _).mono ?_; rintro e w5 ⟨rfl, rfl⟩
  rw [HB2.out]
  have HB := Lib.hid P1.below
  clear P1 G1
  go_wp2
  go_ret
  exact ⟨rfl, HB.out⟩

set_option maxHeartbeats 4000000 in
theorem gate_two_a (n : Nt) (A : Option Addr) (c : Nat) (B : Option Addr) (d i : Nat) (hi : i < n.gs.length) (h24 : n.gs.length ≤ 24) (hins : 1 ≤ n.ins ∧ n.ins ≤ 6) (hk : inS 1 3 (gG n.gs i).1 = true) (ha : inS 0 (n.ins + i - 1) (gG n.gs i).2.1 = false) (w : World) (hN : NetAt w A B n) : Calls Tryd.prog 40 #[ntV n A c B d, .int .i64 i] w (RetInt w 4) := by
  obtain ⟨ad, rfl, hb, GA⟩ := hN.g.at_ hi
  have P0 := ntW_new w n (some ad) c B d 25
  have GA1 := GA.below P0.below (by rw [add_block]; exact hb)
  have HN := Lib.hid hN
  have P1 := P0.after ((Below.refl _ _).alloc (Nat.le_refl _) (.cells #[.int .i64 (gG n.gs i).1, .int .i64 (gG n.gs i).2.1, .int .i64 (gG n.gs i).2.2] 46))
  have G1 := gbW_new (w.alloc (.cells #[.int .i64 n.ins, .slice (some ad) n.gs.length c, .slice B n.outs.length d] 25)) (gG n.gs i) 46
  rw [World.size_alloc] at G1
  have hk3 := inS_iff.1 hk
  have HK := Lib.hid (show inS 1 5 (gG n.gs i).1 = true from inS_iff.2 (by omega))
  have q5 : ((gG n.gs i).1 == 5) = false := by simp; omega
  have q4 : ((gG n.gs i).1 == 4) = false := by simp; omega
  have HT := Lib.hid (show 1 ≤ (gG n.gs i).1 ∧ (gG n.gs i).1 ≤ 5 by omega)
  have HT2 := Lib.hid (show (if (gG n.gs i).1 = 4 ∨ (gG n.gs i).1 = 5 then (1 : Int) else 2) = 2 from if_neg (by omega))
  clear hk3
  have HA := Lib.hid ha
  obtain ⟨a0, a1, a2⟩ := GA1
  clear hk ha hN GA
  go_enter Tryd.func40, Tryd.ntmps40
  go_wp2_with fail
  generalize (w.alloc (.cells #[.int .i64 n.ins, .slice (some ad) n.gs.length c, .slice B n.outs.length d] 25)).alloc (.cells #[.int .i64 (gG n.gs i).1, .int .i64 (gG n.gs i).2.1, .int .i64 (gG n.gs i).2.2] 46) = V at *
  have P1' := P1
  obtain ⟨_, c0, c1, c2, cs⟩ := P1'
  have G1' := G1
  obtain ⟨g0, g1, g2, gl⟩ := G1'
  clear P0 a0 a1 a2
  refine (within_any _ 1 5 _).mono ?_; rintro e w1 ⟨rfl, rfl⟩
  rw [HK.out]
  go_wp2_with fail
  refine (takes_any (gG n.gs i).1 HT.out _).mono ?_; rintro e w2 ⟨rfl, rfl⟩
  rw [HT2.out]
  go_wp2_with fail
  refine (within_any _ 0 _ _).mono ?_; rintro e w4 ⟨rfl, rfl⟩
  rw [HA.out]
  have HB := Lib.hid P1.below
  clear P1 G1
  go_wp2
  go_ret
  exact ⟨rfl, HB.out⟩

set_option maxHeartbeats 4000000 in
theorem gate_two_b (n : Nt) (A : Option Addr) (c : Nat) (B : Option Addr) (d i : Nat) (hi : i < n.gs.length) (h24 : n.gs.length ≤ 24) (hins : 1 ≤ n.ins ∧ n.ins ≤ 6) (hk : inS 1 3 (gG n.gs i).1 = true) (ha : inS 0 (n.ins + i - 1) (gG n.gs i).2.1 = true) (hb2 : inS 0 (n.ins + i - 1) (gG n.gs i).2.2 = false) (w : World) (hN : NetAt w A B n) : Calls Tryd.prog 40 #[ntV n A c B d, .int .i64 i] w (RetInt w 4) := by
  obtain ⟨ad, rfl, hb, GA⟩ := hN.g.at_ hi
  have P0 := ntW_new w n (some ad) c B d 25
  have GA1 := GA.below P0.below (by rw [add_block]; exact hb)
  have HN := Lib.hid hN
  have P1 := P0.after ((Below.refl _ _).alloc (Nat.le_refl _) (.cells #[.int .i64 (gG n.gs i).1, .int .i64 (gG n.gs i).2.1, .int .i64 (gG n.gs i).2.2] 46))
  have G1 := gbW_new (w.alloc (.cells #[.int .i64 n.ins, .slice (some ad) n.gs.length c, .slice B n.outs.length d] 25)) (gG n.gs i) 46
  rw [World.size_alloc] at G1
  have hk3 := inS_iff.1 hk
  have HK := Lib.hid (show inS 1 5 (gG n.gs i).1 = true from inS_iff.2 (by omega))
  have q5 : ((gG n.gs i).1 == 5) = false := by simp; omega
  have q4 : ((gG n.gs i).1 == 4) = false := by simp; omega
  have HT := Lib.hid (show 1 ≤ (gG n.gs i).1 ∧ (gG n.gs i).1 ≤ 5 by omega)
  have HT2 := Lib.hid (show (if (gG n.gs i).1 = 4 ∨ (gG n.gs i).1 = 5 then (1 : Int) else 2) = 2 from if_neg (by omega))
  clear hk3
  have HA := Lib.hid ha
  have HB2 := Lib.hid hb2
  obtain ⟨a0, a1, a2⟩ := GA1
  clear hk ha hb2 hN GA
  go_enter Tryd.func40, Tryd.ntmps40
  go_wp2_with fail
  generalize (w.alloc (.cells #[.int .i64 n.ins, .slice (some ad) n.gs.length c, .slice B n.outs.length d] 25)).alloc (.cells #[.int .i64 (gG n.gs i).1, .int .i64 (gG n.gs i).2.1, .int .i64 (gG n.gs i).2.2] 46) = V at *
  have P1' := P1
  obtain ⟨_, c0, c1, c2, cs⟩ := P1'
  have G1' := G1
  obtain ⟨g0, g1, g2, gl⟩ := G1'
  clear P0 a0 a1 a2
  refine (within_any _ 1 5 _).mono ?_; rintro e w1 ⟨rfl, rfl⟩
  rw [HK.out]
  go_wp2_with fail
  refine (takes_any (gG n.gs i).1 HT.out _).mono ?_; rintro e w2 ⟨rfl, rfl⟩
  rw [HT2.out]
  go_wp2_with fail
  refine (within_any _ 0 _ _).mono ?_; rintro e w4 ⟨rfl, rfl⟩
  rw [HA.out]
  go_wp2_with fail
  refine (within_any _ 0 _ _).mono ?_; rintro e w5 ⟨rfl, rfl⟩
  rw [HB2.out]
  have HB := Lib.hid P1.below
  clear P1 G1
  go_wp2
  go_ret
  exact ⟨rfl, HB.out⟩

set_option maxHeartbeats 4000000 in
theorem gate_four_ok (n : Nt) (A : Option Addr) (c : Nat) (B : Option Addr) (d i : Nat) (hi : i < n.gs.length) (h24 : n.gs.length ≤ 24) (hins : 1 ≤ n.ins ∧ n.ins ≤ 6) (hk : (gG n.gs i).1 = 4) (ha : inS 0 (n.ins + i - 1) (gG n.gs i).2.1 = true) (hb2 : inS 0 (0) (gG n.gs i).2.2 = true) (w : World) (hN : NetAt w A B n) : Calls Tryd.prog 40 #[ntV n A c B d, .int .i64 i] w (RetInt w 0) := by
  obtain ⟨ad, rfl, hb, GA⟩ := hN.g.at_ hi
  have P0 := ntW_new w n (some ad) c B d 25
  have GA1 := GA.below P0.below (by rw [add_block]; exact hb)
  have HN := Lib.hid hN
  have P1 := P0.after ((Below.refl _ _).alloc (Nat.le_refl _) (.cells #[.int .i64 (gG n.gs i).1, .int .i64 (gG n.gs i).2.1, .int .i64 (gG n.gs i).2.2] 46))
  have G1 := gbW_new (w.alloc (.cells #[.int .i64 n.ins, .slice (some ad) n.gs.length c, .slice B n.outs.length d] 25)) (gG n.gs i) 46
  rw [World.size_alloc] at G1
  have HK := Lib.hid (show inS 1 5 (gG n.gs i).1 = true by rw [hk]; decide)
  have q5 : ((gG n.gs i).1 == 5) = false := by rw [hk]; decide
  have q4 : ((gG n.gs i).1 == 4) = true := by rw [hk]; decide
  have HT := Lib.hid (show 1 ≤ (gG n.gs i).1 ∧ (gG n.gs i).1 ≤ 5 by omega)
  have HT2 := Lib.hid (show (if (gG n.gs i).1 = 4 ∨ (gG n.gs i).1 = 5 then (1 : Int) else 2) = 1 from if_pos (by omega))
  have HA := Lib.hid ha
  have HB2 := Lib.hid hb2
  obtain ⟨a0, a1, a2⟩ := GA1
  clear hk ha hb2 hN GA
  go_enter Tryd.func40, Tryd.ntmps40
  go_wp2_with fail
  generalize (w.alloc (.cells #[.int .i64 n.ins, .slice (some ad) n.gs.length c, .slice B n.outs.length d] 25)).alloc (.cells #[.int .i64 (gG n.gs i).1, .int .i64 (gG n.gs i).2.1, .int .i64 (gG n.gs i).2.2] 46) = V at *
  have P1' := P1
  obtain ⟨_, c0, c1, c2, cs⟩ := P1'
  have G1' := G1
  obtain ⟨g0, g1, g2, gl⟩ := G1'
  clear P0 a0 a1 a2
  refine (within_any _ 1 5 _).mono ?_; rintro e w1 ⟨rfl, rfl⟩
  rw [HK.out]
  go_wp2_with fail
  refine (takes_any (gG n.gs i).1 HT.out _).mono ?_; rintro e w2 ⟨rfl, rfl⟩
  rw [HT2.out]
  go_wp2_with fail
  refine (within_any _ 0 _ _).mono ?_; rintro e w4 ⟨rfl, rfl⟩
  rw [HA.out]
  go_wp2_with fail
  refine (within_any _ 0 _ _).mono ?_; rintro e w5 ⟨rfl, rfl⟩
  rw [HB2.out]
  have HB := Lib.hid P1.below
  clear P1 G1
  go_wp2
  go_ret
  exact ⟨rfl, HB.out⟩

set_option maxHeartbeats 4000000 in
theorem gate_four_a (n : Nt) (A : Option Addr) (c : Nat) (B : Option Addr) (d i : Nat) (hi : i < n.gs.length) (h24 : n.gs.length ≤ 24) (hins : 1 ≤ n.ins ∧ n.ins ≤ 6) (hk : (gG n.gs i).1 = 4) (ha : inS 0 (n.ins + i - 1) (gG n.gs i).2.1 = false) (w : World) (hN : NetAt w A B n) : Calls Tryd.prog 40 #[ntV n A c B d, .int .i64 i] w (RetInt w 4) := by
  obtain ⟨ad, rfl, hb, GA⟩ := hN.g.at_ hi
  have P0 := ntW_new w n (some ad) c B d 25
  have GA1 := GA.below P0.below (by rw [add_block]; exact hb)
  have HN := Lib.hid hN
  have P1 := P0.after ((Below.refl _ _).alloc (Nat.le_refl _) (.cells #[.int .i64 (gG n.gs i).1, .int .i64 (gG n.gs i).2.1, .int .i64 (gG n.gs i).2.2] 46))
  have G1 := gbW_new (w.alloc (.cells #[.int .i64 n.ins, .slice (some ad) n.gs.length c, .slice B n.outs.length d] 25)) (gG n.gs i) 46
  rw [World.size_alloc] at G1
  have HK := Lib.hid (show inS 1 5 (gG n.gs i).1 = true by rw [hk]; decide)
  have q5 : ((gG n.gs i).1 == 5) = false := by rw [hk]; decide
  have q4 : ((gG n.gs i).1 == 4) = true := by rw [hk]; decide
  have HT := Lib.hid (show 1 ≤ (gG n.gs i).1 ∧ (gG n.gs i).1 ≤ 5 by omega)
  have HT2 := Lib.hid (show (if (gG n.gs i).1 = 4 ∨ (gG n.gs i).1 = 5 then (1 : Int) else 2) = 1 from if_pos (by omega))
  have HA := Lib.hid ha
  obtain ⟨a0, a1, a2⟩ := GA1
  clear hk ha hN GA
  go_enter Tryd.func40, Tryd.ntmps40
  go_wp2_with fail
  generalize (w.alloc (.cells #[.int .i64 n.ins, .slice (some ad) n.gs.length c, .slice B n.outs.length d] 25)).alloc (.cells #[.int .i64 (gG n.gs i).1, .int .i64 (gG n.gs i).2.1, .int .i64 (gG n.gs i).2.2] 46) = V at *
  have P1' := P1
  obtain ⟨_, c0, c1, c2, cs⟩ := P1'
  have G1' := G1
  obtain ⟨g0, g1, g2, gl⟩ := G1'
  clear P0 a0 a1 a2
  refine (within_any _ 1 5 _).mono ?_; rintro e w1 ⟨rfl, rfl⟩
  rw [HK.out]
  go_wp2_with fail
  refine (takes_any (gG n.gs i).1 HT.out _).mono ?_; rintro e w2 ⟨rfl, rfl⟩
  rw [HT2.out]
  go_wp2_with fail
  refine (within_any _ 0 _ _).mono ?_; rintro e w4 ⟨rfl, rfl⟩
  rw [HA.out]
  have HB := Lib.hid P1.below
  clear P1 G1
  go_wp2
  go_ret
  exact ⟨rfl, HB.out⟩

set_option maxHeartbeats 4000000 in
theorem gate_four_b (n : Nt) (A : Option Addr) (c : Nat) (B : Option Addr) (d i : Nat) (hi : i < n.gs.length) (h24 : n.gs.length ≤ 24) (hins : 1 ≤ n.ins ∧ n.ins ≤ 6) (hk : (gG n.gs i).1 = 4) (ha : inS 0 (n.ins + i - 1) (gG n.gs i).2.1 = true) (hb2 : inS 0 (0) (gG n.gs i).2.2 = false) (w : World) (hN : NetAt w A B n) : Calls Tryd.prog 40 #[ntV n A c B d, .int .i64 i] w (RetInt w 4) := by
  obtain ⟨ad, rfl, hb, GA⟩ := hN.g.at_ hi
  have P0 := ntW_new w n (some ad) c B d 25
  have GA1 := GA.below P0.below (by rw [add_block]; exact hb)
  have HN := Lib.hid hN
  have P1 := P0.after ((Below.refl _ _).alloc (Nat.le_refl _) (.cells #[.int .i64 (gG n.gs i).1, .int .i64 (gG n.gs i).2.1, .int .i64 (gG n.gs i).2.2] 46))
  have G1 := gbW_new (w.alloc (.cells #[.int .i64 n.ins, .slice (some ad) n.gs.length c, .slice B n.outs.length d] 25)) (gG n.gs i) 46
  rw [World.size_alloc] at G1
  have HK := Lib.hid (show inS 1 5 (gG n.gs i).1 = true by rw [hk]; decide)
  have q5 : ((gG n.gs i).1 == 5) = false := by rw [hk]; decide
  have q4 : ((gG n.gs i).1 == 4) = true := by rw [hk]; decide
  have HT := Lib.hid (show 1 ≤ (gG n.gs i).1 ∧ (gG n.gs i).1 ≤ 5 by omega)
  have HT2 := Lib.hid (show (if (gG n.gs i).1 = 4 ∨ (gG n.gs i).1 = 5 then (1 : Int) else 2) = 1 from if_pos (by omega))
  have HA := Lib.hid ha
  have HB2 := Lib.hid hb2
  obtain ⟨a0, a1, a2⟩ := GA1
  clear hk ha hb2 hN GA
  go_enter Tryd.func40, Tryd.ntmps40
  go_wp2_with fail
  generalize (w.alloc (.cells #[.int .i64 n.ins, .slice (some ad) n.gs.length c, .slice B n.outs.length d] 25)).alloc (.cells #[.int .i64 (gG n.gs i).1, .int .i64 (gG n.gs i).2.1, .int .i64 (gG n.gs i).2.2] 46) = V at *
  have P1' := P1
  obtain ⟨_, c0, c1, c2, cs⟩ := P1'
  have G1' := G1
  obtain ⟨g0, g1, g2, gl⟩ := G1'
  clear P0 a0 a1 a2
  refine (within_any _ 1 5 _).mono ?_; rintro e w1 ⟨rfl, rfl⟩
  rw [HK.out]
  go_wp2_with fail
  refine (takes_any (gG n.gs i).1 HT.out _).mono ?_; rintro e w2 ⟨rfl, rfl⟩
  rw [HT2.out]
  go_wp2_with fail
  refine (within_any _ 0 _ _).mono ?_; rintro e w4 ⟨rfl, rfl⟩
  rw [HA.out]
  go_wp2_with fail
  refine (within_any _ 0 _ _).mono ?_; rintro e w5 ⟨rfl, rfl⟩
  rw [HB2.out]
  have HB := Lib.hid P1.below
  clear P1 G1
  go_wp2
  go_ret
  exact ⟨rfl, HB.out⟩

set_option maxHeartbeats 4000000 in
theorem gate_five_ok (n : Nt) (A : Option Addr) (c : Nat) (B : Option Addr) (d i : Nat) (hi : i < n.gs.length) (h24 : n.gs.length ≤ 24) (hins : 1 ≤ n.ins ∧ n.ins ≤ 6) (hk : (gG n.gs i).1 = 5) (ha : inS 0 (n.ins + n.gs.length - 1) (gG n.gs i).2.1 = true) (hb2 : inS 0 (0) (gG n.gs i).2.2 = true) (w : World) (hN : NetAt w A B n) : Calls Tryd.prog 40 #[ntV n A c B d, .int .i64 i] w (RetInt w 0) := by
  obtain ⟨ad, rfl, hb, GA⟩ := hN.g.at_ hi
  have P0 := ntW_new w n (some ad) c B d 25
  have GA1 := GA.below P0.below (by rw [add_block]; exact hb)
  have HN := Lib.hid hN
  have P1 := P0.after ((Below.refl _ _).alloc (Nat.le_refl _) (.cells #[.int .i64 (gG n.gs i).1, .int .i64 (gG n.gs i).2.1, .int .i64 (gG n.gs i).2.2] 46))
  have G1 := gbW_new (w.alloc (.cells #[.int .i64 n.ins, .slice (some ad) n.gs.length c, .slice B n.outs.length d] 25)) (gG n.gs i) 46
  rw [World.size_alloc] at G1
  have HK := Lib.hid (show inS 1 5 (gG n.gs i).1 = true by rw [hk]; decide)
  have q5 : ((gG n.gs i).1 == 5) = true := by rw [hk]; decide
  have q4 : ((gG n.gs i).1 == 4) = false := by rw [hk]; decide
  have HT := Lib.hid (show 1 ≤ (gG n.gs i).1 ∧ (gG n.gs i).1 ≤ 5 by omega)
  have HT2 := Lib.hid (show (if (gG n.gs i).1 = 4 ∨ (gG n.gs i).1 = 5 then (1 : Int) else 2) = 1 from if_pos (by omega))
  have HA := Lib.hid ha
  have HB2 := Lib.hid hb2
  obtain ⟨a0, a1, a2⟩ := GA1
  clear hk ha hb2 hN GA
  go_enter Tryd.func40, Tryd.ntmps40
  go_wp2_with fail
  generalize (w.alloc (.cells #[.int .i64 n.ins, .slice (some ad) n.gs.length c, .slice B n.outs.length d] 25)).alloc (.cells #[.int .i64 (gG n.gs i).1, .int .i64 (gG n.gs i).2.1, .int .i64 (gG n.gs i).2.2] 46) = V at *
  have P1' := P1
  obtain ⟨_, c0, c1, c2, cs⟩ := P1'
  have G1' := G1
  obtain ⟨g0, g1, g2, gl⟩ := G1'
  clear P0 a0 a1 a2
  refine (within_any _ 1 5 _).mono ?_; rintro e w1 ⟨rfl, rfl⟩
  rw [HK.out]
  go_wp2_with fail
  refine (signals_any n (some ad) c B d hins h24 _).mono ?_; rintro e w3 ⟨rfl, hb3⟩
  have P2 := P1.after hb3
  have G2 := G1.after hb3
  clear c0 c1 c2 cs g0 g1 g2 gl P1 G1
  have P1 := P2
  have G1 := G2
  clear P2 G2 hb3
  have P1' := P1
  obtain ⟨_, c0, c1, c2, cs⟩ := P1'
  have G1' := G1
  obtain ⟨g0, g1, g2, gl⟩ := G1'
  go_wp2_with fail
  refine (takes_any (gG n.gs i).1 HT.out _).mono ?_; rintro e w2 ⟨rfl, rfl⟩
  rw [HT2.out]
  go_wp2_with fail
  refine (within_any _ 0 _ _).mono ?_; rintro e w4 ⟨rfl, rfl⟩
  rw [HA.out]
  go_wp2_with fail
  refine (within_any _ 0 _ _).mono ?_; rintro e w5 ⟨rfl, rfl⟩
  rw [HB2.out]
  have HB := Lib.hid P1.below
  clear P1 G1
  go_wp2
  go_ret
  exact ⟨rfl, HB.out⟩

set_option maxHeartbeats 4000000 in
theorem gate_five_a (n : Nt) (A : Option Addr) (c : Nat) (B : Option Addr) (d i : Nat) (hi : i < n.gs.length) (h24 : n.gs.length ≤ 24) (hins : 1 ≤ n.ins ∧ n.ins ≤ 6) (hk : (gG n.gs i).1 = 5) (ha : inS 0 (n.ins + n.gs.length - 1) (gG n.gs i).2.1 = false) (w : World) (hN : NetAt w A B n) : Calls Tryd.prog 40 #[ntV n A c B d, .int .i64 i] w (RetInt w 4) := by
  obtain ⟨ad, rfl, hb, GA⟩ := hN.g.at_ hi
  have P0 := ntW_new w n (some ad) c B d 25
  have GA1 := GA.below P0.below (by rw [add_block]; exact hb)
  have HN := Lib.hid hN
  have P1 := P0.after ((Below.refl _ _).alloc (Nat.le_refl _) (.cells #[.int .i64 (gG n.gs i).1, .int .i64 (gG n.gs i).2.1, .int .i64 (gG n.gs i).2.2] 46))
  have G1 := gbW_new (w.alloc (.cells #[.int .i64 n.ins, .slice (some ad) n.gs.length c, .slice B n.outs.length d] 25)) (gG n.gs i) 46
  rw [World.size_alloc] at G1
  have HK := Lib.hid (show inS 1 5 (gG n.gs i).1 = true by rw [hk]; decide)
  have q5 : ((gG n.gs i).1 == 5) = true := by rw [hk]; decide
  have q4 : ((gG n.gs i).1 == 4) = false := by rw [hk]; decide
  have HT := Lib.hid (show 1 ≤ (gG n.gs i).1 ∧ (gG n.gs i).1 ≤ 5 by omega)
  have HT2 := Lib.hid (show (if (gG n.gs i).1 = 4 ∨ (gG n.gs i).1 = 5 then (1 : Int) else 2) = 1 from if_pos (by omega))
  have HA := Lib.hid ha
  obtain ⟨a0, a1, a2⟩ := GA1
  clear hk ha hN GA
  go_enter Tryd.func40, Tryd.ntmps40
  go_wp2_with fail
  generalize (w.alloc (.cells #[.int .i64 n.ins, .slice (some ad) n.gs.length c, .slice B n.outs.length d] 25)).alloc (.cells #[.int .i64 (gG n.gs i).1, .int .i64 (gG n.gs i).2.1, .int .i64 (gG n.gs i).2.2] 46) = V at *
  have P1' := P1
  obtain ⟨_, c0, c1, c2, cs⟩ := P1'
  have G1' := G1
  obtain ⟨g0, g1, g2, gl⟩ := G1'
  clear P0 a0 a1 a2
  refine (within_any _ 1 5 _).mono ?_; rintro e w1 ⟨rfl, rfl⟩
  rw [HK.out]
  go_wp2_with fail
  refine (signals_any n (some ad) c B d hins h24 _).mono ?_; rintro e w3 ⟨rfl, hb3⟩
  have P2 := P1.after hb3
  have G2 := G1.after hb3
  clear c0 c1 c2 cs g0 g1 g2 gl P1 G1
  have P1 := P2
  have G1 := G2
  clear P2 G2 hb3
  have P1' := P1
  obtain ⟨_, c0, c1, c2, cs⟩ := P1'
  have G1' := G1
  obtain ⟨g0, g1, g2, gl⟩ := G1'
  go_wp2_with fail
  refine (takes_any (gG n.gs i).1 HT.out _).mono ?_; rintro e w2 ⟨rfl, rfl⟩
  rw [HT2.out]
  go_wp2_with fail
  refine (within_any _ 0 _ _).mono ?_; rintro e w4 ⟨rfl, rfl⟩
  rw [HA.out]
  have HB := Lib.hid P1.below
  clear P1 G1
  go_wp2
  go_ret
  exact ⟨rfl, HB.out⟩

set_option maxHeartbeats 4000000 in
theorem gate_five_b (n : Nt) (A : Option Addr) (c : Nat) (B : Option Addr) (d i : Nat) (hi : i < n.gs.length) (h24 : n.gs.length ≤ 24) (hins : 1 ≤ n.ins ∧ n.ins ≤ 6) (hk : (gG n.gs i).1 = 5) (ha : inS 0 (n.ins + n.gs.length - 1) (gG n.gs i).2.1 = true) (hb2 : inS 0 (0) (gG n.gs i).2.2 = false) (w : World) (hN : NetAt w A B n) : Calls Tryd.prog 40 #[ntV n A c B d, .int .i64 i] w (RetInt w 4) := by
  obtain ⟨ad, rfl, hb, GA⟩ := hN.g.at_ hi
  have P0 := ntW_new w n (some ad) c B d 25
  have GA1 := GA.below P0.below (by rw [add_block]; exact hb)
  have HN := Lib.hid hN
  have P1 := P0.after ((Below.refl _ _).alloc (Nat.le_refl _) (.cells #[.int .i64 (gG n.gs i).1, .int .i64 (gG n.gs i).2.1, .int .i64 (gG n.gs i).2.2] 46))
  have G1 := gbW_new (w.alloc (.cells #[.int .i64 n.ins, .slice (some ad) n.gs.length c, .slice B n.outs.length d] 25)) (gG n.gs i) 46
  rw [World.size_alloc] at G1
  have HK := Lib.hid (show inS 1 5 (gG n.gs i).1 = true by rw [hk]; decide)
  have q5 : ((gG n.gs i).1 == 5) = true := by rw [hk]; decide
  have q4 : ((gG n.gs i).1 == 4) = false := by rw [hk]; decide
  have HT := Lib.hid (show 1 ≤ (gG n.gs i).1 ∧ (gG n.gs i).1 ≤ 5 by omega)
  have HT2 := Lib.hid (show (if (gG n.gs i).1 = 4 ∨ (gG n.gs i).1 = 5 then (1 : Int) else 2) = 1 from if_pos (by omega))
  have HA := Lib.hid ha
  have HB2 := Lib.hid hb2
  obtain ⟨a0, a1, a2⟩ := GA1
  clear hk ha hb2 hN GA
  go_enter Tryd.func40, Tryd.ntmps40
  go_wp2_with fail
  generalize (w.alloc (.cells #[.int .i64 n.ins, .slice (some ad) n.gs.length c, .slice B n.outs.length d] 25)).alloc (.cells #[.int .i64 (gG n.gs i).1, .int .i64 (gG n.gs i).2.1, .int .i64 (gG n.gs i).2.2] 46) = V at *
  have P1' := P1
  obtain ⟨_, c0, c1, c2, cs⟩ := P1'
  have G1' := G1
  obtain ⟨g0, g1, g2, gl⟩ := G1'
  clear P0 a0 a1 a2
  refine (within_any _ 1 5 _).mono ?_; rintro e w1 ⟨rfl, rfl⟩
  rw [HK.out]
  go_wp2_with fail
  refine (signals_any n (some ad) c B d hins h24 _).mono ?_; rintro e w3 ⟨rfl, hb3⟩
  have P2 := P1.after hb3
  have G2 := G1.after hb3
  clear c0 c1 c2 cs g0 g1 g2 gl P1 G1
  have P1 := P2
  have G1 := G2
  clear P2 G2 hb3
  have P1' := P1
  obtain ⟨_, c0, c1, c2, cs⟩ := P1'
  have G1' := G1
  obtain ⟨g0, g1, g2, gl⟩ := G1'
  go_wp2_with fail
  refine (takes_any (gG n.gs i).1 HT.out _).mono ?_; rintro e w2 ⟨rfl, rfl⟩
  rw [HT2.out]
  go_wp2_with fail
  refine (within_any _ 0 _ _).mono ?_; rintro e w4 ⟨rfl, rfl⟩
  rw [HA.out]
  go_wp2_with fail
  refine (within_any _ 0 _ _).mono ?_; rintro e w5 ⟨rfl, rfl⟩
  rw [HB2.out]
  have HB := Lib.hid P1.below
  clear P1 G1
  go_wp2
  go_ret
  exact ⟨rfl, HB.out⟩

theorem gate_any (n : Nt) (A : Option Addr) (c : Nat) (B : Option Addr) (d i : Nat) (hi : i < n.gs.length) (h24 : n.gs.length ≤ 24) (hins : 1 ≤ n.ins ∧ n.ins ≤ 6) (w : World) (hN : NetAt w A B n) : Calls Tryd.prog 40 #[ntV n A c B d, .int .i64 i] w (RetInt w (n.gErr i)) := by
  cases hk : inS 1 5 (gG n.gs i).1 with
  | false =>
    rw [gErr_kind hk]
    exact gate_kind n A c B d i hi h24 hins hk w hN
  | true =>
    have hk' := inS_iff.1 hk
    by_cases h5 : (gG n.gs i).1 = 5
    · rw [gErr_is hk (la := n.ins + n.gs.length - 1) (lb := 0) (by rw [if_pos h5]) (by rw [if_pos (.inr h5)])]
      cases ha : inS 0 (n.ins + n.gs.length - 1) (gG n.gs i).2.1 with
      | false => exact gate_five_a n A c B d i hi h24 hins h5 ha w hN
      | true =>
        cases hb : inS 0 0 (gG n.gs i).2.2 with
        | false => exact gate_five_b n A c B d i hi h24 hins h5 ha hb w hN
        | true => exact gate_five_ok n A c B d i hi h24 hins h5 ha hb w hN
    · by_cases h4 : (gG n.gs i).1 = 4
      · rw [gErr_is hk (la := n.ins + i - 1) (lb := 0) (by rw [if_neg h5]) (by rw [if_pos (.inl h4)])]
        cases ha : inS 0 (n.ins + i - 1) (gG n.gs i).2.1 with
        | false => exact gate_four_a n A c B d i hi h24 hins h4 ha w hN
        | true =>
          cases hb : inS 0 0 (gG n.gs i).2.2 with
          | false => exact gate_four_b n A c B d i hi h24 hins h4 ha hb w hN
          | true => exact gate_four_ok n A c B d i hi h24 hins h4 ha hb w hN
      · have h3 : inS 1 3 (gG n.gs i).1 = true := inS_iff.2 (by omega)
        rw [gErr_is hk (la := n.ins + i - 1) (lb := n.ins + i - 1) (by rw [if_neg h5]) (by rw [if_neg (by omega)])]
        cases ha : inS 0 (n.ins + i - 1) (gG n.gs i).2.1 with
        | false => exact gate_two_a n A c B d i hi h24 hins h3 ha w hN
        | true =>
          cases hb : inS 0 (n.ins + i - 1) (gG n.gs i).2.2 with
          | false => exact gate_two_b n A c B d i hi h24 hins h3 ha hb w hN
          | true => exact gate_two_ok n A c B d i hi h24 hins h3 ha hb w hN

set_option maxHeartbeats 4000000 in
theorem rgate_kind (n : Nt) (A : Option Addr) (c : Nat) (B : Option Addr) (d i : Nat) (hi : i < n.gs.length) (h24 : n.gs.length ≤ 24) (hins : 1 ≤ n.ins ∧ n.ins ≤ 6) (hk : inS 1 5 (gG n.gs i).1 = false) (w : World) (hN : NetAt w A B n) : Calls Tryd.prog 44 #[ntV n A c B d, .int .i64 i] w (RetInt w 2) := by
  obtain ⟨ad, rfl, hb, GA⟩ := hN.g.at_ hi
  have P0 := ntW_new w n (some ad) c B d 25
  have GA1 := GA.below P0.below (by rw [add_block]; exact hb)
  have HN := Lib.hid hN
  have P1 := P0.after ((Below.refl _ _).alloc (Nat.le_refl _) (.cells #[.int .i64 (gG n.gs i).1, .int .i64 (gG n.gs i).2.1, .int .i64 (gG n.gs i).2.2] 46))
  have G1 := gbW_new (w.alloc (.cells #[.int .i64 n.ins, .slice (some ad) n.gs.length c, .slice B n.outs.length d] 25)) (gG n.gs i) 46
  rw [World.size_alloc] at G1
  obtain ⟨a0, a1, a2⟩ := GA1
  have HK := Lib.hid hk
  clear hk hN GA
  go_enter Tryd.func44, Tryd.ntmps44
  go_wp2_with fail
  generalize (w.alloc (.cells #[.int .i64 n.ins, .slice (some ad) n.gs.length c, .slice B n.outs.length d] 25)).alloc (.cells #[.int .i64 (gG n.gs i).1, .int .i64 (gG n.gs i).2.1, .int .i64 (gG n.gs i).2.2] 46) = V at *
  obtain ⟨g0, g1, g2, gl⟩ := G1
  refine (rin_any _ 1 5 _).mono ?_; rintro e w1 ⟨rfl, rfl⟩
  rw [HK.out]
  have HB := Lib.hid P1.below
  clear P1 P0 a0 a1 a2
  go_wp2
  go_ret
  exact ⟨rfl, HB.out⟩

set_option maxHeartbeats 4000000 in
theorem rgate_two_ok (n : Nt) (A : Option Addr) (c : Nat) (B : Option Addr) (d i : Nat) (hi : i < n.gs.length) (h24 : n.gs.length ≤ 24) (hins : 1 ≤ n.ins ∧ n.ins ≤ 6) (hk : inS 1 3 (gG n.gs i).1 = true) (ha : inS 0 (n.ins + i - 1) (gG n.gs i).2.1 = true) (hb2 : inS 0 (n.ins + i - 1) (gG n.gs i).2.2 = true) (w : World) (hN : NetAt w A B n) : Calls Tryd.prog 44 #[ntV n A c B d, .int .i64 i] w (RetInt w 0) := by
  obtain ⟨ad, rfl, hb, GA⟩ := hN.g.at_ hi
  have P0 := ntW_new w n (some ad) c B d 25
  have GA1 := GA.below P0.below (by rw [add_block]; exact hb)
  have HN := Lib.hid hN
  have P1 := P0.after ((Below.refl _ _).alloc (Nat.le_refl _) (.cells #[.int .i64 (gG n.gs i).1, .int .i64 (gG n.gs i).2.1, .int .i64 (gG n.gs i).2.2] 46))
  have G1 := gbW_new (w.alloc (.cells #[.int .i64 n.ins, .slice (some ad) n.gs.length c, .slice B n.outs.length d] 25)) (gG n.gs i) 46
  rw [World.size_alloc] at G1
  have hk3 := inS_iff.1 hk
  have HK := Lib.hid (show inS 1 5 (gG n.gs i).1 = true from inS_iff.2 (by omega))
  have q5 : ((gG n.gs i).1 == 5) = false := by simp; omega
  have q4 : ((gG n.gs i).1 == 4) = false := by simp; omega
  have HT := Lib.hid (show 1 ≤ (gG n.gs i).1 ∧ (gG n.gs i).1 ≤ 5 by omega)
  have HT2 := Lib.hid (show (if (gG n.gs i).1 = 4 ∨ (gG n.gs i).1 = 5 then (1 : Int) else 2) = 2 from if_neg (by omega))
  clear hk3
  have HA := Lib.hid ha
  have HB2 := Lib.hid hb2
  obtain ⟨a0, a1, a2⟩ := GA1
  clear hk ha hb2 hN GA
  go_enter Tryd.func44, Tryd.ntmps44
  go_wp2_with fail
  generalize (w.alloc (.cells #[.int .i64 n.ins, .slice (some ad) n.gs.length c, .slice B n.outs.length d] 25)).alloc (.cells #[.int .i64 (gG n.gs i).1, .int .i64 (gG n.gs i).2.1, .int .i64 (gG n.gs i).2.2] 46) = V at *
  have P1' := P1
  obtain ⟨_, c0, c1, c2, cs⟩ := P1'
  have G1' := G1
  obtain ⟨g0, g1, g2, gl⟩ := G1'
  clear P0 a0 a1 a2
  refine (rin_any _ 1 5 _).mono ?_; rintro e w1 ⟨rfl, rfl⟩
  rw [HK.out]
  go_wp2_with fail
  refine (rin_any _ 0 _ _).mono ?_; rintro e w4 ⟨rfl, rfl⟩
  rw [HA.out]
  go_wp2_with fail
  refine (rin_any _ 0 _ _).mono ?_; rintro e w5 ⟨rfl, rfl⟩
  rw [HB2.out]
  have HB := Lib.hid P1.below
  clear P1 G1
  go_wp2
  go_ret
  exact ⟨rfl, HB.out⟩

set_option maxHeartbeats 4000000 in
theorem rgate_two_a (n : Nt) (A : Option Addr) (c : Nat) (B : Option Addr) (d i : Nat) (hi : i < n.gs.length) (h24 : n.gs.length ≤ 24) (hins : 1 ≤ n.ins ∧ n.ins ≤ 6) (hk : inS 1 3 (gG n.gs i).1 = true) (ha : inS 0 (n.ins + i - 1) (gG n.gs i).2.1 = false) (w : World) (hN : NetAt w A B n) : Calls Tryd.prog 44 #[ntV n A c B d, .int .i64 i] w (RetInt w 4) := by
  obtain ⟨ad, rfl, hb, GA⟩ := hN.g.at_ hi
  have P0 := ntW_new w n (some ad) c B d 25
  have GA1 := GA.below P0.below (by rw [add_block]; exact hb)
  have HN := Lib.hid hN
  have P1 := P0.after ((Below.refl _ _).alloc (Nat.le_refl _) (.cells #[.int .i64 (gG n.gs i).1, .int .i64 (gG n.gs i).2.1, .int .i64 (gG n.gs i).2.2] 46))
  have G1 := gbW_new (w.alloc (.cells #[.int .i64 n.ins, .slice (some ad) n.gs.length c, .slice B n.outs.length d] 25)) (gG n.gs i) 46
  rw [World.size_alloc] at G1
  have hk3 := inS_iff.1 hk
  have HK := Lib.hid (show inS 1 5 (gG n.gs i).1 = true from inS_iff.2 (by omega))
  have q5 : ((gG n.gs i).1 == 5) = false := by simp; omega
  have q4 : ((gG n.gs i).1 == 4) = false := by simp; omega
  have HT := Lib.hid (show 1 ≤ (gG n.gs i).1 ∧ (gG n.gs i).1 ≤ 5 by omega)
  have HT2 := Lib.hid (show (if (gG n.gs i).1 = 4 ∨ (gG n.gs i).1 = 5 then (1 : Int) else 2) = 2 from if_neg (by omega))
  clear hk3
  have HA := Lib.hid ha
  obtain ⟨a0, a1, a2⟩ := GA1
  clear hk ha hN GA
  go_enter Tryd.func44, Tryd.ntmps44
  go_wp2_with fail
  generalize (w.alloc (.cells #[.int .i64 n.ins, .slice (some ad) n.gs.length c, .slice B n.outs.length d] 25)).alloc (.cells #[.int .i64 (gG n.gs i).1, .int .i64 (gG n.gs i).2.1, .int .i64 (gG n.gs i).2.2] 46) = V at *
  have P1' := P1
  obtain ⟨_, c0, c1, c2, cs⟩ := P1'
  have G1' := G1
  obtain ⟨g0, g1, g2, gl⟩ := G1'
  clear P0 a0 a1 a2
  refine (rin_any _ 1 5 _).mono ?_; rintro e w1 ⟨rfl, rfl⟩
  rw [HK.out]
  go_wp2_with fail
  refine (rin_any _ 0 _ _).mono ?_; rintro e w4 ⟨rfl, rfl⟩
  rw [HA.out]
  have HB := Lib.hid P1.below
  clear P1 G1
  go_wp2
  go_ret
  exact ⟨rfl, HB.out⟩

set_option maxHeartbeats 4000000 in
theorem rgate_two_b (n : Nt) (A : Option Addr) (c : Nat) (B : Option Addr) (d i : Nat) (hi : i < n.gs.length) (h24 : n.gs.length ≤ 24) (hins : 1 ≤ n.ins ∧ n.ins ≤ 6) (hk : inS 1 3 (gG n.gs i).1 = true) (ha : inS 0 (n.ins + i - 1) (gG n.gs i).2.1 = true) (hb2 : inS 0 (n.ins + i - 1) (gG n.gs i).2.2 = false) (w : World) (hN : NetAt w A B n) : Calls Tryd.prog 44 #[ntV n A c B d, .int .i64 i] w (RetInt w 4) := by
  obtain ⟨ad, rfl, hb, GA⟩ := hN.g.at_ hi
  have P0 := ntW_new w n (some ad) c B d 25
  have GA1 := GA.below P0.below (by rw [add_block]; exact hb)
  have HN := Lib.hid hN
  have P1 := P0.after ((Below.refl _ _).alloc (Nat.le_refl _) (.cells #[.int .i64 (gG n.gs i).1, .int .i64 (gG n.gs i).2.1, .int .i64 (gG n.gs i).2.2] 46))
  have G1 := gbW_new (w.alloc (.cells #[.int .i64 n.ins, .slice (some ad) n.gs.length c, .slice B n.outs.length d] 25)) (gG n.gs i) 46
  rw [World.size_alloc] at G1
  have hk3 := inS_iff.1 hk
  have HK := Lib.hid (show inS 1 5 (gG n.gs i).1 = true from inS_iff.2 (by omega))
  have q5 : ((gG n.gs i).1 == 5) = false := by simp; omega
  have q4 : ((gG n.gs i).1 == 4) = false := by simp; omega
  have HT := Lib.hid (show 1 ≤ (gG n.gs i).1 ∧ (gG n.gs i).1 ≤ 5 by omega)
  have HT2 := Lib.hid (show (if (gG n.gs i).1 = 4 ∨ (gG n.gs i).1 = 5 then (1 : Int) else 2) = 2 from if_neg (by omega))
  clear hk3
  have HA := Lib.hid ha
  have HB2 := Lib.hid hb2
  obtain ⟨a0, a1, a2⟩ := GA1
  clear hk ha hb2 hN GA
  go_enter Tryd.func44, Tryd.ntmps44
  go_wp2_with fail
  generalize (w.alloc (.cells #[.int .i64 n.ins, .slice (some ad) n.gs.length c, .slice B n.outs.length d] 25)).alloc (.cells #[.int .i64 (gG n.gs i).1, .int .i64 (gG n.gs i).2.1, .int .i64 (gG n.gs i).2.2] 46) = V at *
  have P1' := P1
  obtain ⟨_, c0, c1, c2, cs⟩ := P1'
  have G1' := G1
  obtain ⟨g0, g1, g2, gl⟩ := G1'
  clear P0 a0 a1 a2
  refine (rin_any _ 1 5 _).mono ?_; rintro e w1 ⟨rfl, rfl⟩
  rw [HK.out]
  go_wp2_with fail
  refine (rin_any _ 0 _ _).mono ?_; rintro e w4 ⟨rfl, rfl⟩
  rw [HA.out]
  go_wp2_with fail
  refine (rin_any _ 0 _ _).mono ?_; rintro e w5 ⟨rfl, rfl⟩
  rw [HB2.out]
  have HB := Lib.hid P1.below
  clear P1 G1
  go_wp2
  go_ret
  exact ⟨rfl, HB.out⟩

set_option maxHeartbeats 4000000 in
theorem rgate_four_ok (n : Nt) (A : Option Addr) (c : Nat) (B : Option Addr) (d i : Nat) (hi : i < n.gs.length) (h24 : n.gs.length ≤ 24) (hins : 1 ≤ n.ins ∧ n.ins ≤ 6) (hk : (gG n.gs i).1 = 4) (ha : inS 0 (n.ins + i - 1) (gG n.gs i).2.1 = true) (hb2 : inS 0 (0) (gG n.gs i).2.2 = true) (w : World) (hN : NetAt w A B n) : Calls Tryd.prog 44 #[ntV n A c B d, .int .i64 i] w (RetInt w 0) := by
  obtain ⟨ad, rfl, hb, GA⟩ := hN.g.at_ hi
  have P0 := ntW_new w n (some ad) c B d 25
  have GA1 := GA.below P0.below (by rw [add_block]; exact hb)
  have HN := Lib.hid hN
  have P1 := P0.after ((Below.refl _ _).alloc (Nat.le_refl _) (.cells #[.int .i64 (gG n.gs i).1, .int .i64 (gG n.gs i).2.1, .int .i64 (gG n.gs i).2.2] 46))
  have G1 := gbW_new (w.alloc (.cells #[.int .i64 n.ins, .slice (some ad) n.gs.length c, .slice B n.outs.length d] 25)) (gG n.gs i) 46
  rw [World.size_alloc] at G1
  have HK := Lib.hid (show inS 1 5 (gG n.gs i).1 = true by rw [hk]; decide)
  have q5 : ((gG n.gs i).1 == 5) = false := by rw [hk]; decide
  have q4 : ((gG n.gs i).1 == 4) = true := by rw [hk]; decide
  have HT := Lib.hid (show 1 ≤ (gG n.gs i).1 ∧ (gG n.gs i).1 ≤ 5 by omega)
  have HT2 := Lib.hid (show (if (gG n.gs i).1 = 4 ∨ (gG n.gs i).1 = 5 then (1 : Int) else 2) = 1 from if_pos (by omega))
  have HA := Lib.hid ha
  have HB2 := Lib.hid hb2
  obtain ⟨a0, a1, a2⟩ := GA1
  clear hk ha hb2 hN GA
  go_enter Tryd.func44, Tryd.ntmps44
  go_wp2_with fail
  generalize (w.alloc (.cells #[.int .i64 n.ins, .slice (some ad) n.gs.length c, .slice B n.outs.length d] 25)).alloc (.cells #[.int .i64 (gG n.gs i).1, .int .i64 (gG n.gs i).2.1, .int .i64 (gG n.gs i).2.2] 46) = V at *
  have P1' := P1
  obtain ⟨_, c0, c1, c2, cs⟩ := P1'
  have G1' := G1
  obtain ⟨g0, g1, g2, gl⟩ := G1'
  clear P0 a0 a1 a2
  refine (rin_any _ 1 5 _).mono ?_; rintro e w1 ⟨rfl, rfl⟩
  rw [HK.out]
  go_wp2_with fail
  refine (rin_any _ 0 _ _).mono ?_; rintro e w4 ⟨rfl, rfl⟩
  rw [HA.out]
  go_wp2_with fail
  refine (rin_any _ 0 _ _).mono ?_; rintro e w5 ⟨rfl, rfl⟩
  rw [HB2.out]
  have HB := Lib.hid P1.below
  clear P1 G1
  go_wp2
  go_ret
  exact ⟨rfl, HB.out⟩

set_option maxHeartbeats 4000000 in
theorem rgate_four_a (n : Nt) (A : Option Addr) (c : Nat) (B : Option Addr) (d i : Nat) (hi : i < n.gs.length) (h24 : n.gs.length ≤ 24) (hins : 1 ≤ n.ins ∧ n.ins ≤ 6) (hk : (gG n.gs i).1 = 4) (ha : inS 0 (n.ins + i - 1) (gG n.gs i).2.1 = false) (w : World) (hN : NetAt w A B n) : Calls Tryd.prog 44 #[ntV n A c B d, .int .i64 i] w (RetInt w 4) := by
  obtain ⟨ad, rfl, hb, GA⟩ := hN.g.at_ hi
  have P0 := ntW_new w n (some ad) c B d 25
  have GA1 := GA.below P0.below (by rw [add_block]; exact hb)
  have HN := Lib.hid hN
  have P1 := P0.after ((Below.refl _ _).alloc (Nat.le_refl _) (.cells #[.int .i64 (gG n.gs i).1, .int .i64 (gG n.gs i).2.1, .int .i64 (gG n.gs i).2.2] 46))
  have G1 := gbW_new (w.alloc (.cells #[.int .i64 n.ins, .slice (some ad) n.gs.length c, .slice B n.outs.length d] 25)) (gG n.gs i) 46
  rw [World.size_alloc] at G1
  have HK := Lib.hid (show inS 1 5 (gG n.gs i).1 = true by rw [hk]; decide)
  have q5 : ((gG n.gs i).1 == 5) = false := by rw [hk]; decide
  have q4 : ((gG n.gs i).1 == 4) = true := by rw [hk]; decide
  have HT := Lib.hid (show 1 ≤ (gG n.gs i).1 ∧ (gG n.gs i).1 ≤ 5 by omega)
  have HT2 := Lib.hid (show (if (gG n.gs i).1 = 4 ∨ (gG n.gs i).1 = 5 then (1 : Int) else 2) = 1 from if_pos (by omega))
  have HA := Lib.hid ha
  obtain ⟨a0, a1, a2⟩ := GA1
  clear hk ha hN GA
  go_enter Tryd.func44, Tryd.ntmps44
  go_wp2_with fail
  generalize (w.alloc (.cells #[.int .i64 n.ins, .slice (some ad) n.gs.length c, .slice B n.outs.length d] 25)).alloc (.cells #[.int .i64 (gG n.gs i).1, .int .i64 (gG n.gs i).2.1, .int .i64 (gG n.gs i).2.2] 46) = V at *
  have P1' := P1
  obtain ⟨_, c0, c1, c2, cs⟩ := P1'
  have G1' := G1
  obtain ⟨g0, g1, g2, gl⟩ := G1'
  clear P0 a0 a1 a2
  refine (rin_any _ 1 5 _).mono ?_; rintro e w1 ⟨rfl, rfl⟩
  rw [HK.out]
  go_wp2_with fail
  refine (rin_any _ 0 _ _).mono ?_; rintro e w4 ⟨rfl, rfl⟩
  rw [HA.out]
  have HB := Lib.hid P1.below
  clear P1 G1
  go_wp2
  go_ret
  exact ⟨rfl, HB.out⟩

set_option maxHeartbeats 4000000 in
theorem rgate_four_b (n : Nt) (A : Option Addr) (c : Nat) (B : Option Addr) (d i : Nat) (hi : i < n.gs.length) (h24 : n.gs.length ≤ 24) (hins : 1 ≤ n.ins ∧ n.ins ≤ 6) (hk : (gG n.gs i).1 = 4) (ha : inS 0 (n.ins + i - 1) (gG n.gs i).2.1 = true) (hb2 : inS 0 (0) (gG n.gs i).2.2 = false) (w : World) (hN : NetAt w A B n) : Calls Tryd.prog 44 #[ntV n A c B d, .int .i64 i] w (RetInt w 4) := by
  obtain ⟨ad, rfl, hb, GA⟩ := hN.g.at_ hi
  have P0 := ntW_new w n (some ad) c B d 25
  have GA1 := GA.below P0.below (by rw [add_block]; exact hb)
  have HN := Lib.hid hN
  have P1 := P0.after ((Below.refl _ _).alloc (Nat.le_refl _) (.cells #[.int .i64 (gG n.gs i).1, .int .i64 (gG n.gs i).2.1, .int .i64 (gG n.gs i).2.2] 46))
  have G1 := gbW_new (w.alloc (.cells #[.int .i64 n.ins, .slice (some ad) n.gs.length c, .slice B n.outs.length d] 25)) (gG n.gs i) 46
  rw [World.size_alloc] at G1
  have HK := Lib.hid (show inS 1 5 (gG n.gs i).1 = true by rw [hk]; decide)
  have q5 : ((gG n.gs i).1 == 5) = false := by rw [hk]; decide
  have q4 : ((gG n.gs i).1 == 4) = true := by rw [hk]; decide
  have HT := Lib.hid (show 1 ≤ (gG n.gs i).1 ∧ (gG n.gs i).1 ≤ 5 by omega)
  have HT2 := Lib.hid (show (if (gG n.gs i).1 = 4 ∨ (gG n.gs i).1 = 5 then (1 : Int) else 2) = 1 from if_pos (by omega))
  have HA := Lib.hid ha
  have HB2 := Lib.hid hb2
  obtain ⟨a0, a1, a2⟩ := GA1
  clear hk ha hb2 hN GA
  go_enter Tryd.func44, Tryd.ntmps44
  go_wp2_with fail
  generalize (w.alloc (.cells #[.int .i64 n.ins, .slice (some ad) n.gs.length c, .slice B n.outs.length d] 25)).alloc (.cells #[.int .i64 (gG n.gs i).1, .int .i64 (gG n.gs i).2.1, .int .i64 (gG n.gs i).2.2] 46) = V at *
  have P1' := P1
  obtain ⟨_, c0, c1, c2, cs⟩ := P1'
  have G1' := G1
  obtain ⟨g0, g1, g2, gl⟩ := G1'
  clear P0 a0 a1 a2
  refine (rin_any _ 1 5 _).mono ?_; rintro e w1 ⟨rfl, rfl⟩
  rw [HK.out]
  go_wp2_with fail
  refine (rin_any _ 0 _ _).mono ?_; rintro e w4 ⟨rfl, rfl⟩
  rw [HA.out]
  go_wp2_with fail
  refine (rin_any _ 0 _ _).mono ?_; rintro e w5 ⟨rfl, rfl⟩
  rw [HB2.out]
  have HB := Lib.hid P1.below
  clear P1 G1
  go_wp2
  go_ret
  exact ⟨rfl, HB.out⟩

set_option maxHeartbeats 4000000 in
theorem rgate_five_ok (n : Nt) (A : Option Addr) (c : Nat) (B : Option Addr) (d i : Nat) (hi : i < n.gs.length) (h24 : n.gs.length ≤ 24) (hins : 1 ≤ n.ins ∧ n.ins ≤ 6) (hk : (gG n.gs i).1 = 5) (ha : inS 0 (n.ins + n.gs.length - 1) (gG n.gs i).2.1 = true) (hb2 : inS 0 (0) (gG n.gs i).2.2 = true) (w : World) (hN : NetAt w A B n) : Calls Tryd.prog 44 #[ntV n A c B d, .int .i64 i] w (RetInt w 0) := by
  obtain ⟨ad, rfl, hb, GA⟩ := hN.g.at_ hi
  have P0 := ntW_new w n (some ad) c B d 25
  have GA1 := GA.below P0.below (by rw [add_block]; exact hb)
  have HN := Lib.hid hN
  have P1 := P0.after ((Below.refl _ _).alloc (Nat.le_refl _) (.cells #[.int .i64 (gG n.gs i).1, .int .i64 (gG n.gs i).2.1, .int .i64 (gG n.gs i).2.2] 46))
  have G1 := gbW_new (w.alloc (.cells #[.int .i64 n.ins, .slice (some ad) n.gs.length c, .slice B n.outs.length d] 25)) (gG n.gs i) 46
  rw [World.size_alloc] at G1
  have HK := Lib.hid (show inS 1 5 (gG n.gs i).1 = true by rw [hk]; decide)
  have q5 : ((gG n.gs i).1 == 5) = true := by rw [hk]; decide
  have q4 : ((gG n.gs i).1 == 4) = false := by rw [hk]; decide
  have HT := Lib.hid (show 1 ≤ (gG n.gs i).1 ∧ (gG n.gs i).1 ≤ 5 by omega)
  have HT2 := Lib.hid (show (if (gG n.gs i).1 = 4 ∨ (gG n.gs i).1 = 5 then (1 : Int) else 2) = 1 from if_pos (by omega))
  have HA := Lib.hid ha
  have HB2 := Lib.hid hb2
  obtain ⟨a0, a1, a2⟩ := GA1
  clear hk ha hb2 hN GA
  go_enter Tryd.func44, Tryd.ntmps44
  go_wp2_with fail
  generalize (w.alloc (.cells #[.int .i64 n.ins, .slice (some ad) n.gs.length c, .slice B n.outs.length d] 25)).alloc (.cells #[.int .i64 (gG n.gs i).1, .int .i64 (gG n.gs i).2.1, .int .i64 (gG n.gs i).2.2] 46) = V at *
  have P1' := P1
  obtain ⟨_, c0, c1, c2, cs⟩ := P1'
  have G1' := G1
  obtain ⟨g0, g1, g2, gl⟩ := G1'
  clear P0 a0 a1 a2
  refine (rin_any _ 1 5 _).mono ?_; rintro e w1 ⟨rfl, rfl⟩
  rw [HK.out]
  go_wp2_with fail
  refine (rin_any _ 0 _ _).mono ?_; rintro e w4 ⟨rfl, rfl⟩
  rw [HA.out]
  go_wp2_with fail
  refine (rin_any _ 0 _ _).mono ?_; rintro e w5 ⟨rfl, rfl⟩
  rw [HB2.out]
  have HB := Lib.hid P1.below
  clear P1 G1
  go_wp2
  go_ret
  exact ⟨rfl, HB.out⟩

set_option maxHeartbeats 4000000 in
theorem rgate_five_a (n : Nt) (A : Option Addr) (c : Nat) (B : Option Addr) (d i : Nat) (hi : i < n.gs.length) (h24 : n.gs.length ≤ 24) (hins : 1 ≤ n.ins ∧ n.ins ≤ 6) (hk : (gG n.gs i).1 = 5) (ha : inS 0 (n.ins + n.gs.length - 1) (gG n.gs i).2.1 = false) (w : World) (hN : NetAt w A B n) : Calls Tryd.prog 44 #[ntV n A c B d, .int .i64 i] w (RetInt w 4) := by
  obtain ⟨ad, rfl, hb, GA⟩ := hN.g.at_ hi
  have P0 := ntW_new w n (some ad) c B d 25
  have GA1 := GA.below P0.below (by rw [add_block]; exact hb)
  have HN := Lib.hid hN
  have P1 := P0.after ((Below.refl _ _).alloc (Nat.le_refl _) (.cells #[.int .i64 (gG n.gs i).1, .int .i64 (gG n.gs i).2.1, .int .i64 (gG n.gs i).2.2] 46))
  have G1 := gbW_new (w.alloc (.cells #[.int .i64 n.ins, .slice (some ad) n.gs.length c, .slice B n.outs.length d] 25)) (gG n.gs i) 46
  rw [World.size_alloc] at G1
  have HK := Lib.hid (show inS 1 5 (gG n.gs i).1 = true by rw [hk]; decide)
  have q5 : ((gG n.gs i).1 == 5) = true := by rw [hk]; decide
  have q4 : ((gG n.gs i).1 == 4) = false := by rw [hk]; decide
  have HT := Lib.hid (show 1 ≤ (gG n.gs i).1 ∧ (gG n.gs i).1 ≤ 5 by omega)
  have HT2 := Lib.hid (show (if (gG n.gs i).1 = 4 ∨ (gG n.gs i).1 = 5 then (1 : Int) else 2) = 1 from if_pos (by omega))
  have HA := Lib.hid ha
  obtain ⟨a0, a1, a2⟩ := GA1
  clear hk ha hN GA
  go_enter Tryd.func44, Tryd.ntmps44
  go_wp2_with fail
  generalize (w.alloc (.cells #[.int .i64 n.ins, .slice (some ad) n.gs.length c, .slice B n.outs.length d] 25)).alloc (.cells #[.int .i64 (gG n.gs i).1, .int .i64 (gG n.gs i).2.1, .int .i64 (gG n.gs i).2.2] 46) = V at *
  have P1' := P1
  obtain ⟨_, c0, c1, c2, cs⟩ := P1'
  have G1' := G1
  obtain ⟨g0, g1, g2, gl⟩ := G1'
  clear P0 a0 a1 a2
  refine (rin_any _ 1 5 _).mono ?_; rintro e w1 ⟨rfl, rfl⟩
  rw [HK.out]
  go_wp2_with fail
  refine (rin_any _ 0 _ _).mono ?_; rintro e w4 ⟨rfl, rfl⟩
  rw [HA.out]
  have HB := Lib.hid P1.below
  clear P1 G1
  go_wp2
  go_ret
  exact ⟨rfl, HB.out⟩

set_option maxHeartbeats 4000000 in
theorem rgate_five_b (n : Nt) (A : Option Addr) (c : Nat) (B : Option Addr) (d i : Nat) (hi : i < n.gs.length) (h24 : n.gs.length ≤ 24) (hins : 1 ≤ n.ins ∧ n.ins ≤ 6) (hk : (gG n.gs i).1 = 5) (ha : inS 0 (n.ins + n.gs.length - 1) (gG n.gs i).2.1 = true) (hb2 : inS 0 (0) (gG n.gs i).2.2 = false) (w : World) (hN : NetAt w A B n) : Calls Tryd.prog 44 #[ntV n A c B d, .int .i64 i] w (RetInt w 4) := by
  obtain ⟨ad, rfl, hb, GA⟩ := hN.g.at_ hi
  have P0 := ntW_new w n (some ad) c B d 25
  have GA1 := GA.below P0.below (by rw [add_block]; exact hb)
  have HN := Lib.hid hN
  have P1 := P0.after ((Below.refl _ _).alloc (Nat.le_refl _) (.cells #[.int .i64 (gG n.gs i).1, .int .i64 (gG n.gs i).2.1, .int .i64 (gG n.gs i).2.2] 46))
  have G1 := gbW_new (w.alloc (.cells #[.int .i64 n.ins, .slice (some ad) n.gs.length c, .slice B n.outs.length d] 25)) (gG n.gs i) 46
  rw [World.size_alloc] at G1
  have HK := Lib.hid (show inS 1 5 (gG n.gs i).1 = true by rw [hk]; decide)
  have q5 : ((gG n.gs i).1 == 5) = true := by rw [hk]; decide
  have q4 : ((gG n.gs i).1 == 4) = false := by rw [hk]; decide
  have HT := Lib.hid (show 1 ≤ (gG n.gs i).1 ∧ (gG n.gs i).1 ≤ 5 by omega)
  have HT2 := Lib.hid (show (if (gG n.gs i).1 = 4 ∨ (gG n.gs i).1 = 5 then (1 : Int) else 2) = 1 from if_pos (by omega))
  have HA := Lib.hid ha
  have HB2 := Lib.hid hb2
  obtain ⟨a0, a1, a2⟩ := GA1
  clear hk ha hb2 hN GA
  go_enter Tryd.func44, Tryd.ntmps44
  go_wp2_with fail
  generalize (w.alloc (.cells #[.int .i64 n.ins, .slice (some ad) n.gs.length c, .slice B n.outs.length d] 25)).alloc (.cells #[.int .i64 (gG n.gs i).1, .int .i64 (gG n.gs i).2.1, .int .i64 (gG n.gs i).2.2] 46) = V at *
  have P1' := P1
  obtain ⟨_, c0, c1, c2, cs⟩ := P1'
  have G1' := G1
  obtain ⟨g0, g1, g2, gl⟩ := G1'
  clear P0 a0 a1 a2
  refine (rin_any _ 1 5 _).mono ?_; rintro e w1 ⟨rfl, rfl⟩
  rw [HK.out]
  go_wp2_with fail
  refine (rin_any _ 0 _ _).mono ?_; rintro e w4 ⟨rfl, rfl⟩
  rw [HA.out]
  go_wp2_with fail
  refine (rin_any _ 0 _ _).mono ?_; rintro e w5 ⟨rfl, rfl⟩
  rw [HB2.out]
  have HB := Lib.hid P1.below
  clear P1 G1
  go_wp2
  go_ret
  exact ⟨rfl, HB.out⟩

theorem rgate_any (n : Nt) (A : Option Addr) (c : Nat) (B : Option Addr) (d i : Nat) (hi : i < n.gs.length) (h24 : n.gs.length ≤ 24) (hins : 1 ≤ n.ins ∧ n.ins ≤ 6) (w : World) (hN : NetAt w A B n) : Calls Tryd.prog 44 #[ntV n A c B d, .int .i64 i] w (RetInt w (n.gErr i)) := by
  cases hk : inS 1 5 (gG n.gs i).1 with
  | false =>
    rw [gErr_kind hk]
    exact rgate_kind n A c B d i hi h24 hins hk w hN
  | true =>
    have hk' := inS_iff.1 hk
    by_cases h5 : (gG n.gs i).1 = 5
    · rw [gErr_is hk (la := n.ins + n.gs.length - 1) (lb := 0) (by rw [if_pos h5]) (by rw [if_pos (.inr h5)])]
      cases ha : inS 0 (n.ins + n.gs.length - 1) (gG n.gs i).2.1 with
      | false => exact rgate_five_a n A c B d i hi h24 hins h5 ha w hN
      | true =>
        cases hb : inS 0 0 (gG n.gs i).2.2 with
        | false => exact rgate_five_b n A c B d i hi h24 hins h5 ha hb w hN
        | true => exact rgate_five_ok n A c B d i hi h24 hins h5 ha hb w hN
    · by_cases h4 : (gG n.gs i).1 = 4
      · rw [gErr_is hk (la := n.ins + i - 1) (lb := 0) (by rw [if_neg h5]) (by rw [if_pos (.inl h4)])]
        cases ha : inS 0 (n.ins + i - 1) (gG n.gs i).2.1 with
        | false => exact rgate_four_a n A c B d i hi h24 hins h4 ha w hN
        | true =>
          cases hb : inS 0 0 (gG n.gs i).2.2 with
          | false => exact rgate_four_b n A c B d i hi h24 hins h4 ha hb w hN
          | true => exact rgate_four_ok n A c B d i hi h24 hins h4 ha hb w hN
      · have h3 : inS 1 3 (gG n.gs i).1 = true := inS_iff.2 (by omega)
        rw [gErr_is hk (la := n.ins + i - 1) (lb := n.ins + i - 1) (by rw [if_neg h5]) (by rw [if_neg (by omega)])]
        cases ha : inS 0 (n.ins + i - 1) (gG n.gs i).2.1 with
        | false => exact rgate_two_a n A c B d i hi h24 hins h3 ha w hN
        | true =>
          cases hb : inS 0 (n.ins + i - 1) (gG n.gs i).2.2 with
          | false => exact rgate_two_b n A c B d i hi h24 hins h3 ha hb w hN
          | true => exact rgate_two_ok n A c B d i hi h24 hins h3 ha hb w hN

end Go.Proofs.YtpjeaajjlkgekaaDoor
