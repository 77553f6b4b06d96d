/-
  CONTRACTS OF nets that are the same. No statement is proved here.
-/
import Derived.Test.YtpjeaajjlkgekaaDoorGt5
namespace Go.Proofs.YtpjeaajjlkgekaaDoor
open Go.RowKit Gt Go.Sort
set_option linter.unusedVariables false
set_option linter.unusedSimpArgs false

def RetTrue (w : World) (e : Ending) (w' : World) : Prop := e = .returned (.bool true) ∧ Below w.heap.size w w'
set_option maxRecDepth 100000 in
set_option maxHeartbeats 2000000 in
theorem ints_same (A : Option Addr) (c : Nat) (B : Option Addr) (d : Nat) (zs : List Int) (w : World) (hl : zs.length ≤ maxLen) (hA : IntsAt w w.heap.size A zs) (hB : IntsAt w w.heap.size B zs) :
    Calls Tryd.prog 12 #[.slice A zs.length c, .slice B zs.length d] w (RetTrue w) := by
  unfold maxLen at hl
  have q0 : ((zs.length : Int) != (zs.length : Int)) = false := by simp
  have HA := Lib.hid hA
  have HB := Lib.hid hB
  clear hA hB
  go_enter Tryd.func12, Tryd.ntmps12
  go_wp2
  go_loopw [5] (fun i wr => ∃ j : Nat, j ≤ zs.length ∧ i = .int .i64 j ∧ Below w.heap.size w wr) (fun i _ => zs.length - (intOf i).toNat)
  case atStart => exact ⟨0, by omega, rfl, Below.refl _ _⟩
  case round =>
    obtain ⟨j, hj, rfl, hP⟩ := hrel
    by_cases hlt : j < zs.length
    · obtain ⟨a1, rfl, _, h1⟩ := (HA.out.below hP).at_ hlt
      obtain ⟨a2, rfl, _, h2⟩ := (HB.out.below hP).at_ hlt
      have hw2 : IntKind.i64.wrap ((j : Int) + 1) = (j : Int) + 1 := by rw [IntKind.wrap_i64]; omega
      generalize zs[j] = z at *
      have qz : (z != z) = false := by simp
      have HP := Lib.hid hP
      clear hP
      go_wp2
      go_quiet (fail)
      have hP2 := below_drewN (k := nq) HP.out
      generalize wr.drewN nq = X at *
      clear h1 h2
      go_wp2
      go_roundw
      case rel => exact ⟨j + 1, by omega, by go_num, hP2⟩
      case measure => simp [intOf]; omega
    · obtain rfl : j = zs.length := by omega
      have HP := Lib.hid hP
      clear hP
      go_wp2
      go_ret
      exact ⟨rfl, HP.out⟩
/-- What stands in the boxes of two nets. -/
structure TwoN (w : World) (n : Nt) (A : Option Addr) (c : Nat) (B : Option Addr) (d : Nat) (A2 : Option Addr) (f : Nat) (B2 : Option Addr) (g : Nat) (U : World) : Prop where
  below : Below w.heap.size w U
  c0 : U.cell? ⟨w.heap.size, 0, none⟩ = some (.int .i64 n.ins)
  c1 : U.cell? ⟨w.heap.size, 1, none⟩ = some (.slice A n.gs.length c)
  c2 : U.cell? ⟨w.heap.size, 2, none⟩ = some (.slice B n.outs.length d)
  e0 : U.cell? ⟨w.heap.size + 1, 0, none⟩ = some (.int .i64 n.ins)
  e1 : U.cell? ⟨w.heap.size + 1, 1, none⟩ = some (.slice A2 n.gs.length f)
  e2 : U.cell? ⟨w.heap.size + 1, 2, none⟩ = some (.slice B2 n.outs.length g)
  size : w.heap.size + 1 < U.heap.size
theorem TwoN.after {w U V : World} {n : Nt} {A B A2 B2 : Option Addr} {c d f g : Nat} (h : TwoN w n A c B d A2 f B2 g U) (hb : Below U.heap.size U V) : TwoN w n A c B d A2 f B2 g V :=
  have hs := h.size
  have e : ∀ j, V.cell? ⟨w.heap.size, j, none⟩ = U.cell? ⟨w.heap.size, j, none⟩ := fun j => hb.cell (p := ⟨w.heap.size, j, none⟩) (by show w.heap.size < U.heap.size; omega)
  have e9 : ∀ j, V.cell? ⟨w.heap.size + 1, j, none⟩ = U.cell? ⟨w.heap.size + 1, j, none⟩ := fun j => hb.cell (p := ⟨w.heap.size + 1, j, none⟩) hs
  ⟨h.below.trans (below_low (by omega) hb), (e 0).trans h.c0, (e 1).trans h.c1, (e 2).trans h.c2, (e9 0).trans h.e0, (e9 1).trans h.e1, (e9 2).trans h.e2, Nat.lt_of_lt_of_le hs hb.size⟩
theorem twoN_new (w : World) (n : Nt) (A : Option Addr) (c : Nat) (B : Option Addr) (d : Nat) (A2 : Option Addr) (f : Nat) (B2 : Option Addr) (g : Nat) (T T2 : TypeId) :
    TwoN w n A c B d A2 f B2 g ((w.alloc (.cells #[.int .i64 n.ins, .slice A n.gs.length c, .slice B n.outs.length d] T)).alloc (.cells #[.int .i64 n.ins, .slice A2 n.gs.length f, .slice B2 n.outs.length g] T2)) :=
  ⟨by go_grown, by simp [go_sem], by simp [go_sem], by simp [go_sem], by simp [go_sem], by simp [go_sem], by simp [go_sem], by simp⟩
set_option maxRecDepth 100000 in
set_option maxHeartbeats 2000000 in
theorem nets_same (n : Nt) (A : Option Addr) (c : Nat) (B : Option Addr) (d : Nat) (A2 : Option Addr) (f : Nat) (B2 : Option Addr) (g : Nat) (w : World) (hA : NetAt w A B n) (hB : NetAt w A2 B2 n) :
    Calls Tryd.prog 16 #[ntV n A c B d, ntV n A2 f B2 g] w (RetTrue w) := by
  have hl := hA.lg
  have hlo := hA.lo
  have HLO := Lib.hid hlo
  unfold maxLen at hl hlo
  have q0 : ((n.gs.length : Int) != (n.gs.length : Int)) = false := by simp
  have q1 : (n.ins != n.ins) = false := by simp
  have HA := Lib.hid hA
  have HB := Lib.hid hB
  clear hA hB
  go_enter Tryd.func16, Tryd.ntmps16
  go_wp2_with fail
  have P0 := twoN_new w n A c B d A2 f B2 g 25 25
  generalize (w.alloc (.cells #[.int .i64 n.ins, .slice A n.gs.length c, .slice B n.outs.length d] 25)).alloc (.cells #[.int .i64 n.ins, .slice A2 n.gs.length f, .slice B2 n.outs.length g] 25) = U at *
  refine (ints_same B d B2 g n.outs U HLO.out (HA.out.below P0.below).o (HB.out.below P0.below).o).mono ?_; rintro e w1 ⟨rfl, hb1⟩
  have P1 := P0.after hb1
  have HP1 := Lib.hid P1
  clear P0 hb1
  obtain ⟨_, c0, c1, c2, e0, e1, e2, hs⟩ := P1
  go_wp2
  clear c0 c1 c2 e0 e1 e2 hs
  go_loopw [5] (fun i wr => ∃ j : Nat, j ≤ n.gs.length ∧ i = .int .i64 j ∧ TwoN w n A c B d A2 f B2 g wr) (fun i _ => n.gs.length - (intOf i).toNat)
  case atStart => exact ⟨0, by omega, rfl, HP1.out⟩
  case round =>
    obtain ⟨j, hj, rfl, P⟩ := hrel
    have HP := Lib.hid P
    obtain ⟨_, c0, c1, c2, e0, e1, e2, hs⟩ := P
    by_cases hlt : j < n.gs.length
    · obtain ⟨a1, rfl, _, ⟨g0, g1, g2⟩⟩ := (HA.out.g.below HP.out.below).at_ hlt
      obtain ⟨a2, rfl, _, ⟨k0, k1, k2⟩⟩ := (HB.out.g.below HP.out.below).at_ hlt
      have hw2 : IntKind.i64.wrap ((j : Int) + 1) = (j : Int) + 1 := by rw [IntKind.wrap_i64]; omega
      generalize gG n.gs j = z at *
      obtain ⟨x, y, t⟩ := z
      have qx : (x != x) = false := by simp
      have qy : (y != y) = false := by simp
      have qt : (t != t) = false := by simp
      have px : (x == x) = true := by simp
      have py : (y == y) = true := by simp
      have pt : (t == t) = true := by simp
      go_wp2
      go_quiet (fail)
      have P2 := HP.out.after (below_drewN (k := nq) (Below.refl _ _))
      generalize wr.drewN nq = X at *
      clear c0 c1 c2 e0 e1 e2 g0 g1 g2 k0 k1 k2 hs
      go_wp2
      go_roundw
      case rel => exact ⟨j + 1, by omega, by go_num, P2⟩
      case measure => simp [intOf]; omega
    · obtain rfl : j = n.gs.length := by omega
      go_wp2
      go_ret
      exact ⟨rfl, HP.out.below⟩
end Go.Proofs.YtpjeaajjlkgekaaDoor
