/-
  NETS OF GATES, in numbers; contracts of small functions. No statement is proved here.
-/
import Derived.Test.YtpjeaajjlkgekaaDoorMem
import Derived.Deep.QuietTactic
import Derived.BigQuiet
import Derived.LoopTactic
import Derived.WalkLawsBesides
namespace Go.Proofs.YtpjeaajjlkgekaaDoor
open Go.RowKit
set_option linter.unusedVariables false
set_option linter.unusedSimpArgs false

namespace Gt
def inS (lo hi n : Int) : Bool := decide (lo ≤ n) && decide (n ≤ hi)
theorem inS_iff {lo hi n : Int} : inS lo hi n = true ↔ lo ≤ n ∧ n ≤ hi := by unfold inS; simp
theorem inS_not {lo hi n : Int} : inS lo hi n = false ↔ ¬ (lo ≤ n ∧ n ≤ hi) := by
  rw [← inS_iff]
  cases inS lo hi n <;> simp
/-- The first index below n at which f is not 0; n if there is none. -/
def fi (f : Nat → Int) : Nat → Nat → Nat
  | 0, i => i
  | m + 1, i => if f i = 0 then fi f m (i + 1) else i
theorem fi_skip (f : Nat → Int) : ∀ (k n i : Nat), k ≤ n → (∀ j, j < k → f (i + j) = 0) → fi f n i = fi f (n - k) (i + k)
  | 0, n, i, _, _ => by simp
  | k + 1, 0, i, h, _ => by omega
  | k + 1, n + 1, i, h, h0 => by
    have h1 : f i = 0 := h0 0 (by omega)
    show (if f i = 0 then fi f n (i + 1) else i) = _
    rw [if_pos h1, fi_skip f k n (i + 1) (by omega) (fun j hj => by rw [show i + 1 + j = i + (j + 1) by omega]; exact h0 (j + 1) (by omega))]
    congr 1 <;> omega
theorem fi_at {f : Nat → Int} {n k : Nat} (hk : k < n) (h0 : ∀ j, j < k → f j = 0) (h : f k ≠ 0) : fi f n 0 = k := by
  rw [fi_skip f k n 0 (by omega) (fun j hj => by rw [Nat.zero_add]; exact h0 j hj)]
  obtain ⟨m, hm⟩ : ∃ m, n - k = m + 1 := ⟨n - k - 1, by omega⟩
  rw [hm, Nat.zero_add]
  show (if f k = 0 then _ else k) = _
  rw [if_neg h]
theorem fi_none {f : Nat → Int} {n : Nat} (h0 : ∀ j, j < n → f j = 0) : fi f n 0 = n := by
  rw [fi_skip f n n 0 (by omega) (fun j hj => by rw [Nat.zero_add]; exact h0 j hj), Nat.sub_self, Nat.zero_add]
  rfl
abbrev G := Int × Int × Int
def gG (gs : List G) (i : Nat) : G := gs.getD i (0, 0, 0)
structure Nt where
  ins : Int
  gs : List G
  outs : List Int
/-- The error of a gate. -/
def Nt.gErr (n : Nt) (i : Nat) : Int :=
  if inS 1 5 (gG n.gs i).1 then
    (if inS 0 (if (gG n.gs i).1 = 5 then n.ins + n.gs.length - 1 else n.ins + i - 1) (gG n.gs i).2.1 && inS 0 (if (gG n.gs i).1 = 4 ∨ (gG n.gs i).1 = 5 then 0 else n.ins + i - 1) (gG n.gs i).2.2 then 0 else 4)
  else 2
def Nt.oErr (n : Nt) (i : Nat) : Int := if inS 0 (n.ins + n.gs.length - 1) (n.outs.getD i 0) then 0 else 4
/-- How many delays there are among the first k gates. -/
def dl (gs : List G) : Nat → Nat
  | 0 => 0
  | k + 1 => dl gs k + (if (gG gs k).1 = 5 then 1 else 0)
theorem dl_le (gs : List G) : ∀ k, dl gs k ≤ k
  | 0 => Nat.le_refl _
  | k + 1 => by
    have := dl_le gs k
    unfold dl
    split <;> omega
/-- What Check answers. -/
def Nt.chk (n : Nt) : Int × Int × Int :=
  if inS 1 6 n.ins then
    (if n.gs.length ≤ 24 ∧ (1 ≤ n.outs.length ∧ n.outs.length ≤ 4) then
      (if fi n.gErr n.gs.length 0 < n.gs.length then (2, fi n.gErr n.gs.length 0, n.gErr (fi n.gErr n.gs.length 0)) else
        (if 5 < dl n.gs n.gs.length then (1, 0, 3) else
          (if fi n.oErr n.outs.length 0 < n.outs.length then (3, fi n.oErr n.outs.length 0, 4) else (0, 0, 0))))
    else (1, 0, 3))
  else (1, 0, 7)
end Gt
open Gt
/-- The slice value '.slice A n c' reads as a list of gates, in a block below B. -/
def GatesAt (w : World) (B : Nat) (A : Option Addr) (zs : List G) : Prop :=
  0 < zs.length → ∃ ad, A = some ad ∧ ad.block < B ∧ ∀ (j : Nat) (h : j < zs.length), w.cell? (ad.add (j * 3)) = some (.int .i64 zs[j].1) ∧ w.cell? ((ad.add (j * 3)).add 1) = some (.int .i64 zs[j].2.1) ∧ w.cell? ((ad.add (j * 3)).add 2) = some (.int .i64 zs[j].2.2)
section
variable {w w' : World} {B C : Nat} {A : Option Addr} {zs : List G}
theorem GatesAt.nil (w : World) (B : Nat) (A : Option Addr) : GatesAt w B A [] := fun h => by simp at h
theorem GatesAt.below (h : GatesAt w B A zs) (hb : Below B w w') : GatesAt w' B A zs := fun h0 => by
  obtain ⟨ad, e, hlt, hc⟩ := h h0
  have k : ∀ p : Addr, p.block = ad.block → w'.cell? p = w.cell? p := fun p hp => hb.cell (by rw [hp]; exact hlt)
  exact ⟨ad, e, hlt, fun j hj => ⟨(k _ (by rw [add_block])).trans (hc j hj).1, (k _ (by rw [add_block, add_block])).trans (hc j hj).2.1, (k _ (by rw [add_block, add_block])).trans (hc j hj).2.2⟩⟩
theorem GatesAt.more (h : GatesAt w B A zs) (hB : B ≤ C) : GatesAt w C A zs := fun h0 => by
  obtain ⟨ad, e, hlt, hc⟩ := h h0
  exact ⟨ad, e, by omega, hc⟩
/-- One gate in a row. -/
structure GateAt (w : World) (p : Addr) (g : G) : Prop where
  c0 : w.cell? p = some (.int .i64 g.1)
  c1 : w.cell? ⟨p.block, p.off + 1, none⟩ = some (.int .i64 g.2.1)
  c2 : w.cell? ⟨p.block, p.off + 2, none⟩ = some (.int .i64 g.2.2)
theorem GatesAt.at_ (h : GatesAt w B A zs) {k : Nat} (hk : k < zs.length) : ∃ ad, A = some ad ∧ ad.block < B ∧ GateAt w (ad.add (k * 3)) (gG zs k) := by
  obtain ⟨ad, e, hlt, hc⟩ := h (by omega)
  have hg : gG zs k = zs[k] := by simp [gG, List.getD, hk]
  rw [hg]
  exact ⟨ad, e, hlt, ⟨(hc k hk).1, by simpa [Addr.add] using (hc k hk).2.1, by simpa [Addr.add] using (hc k hk).2.2⟩⟩
end
abbrev ntV (n : Nt) (A : Option Addr) (c : Nat) (B : Option Addr) (d : Nat) : Value := .agg #[.int .i64 n.ins, .slice A n.gs.length c, .slice B n.outs.length d]
/-- A net's gates and outputs lie in the memory. -/
structure NetAt (w : World) (A B : Option Addr) (n : Nt) : Prop where
  lg : n.gs.length ≤ maxLen
  lo : n.outs.length ≤ maxLen
  g : GatesAt w w.heap.size A n.gs
  o : IntsAt w w.heap.size B n.outs
theorem NetAt.below {w w' : World} {A B : Option Addr} {n : Nt} (h : NetAt w A B n) (hb : Below w.heap.size w w') : NetAt w' A B n :=
  ⟨h.lg, h.lo, (h.g.below hb).more hb.size, (h.o.below hb).more hb.size⟩
theorem below_low {n m : Nat} (h : n ≤ m) {w v : World} (hb : Below m w v) : Below n w v := ⟨hb.os, hb.tape, hb.output, hb.size, fun k hk => hb.block k (by omega)⟩
/-- What stands in a net's box. -/
structure NtW (w : World) (n : Nt) (A : Option Addr) (c : Nat) (B : Option Addr) (d : Nat) (U : World) : Prop where
  below : Below w.heap.size w U
  c0 : U.cell? ⟨w.heap.size, 0, none⟩ = some (.int .i64 n.ins)
  c1 : U.cell? ⟨w.heap.size, 1, none⟩ = some (.slice A n.gs.length c)
  c2 : U.cell? ⟨w.heap.size, 2, none⟩ = some (.slice B n.outs.length d)
  size : w.heap.size < U.heap.size
theorem NtW.after {w U V : World} {n : Nt} {A B : Option Addr} {c d : Nat} (h : NtW w n A c B d U) (hb : Below U.heap.size U V) : NtW w n A c B d V :=
  have hs := h.size
  have e : ∀ j, V.cell? ⟨w.heap.size, j, none⟩ = U.cell? ⟨w.heap.size, j, none⟩ := fun j => hb.cell (p := ⟨w.heap.size, j, none⟩) hs
  ⟨h.below.trans (below_low (Nat.le_of_lt hs) hb), (e 0).trans h.c0, (e 1).trans h.c1, (e 2).trans h.c2, Nat.lt_of_lt_of_le hs hb.size⟩
theorem ntW_new (w : World) (n : Nt) (A : Option Addr) (c : Nat) (B : Option Addr) (d : Nat) (T : TypeId) : NtW w n A c B d (w.alloc (.cells #[.int .i64 n.ins, .slice A n.gs.length c, .slice B n.outs.length d] T)) :=
  ⟨by go_grown, by simp [go_sem], by simp [go_sem], by simp [go_sem], by simp⟩
theorem NtW.net {w U : World} {n : Nt} {A B : Option Addr} {c d : Nat} (h : NtW w n A c B d U) (hk : NetAt w A B n) : NetAt U A B n := hk.below h.below
def RetInt (w : World) (n : Int) (e : Ending) (w' : World) : Prop := e = .returned (.int .i64 n) ∧ Below w.heap.size w w'
theorem below_drewN {n k : Nat} {w W : World} (h : Below n w W) : Below n w (W.drewN k) := h.trans ⟨rfl, rfl, rfl, Nat.le_refl _, fun _ _ => rfl⟩

theorem within_any (x lo hi : Int) (w : World) : Calls Tryd.prog 39 #[.int .i64 x, .int .i64 lo, .int .i64 hi] w fun e w' => e = .returned (.bool (inS lo hi x)) ∧ w' = w := by
  by_cases h : lo ≤ x
  · go_enter Tryd.func39, Tryd.ntmps39
    go_wp2
    go_ret
    simp [h, inS]
  · go_enter Tryd.func39, Tryd.ntmps39
    go_wp2
    go_ret
    refine ⟨?_, rfl⟩
    simp [h, inS]
    intro h1
    omega
theorem rin_any (x lo hi : Int) (w : World) : Calls Tryd.prog 43 #[.int .i64 x, .int .i64 lo, .int .i64 hi] w fun e w' => e = .returned (.bool (inS lo hi x)) ∧ w' = w := by
  by_cases h : lo ≤ x
  · go_enter Tryd.func43, Tryd.ntmps43
    go_wp2
    go_ret
    simp [h, inS]
  · go_enter Tryd.func43, Tryd.ntmps43
    go_wp2
    go_ret
    refine ⟨?_, rfl⟩
    simp [h, inS]
    intro h1
    omega
theorem signals_any (n : Nt) (A : Option Addr) (c : Nat) (B : Option Addr) (d : Nat) (hi : 1 ≤ n.ins ∧ n.ins ≤ 6) (hl : n.gs.length ≤ 24) (w : World) :
    Calls Tryd.prog 61 #[ntV n A c B d] w (RetInt w (n.ins + n.gs.length)) := by
  go_enter Tryd.func61, Tryd.ntmps61
  go_wp2
  go_ret
  exact ⟨rfl, by go_grown⟩
theorem takes_any (k : Int) (hk : 1 ≤ k ∧ k ≤ 5) (w : World) : Calls Tryd.prog 60 #[.int .i64 k] w fun e w' => e = .returned (.int .i64 (if k = 4 ∨ k = 5 then 1 else 2)) ∧ w' = w := by
  obtain rfl | rfl | rfl | rfl | rfl : k = 1 ∨ k = 2 ∨ k = 3 ∨ k = 4 ∨ k = 5 := by omega
  all_goals
    go_enter Tryd.func60, Tryd.ntmps60
    go_wp2
    go_ret
    exact ⟨rfl, rfl⟩
end Go.Proofs.YtpjeaajjlkgekaaDoor
