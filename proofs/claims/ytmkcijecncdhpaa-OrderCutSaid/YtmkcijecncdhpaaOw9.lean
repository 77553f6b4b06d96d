/-
  WHAT comeBy YIELDS. No statement is proved here.
-/
import Derived.Test.YtmkcijecncdhpaaOw8
import Derived.RangeFuncNested
import Derived.RangeFuncBound
import Derived.RangeFuncCalls
import Derived.RangeFuncLeaves
import Derived.Shelf.Abstract
import Derived.Shelf.RegionOpen
import Derived.OwnWalkIn
import Derived.TacticsInMore
import Derived.LoopNIn
import Derived.LoopIn
namespace Go.Proofs.Ytmkcijecncdhpaa
open Go.RowKit Go.Shelf
set_option linter.unusedVariables false
set_option linter.unusedSimpArgs false
attribute [local go_sem] Oper.semAt_some

def AllOrTake {α : Type} (all : List α) (J Jx : List α → World → Prop) (W : World) : Prop := (∃ xs, xs = all ∧ J xs W) ∨ (∃ pre, (∃ k, pre = all.take k) ∧ Jx pre W)

/-- Some blocks stay as they are. -/
structure Keeps (S : Nat → Prop) (A B : World) : Prop where
  size : A.heap.size ≤ B.heap.size
  block : ∀ k, S k → B.heap[k]? = A.heap[k]?
theorem Keeps.refl (S : Nat → Prop) (A : World) : Keeps S A A := ⟨Nat.le_refl _, fun _ _ => rfl⟩
theorem Keeps.trans {S : Nat → Prop} {A B C : World} (h : Keeps S A B) (k : Keeps S B C) : Keeps S A C := ⟨Nat.le_trans h.size k.size, fun j hj => (k.block j hj).trans (h.block j hj)⟩
theorem Keeps.of_below {S : Nat → Prop} {n : Nat} {A B : World} (h : Below n A B) (hS : ∀ k, S k → k < n) : Keeps S A B := ⟨h.size, fun k hk => h.block k (hS k hk)⟩
theorem Keeps.cell {S : Nat → Prop} {A B : World} (h : Keeps S A B) {p : Addr} (hp : S p.block) : B.cell? p = A.cell? p := World.cell?_of_block (h.block _ hp)
theorem Keeps.setCell {S : Nat → Prop} {A B : World} (h : Keeps S A B) {p : Addr} (hp : ¬ S p.block) (u : Value) : Keeps S A (B.setCell p u) :=
  ⟨by simpa [World.setCell] using h.size, fun k hk => (Below.heap_setCell B p u k (fun e => hp (by rw [← e]; exact hk))).trans (h.block k hk)⟩
theorem Keeps.drew {S : Nat → Prop} {A B : World} (h : Keeps S A B) : Keeps S A B.drew := ⟨h.size, h.block⟩
theorem Keeps.drewN {S : Nat → Prop} {A B : World} (h : Keeps S A B) (n : Nat) : Keeps S A (B.drewN n) := ⟨h.size, h.block⟩
theorem ListAt.keeps {α : Type} {f : α → Value} {S : Nat → Prop} {W V : World} {B : Nat} {A : Option Addr} {xs : List α} (h : ListAt f W B A xs) (hb : Keeps S W V) (hS : ∀ k, k < B → S k) : ListAt f V B A xs := fun h0 => by
  obtain ⟨ad, e, hlt, hc⟩ := h h0
  exact ⟨ad, e, hlt, fun j hj => (hb.cell (p := ad.add j) (by rw [add_block]; exact hS _ hlt)).trans (hc j hj)⟩


theorem comeBy_any (t : Int) (A : Option Addr) (n c : Nat) (w : World) :
    Calls Try.prog 69 #[.int .i64 t, .slice A n c] w fun e w' =>
      e = .returned (.func (.func 80) #[] #[.pointer (some ⟨w.heap.size, 0, none⟩), .pointer (some ⟨w.heap.size + 1, 0, none⟩)]) ∧
      w' = (w.alloc (.cells #[.int .i64 t] 3)).alloc (.cells #[.slice A n c] 95) := by
  go_enter Try.func69, Try.ntmps69
  go_wp2
  go_ret
  exact ⟨rfl, rfl⟩

/-- Waits in a row of the call's own. -/
def WaitsAt (U : World) (B : Nat) (A : Option Addr) (l : List (Int × Int)) : Prop :=
  0 < l.length → ∃ ad, A = some ad ∧ ad.block < B ∧ ∀ (j : Nat) (h : j < l.length), U.cell? (ad.add (j * 2)) = some (.int .i64 l[j].1) ∧ U.cell? ⟨(ad.add (j * 2)).block, (ad.add (j * 2)).off + 1, none⟩ = some (.int .i64 l[j].2)
theorem WaitsAt.keeps {S : Nat → Prop} {W V : World} {B : Nat} {A : Option Addr} {l : List (Int × Int)} (h : WaitsAt W B A l) (hb : Keeps S W V) (hS : ∀ ad, A = some ad → S ad.block) : WaitsAt V B A l := fun h0 => by
  obtain ⟨ad, e, hlt, hc⟩ := h h0
  exact ⟨ad, e, hlt, fun j hj => ⟨(hb.cell (p := ad.add (j * 2)) (by rw [add_block]; exact hS _ e)).trans (hc j hj).1, (hb.cell (p := ⟨(ad.add (j * 2)).block, (ad.add (j * 2)).off + 1, none⟩) (by show S (ad.add (j * 2)).block; rw [add_block]; exact hS _ e)).trans (hc j hj).2⟩⟩
theorem lastC_snoc (t : Int) (l : List (Int × Int)) (x : Int × Int) : lastC t (l ++ [x]) = aft (lastC t l + x.2) x.1 := by
  rw [lastC_append]; rfl
theorem cycs_snoc (x : Int × Int) : ∀ (l : List (Int × Int)) (t : Int), cycs t (l ++ [x]) = cycs t l ++ [aft (lastC t l + x.2) x.1]
  | [], t => rfl
  | y :: l, t => by
    show aft (t + y.2) y.1 :: cycs _ (l ++ [x]) = aft (t + y.2) y.1 :: cycs _ l ++ [_]
    rw [cycs_snoc x l]
    rfl
theorem cycs_take (t : Int) (l : List (Int × Int)) (k : Nat) : (cycs t l).take k = cycs t (l.take k) := by
  induction l generalizing t k with
  | nil => simp [cycs]
  | cons x l ih =>
    cases k with
    | zero => rfl
    | succ k => simp [cycs, ih]
def WaitB (x : Int × Int) : Prop := (0 ≤ x.1 ∧ x.1 ≤ 127) ∧ 0 ≤ x.2 ∧ x.2 ≤ 12
theorem lastC_bd : ∀ (l : List (Int × Int)) (t : Int), (∀ x ∈ l, WaitB x) → t ≤ lastC t l ∧ lastC t l ≤ t + 28 * l.length
  | [], t, _ => ⟨Int.le_refl _, by simp [lastC]⟩
  | x :: l, t, h => by
    obtain ⟨h1, h2⟩ := lastC_bd l (aft (t + x.2) x.1) (fun y hy => h y (List.mem_cons_of_mem _ hy))
    have h3 := aft_bd (t + x.2) x.1
    have h4 := h x List.mem_cons_self
    unfold WaitB at h4
    show t ≤ lastC (aft (t + x.2) x.1) l ∧ lastC (aft (t + x.2) x.1) l ≤ t + 28 * (l.length + 1 : Nat)
    omega

set_option maxRecDepth 100000 in
set_option maxHeartbeats 2000000 in
theorem comes_in (t : Int) (ht : 0 ≤ t ∧ t ≤ 1000000100) (ws : List (Int × Int)) (hws : Hid (∀ x ∈ ws, WaitB x)) (hlen : ws.length ≤ 60) (A : Option Addr) (c : Nat)
    (n : Nat) (hn : 1 ≤ n) (l Bt Bs n₀ : Nat) (S : Nat → Prop) (J Jx : List Int → World → Prop) (hJ : Hid (∀ s A B, J s A → Below A.heap.size A B → J s B))
    (hY : Hid (∀ pre x W, J pre W → pre.length < 61 → YieldAt Fence.wide (n - 1) Try.prog l #[.int .i64 x] W fun e W' =>
      (e = .returned (.bool true) ∧ J (pre ++ [x]) W' ∧ Keeps S W W') ∨ (e = .returned (.bool false) ∧ Jx (pre ++ [x]) W')))
    (W : World) (hBs : S Bs) (hBt : S Bt) (hSA : ∀ ad, A = some ad → S ad.block) (hSW : ∀ k, S k → k < W.heap.size) (htc : W.cell? ⟨Bt, 0, none⟩ = some (.int .i64 t)) (hwc : W.cell? ⟨Bs, 0, none⟩ = some (.slice A ws.length c)) (hR : WaitsAt W n₀ A ws) (h0 : J [] W) :
    CallsIn Fence.wide n Try.prog 80 #[.func (.yield l) #[] #[], .pointer (some ⟨Bt, 0, none⟩), .pointer (some ⟨Bs, 0, none⟩)] W fun e W' => (∃ v, e = .returned v) ∧ AllOrTake (cycs t ws) J Jx W' := by
  refine callsIn_of_wp Try.func80 rfl trivial ?_ rfl
  simp only [Try.ntmps80, List.size_toArray, List.length_cons, List.length_nil, Nat.reduceAdd, Nat.reduceSub, Array.replicate_succ, Array.replicate_zero, List.push_toArray, List.append_toArray, List.nil_append, List.cons_append]
  gi_wp2
  gi_loopw [4, 10] (fun x i wr => ∃ k : Nat, k ≤ ws.length ∧ i = .int .i64 k ∧ x = .int .i64 (lastC t (ws.take k)) ∧ J (cycs t (ws.take k)) wr ∧ Keeps S W wr) (fun _ i _ => ws.length - (intOf i).toNat)
  case atStart => exact ⟨0, by omega, rfl, rfl, h0, Keeps.refl _ _⟩
  case round =>
    obtain ⟨k, hk, rfl, rfl, hJs, hnx⟩ := hrel
    have hsz := hnx.size
    by_cases hlt : k < ws.length
    · obtain ⟨ad, rfl, hlb, hcc⟩ := hR.keeps hnx hSA (by omega)
      obtain ⟨q0, q1⟩ := hcc k hlt
      have hx := hws.out _ (List.getElem_mem hlt)
      have hbd := lastC_bd (ws.take k) t (fun x hx => hws.out x (List.mem_of_mem_take hx))
      have htl : (ws.take k).length ≤ 60 := by have := List.length_take_le k ws; omega
      obtain ⟨⟨a1, a2⟩, b1, b2⟩ := hx
      have HU : Hid (cycs t (ws.take (k + 1)) = cycs t (ws.take k) ++ [aft (lastC t (ws.take k) + ws[k].2) ws[k].1]) := Lib.hid (by rw [List.take_succ_eq_append_getElem hlt, cycs_snoc])
      have HL : Hid (lastC t (ws.take (k + 1)) = aft (lastC t (ws.take k) + ws[k].2) ws[k].1) := Lib.hid (by rw [List.take_succ_eq_append_getElem hlt, lastC_snoc])
      have hlen2 : (cycs t (ws.take k)).length < 61 := by rw [cycs_length]; omega
      generalize ws[k].1 = xa at *
      generalize ws[k].2 = xb at *
      generalize lastC t (ws.take k) = T at *
      obtain ⟨hT1, hT2⟩ := hbd
      have KA := Lib.hid (after_any (T + xb) xa (by omega) ⟨a1, a2⟩)
      clear hcc
      gi_wp2_with fail
      refine ⟨trivial, ?_⟩
      refine (callsIn_wide.2 (KA.out _)).mono ?_; rintro e w1 ⟨rfl, hw1⟩
      have hb1 : Below wr.heap.size wr w1 := by rw [hw1]; go_grown
      clear hw1 KA
      have hJ1 := hJ.out _ _ _ hJs hb1
      generalize aft (T + xb) xa = X at *
      obtain ⟨fn, tmps, assign, body, hy, hRy⟩ := hY.out _ X w1 hJ1 hlen2
      have hb1' : Keeps S W w1 := hnx.trans (Keeps.of_below hb1 fun k hk => by have := hSW k hk; omega)
      clear hb1 q0 q1
      gi_wp2
      refine hRy.mono ?_
      rintro e W3 (⟨rfl, hJ3, hk3⟩ | ⟨rfl, hJx3⟩)
      · gi_wp2
        go_roundw
        case rel => exact ⟨k + 1, by omega, by go_num, by rw [HL.out], by rw [HU.out]; exact hJ3, hb1'.trans hk3⟩
        case measure => simp [intOf]; omega
      · gi_wp2
        refine bodyPost_ret (results_none rfl _ _ _) rfl ?_
        exact ⟨⟨_, rfl⟩, .inr ⟨_, ⟨k + 1, by rw [cycs_take, HU.out]⟩, hJx3⟩⟩
    · obtain rfl : k = ws.length := by omega
      rw [List.take_length] at hJs
      gi_wp2
      go_end0
      exact ⟨⟨_, rfl⟩, .inl ⟨_, rfl, hJs⟩⟩

/-- **WHAT comeBy HANDS BACK**: minor cycle by minor cycle. -/
theorem comes_stops (t : Int) (ht : 0 ≤ t ∧ t ≤ 1000000100) (ws : List (Int × Int)) (hws : ∀ x ∈ ws, WaitB x) (hlen : ws.length ≤ 60) (A : Option Addr) (c : Nat)
    (n : Nat) (hn : 1 ≤ n) (Bt Bs n₀ : Nat) (S : Nat → Prop) (w : World) (hBs : S Bs) (hBt : S Bt) (hSA : ∀ ad, A = some ad → S ad.block) (hSW : ∀ k, S k → k < w.heap.size)
    (htc : w.cell? ⟨Bt, 0, none⟩ = some (.int .i64 t)) (hwc : w.cell? ⟨Bs, 0, none⟩ = some (.slice A ws.length c)) (hR : WaitsAt w n₀ A ws) :
    SeqStopsK Fence.wide n Try.prog 80 #[.pointer (some ⟨Bt, 0, none⟩), .pointer (some ⟨Bs, 0, none⟩)] (fun x : Int => #[Value.int .i64 x]) (Keeps S) (fun ys => ys = cycs t ws) (fun pre => ∃ k, pre = (cycs t ws).take k) 61 w := fun l J Jx W hW hJ _ hY h0 =>
  have hW' : Keeps S w W := Keeps.of_below hW hSW
  comes_in t ht ws (Lib.hid hws) hlen A c n hn l Bt Bs n₀ S J Jx (Lib.hid fun s A B h hb => hJ s A B none h ⟨hb.os, hb.tape, hb.output, hb.size, fun k hk _ => hb.block k hk⟩ (fun r e => by cases e))
    (Lib.hid hY) W hBs hBt hSA (fun k hk => Nat.lt_of_lt_of_le (hSW k hk) hW.size) ((hW'.cell (p := ⟨Bt, 0, none⟩) hBt).trans htc) ((hW'.cell (p := ⟨Bs, 0, none⟩) hBs).trans hwc) (hR.keeps hW' hSA) h0
end Go.Proofs.Ytmkcijecncdhpaa
