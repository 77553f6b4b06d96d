/-
  WHAT rounds YIELDS. No statement is proved here.
-/
import Derived.Test.YtplipfcnjmgicaaSafe1
import Derived.Test.YtplipfcnjmgicaaPs8
namespace Go.Proofs.Ytplipfcnjmgicaa
open Go.RowKit Go.Shelf
set_option linter.unusedVariables false
set_option linter.unusedSimpArgs false
attribute [local go_sem] Oper.semAt_some

def AllOrTake {α : Type} (all : List α) (J Jx : List α → World → Prop) (W : World) : Prop := (∃ xs, xs = all ∧ J xs W) ∨ (∃ pre, (∃ k, pre = all.take k) ∧ Jx pre W)

/-- A line in a block. -/
structure LineAt (W : World) (B : Nat) (a0 a1 a2 a3 a4 a5 : Int) : Prop where
  l0 : W.cell? ⟨B, 0, none⟩ = some (.int .i64 a0)
  l1 : W.cell? ⟨B, 1, none⟩ = some (.int .i64 a1)
  l2 : W.cell? ⟨B, 2, none⟩ = some (.int .i64 a2)
  l3 : W.cell? ⟨B, 3, none⟩ = some (.int .i64 a3)
  l4 : W.cell? ⟨B, 4, none⟩ = some (.int .i64 a4)
  l5 : W.cell? ⟨B, 5, none⟩ = some (.int .i64 a5)
theorem LineAt.below {W V : World} {B n : Nat} {a0 a1 a2 a3 a4 a5 : Int} (h : LineAt W B a0 a1 a2 a3 a4 a5) (hb : Below n W V) (hB : B < n) : LineAt V B a0 a1 a2 a3 a4 a5 :=
  have c : ∀ j, V.cell? ⟨B, j, none⟩ = W.cell? ⟨B, j, none⟩ := fun j => hb.cell (p := ⟨B, j, none⟩) hB
  ⟨(c 0).trans h.l0, (c 1).trans h.l1, (c 2).trans h.l2, (c 3).trans h.l3, (c 4).trans h.l4, (c 5).trans h.l5⟩

/-- Some blocks stay as they are. -/
structure Keeps (S : Nat → Prop) (A B : World) : Prop where
  size : A.heap.size ≤ B.heap.size
  block : ∀ k, S k → B.heap[k]? = A.heap[k]?
theorem Keeps.refl (S : Nat → Prop) (A : World) : Keeps S A A := ⟨Nat.le_refl _, fun _ _ => rfl⟩
theorem Keeps.trans {S : Nat → Prop} {A B C : World} (h : Keeps S A B) (k : Keeps S B C) : Keeps S A C := ⟨Nat.le_trans h.size k.size, fun j hj => (k.block j hj).trans (h.block j hj)⟩
theorem Keeps.of_below {S : Nat → Prop} {n : Nat} {A B : World} (h : Below n A B) (hS : ∀ k, S k → k < n) : Keeps S A B := ⟨h.size, fun k hk => h.block k (hS k hk)⟩
theorem Keeps.cell {S : Nat → Prop} {A B : World} (h : Keeps S A B) {p : Addr} (hp : S p.block) : B.cell? p = A.cell? p := World.cell?_of_block (h.block _ hp)
theorem Keeps.setCell {S : Nat → Prop} {A B : World} (h : Keeps S A B) {p : Addr} (hp : ¬ S p.block) (u : Value) : Keeps S A (B.setCell p u) :=
  ⟨by simpa [World.setCell] using h.size, fun k hk => (Below.heap_setCell B p u k (fun e => hp (by rw [← e]; exact hk))).trans (h.block k hk)⟩
theorem Keeps.drew {S : Nat → Prop} {A B : World} (h : Keeps S A B) : Keeps S A B.drew := ⟨h.size, h.block⟩
theorem Keeps.drewN {S : Nat → Prop} {A B : World} (h : Keeps S A B) (n : Nat) : Keeps S A (B.drewN n) := ⟨h.size, h.block⟩
theorem LineAt.keeps {S : Nat → Prop} {W V : World} {B : Nat} {a0 a1 a2 a3 a4 a5 : Int} (h : LineAt W B a0 a1 a2 a3 a4 a5) (hb : Keeps S W V) (hB : S B) : LineAt V B a0 a1 a2 a3 a4 a5 :=
  have c : ∀ j, V.cell? ⟨B, j, none⟩ = W.cell? ⟨B, j, none⟩ := fun j => hb.cell (p := ⟨B, j, none⟩) hB
  ⟨(c 0).trans h.l0, (c 1).trans h.l1, (c 2).trans h.l2, (c 3).trans h.l3, (c 4).trans h.l4, (c 5).trans h.l5⟩
theorem ListAt.keeps {α : Type} {f : α → Value} {S : Nat → Prop} {W V : World} {B : Nat} {A : Option Addr} {xs : List α} (h : ListAt f W B A xs) (hb : Keeps S W V) (hS : ∀ k, k < B → S k) : ListAt f V B A xs := fun h0 => by
  obtain ⟨ad, e, hlt, hc⟩ := h h0
  exact ⟨ad, e, hlt, fun j hj => (hb.cell (p := ad.add j) (by rw [add_block]; exact hS _ hlt)).trans (hc j hj)⟩

set_option maxRecDepth 100000 in
set_option maxHeartbeats 2000000 in
theorem rounds_in (f : Int → Int × Bool) (a0 a1 a2 a3 a4 a5 : Int) (ts : List Int) (hlen : ts.length ≤ 60) (A : Option Addr) (c : Nat)
    (HS : Hid (∀ T ∈ ts, ∀ w, Calls Try.prog 57 #[.agg #[.int .i64 a0, .int .i64 a1, .int .i64 a2, .int .i64 a3, .int .i64 a4, .int .i64 a5], .int .i64 T] w fun e w' => e = .returned (.tuple #[.int .i64 (f T).1, .bool (f T).2]) ∧ Below w.heap.size w w'))
    (n : Nat) (hn : 1 ≤ n) (l Bt Bs n₀ : Nat) (S : Nat → Prop) (J Jx : List (Int × Bool) → World → Prop) (hJ : Hid (∀ s A B, J s A → Below A.heap.size A B → J s B))
    (hY : Hid (∀ pre (x : Int × Bool) W, J pre W → pre.length < 61 → YieldAt Fence.wide (n - 1) Try.prog l #[.int .i64 x.1, .bool x.2] W fun e W' =>
      (e = .returned (.bool true) ∧ J (pre ++ [x]) W' ∧ Keeps S W W') ∨ (e = .returned (.bool false) ∧ Jx (pre ++ [x]) W')))
    (W : World) (hBs : S Bs) (hBt : S Bt) (hn0 : ∀ k, k < n₀ → S k) (hSW : ∀ k, S k → k < W.heap.size) (hL : LineAt W Bs a0 a1 a2 a3 a4 a5) (ht : W.cell? ⟨Bt, 0, none⟩ = some (.slice A ts.length c)) (hR : IntsAt W n₀ A ts) (h0 : J [] W) :
    CallsIn Fence.wide n Try.prog 89 #[.func (.yield l) #[] #[], .pointer (some ⟨Bt, 0, none⟩), .pointer (some ⟨Bs, 0, none⟩)] W fun e W' => (∃ v, e = .returned v) ∧ AllOrTake (ts.map f) J Jx W' := by
  refine callsIn_of_wp Try.func89 rfl trivial ?_ rfl
  simp only [Try.ntmps89, List.size_toArray, List.length_cons, List.length_nil, Nat.reduceAdd, Nat.reduceSub, Array.replicate_succ, Array.replicate_zero, List.push_toArray, List.append_toArray, List.nil_append, List.cons_append]
  gi_wp2
  gi_loopw [10] (fun i wr => ∃ k : Nat, k ≤ ts.length ∧ i = .int .i64 k ∧ J ((ts.take k).map f) wr ∧ Keeps S W wr) (fun i _ => ts.length - (intOf i).toNat)
  case atStart => exact ⟨0, by omega, rfl, h0, Keeps.refl _ _⟩
  case round =>
    obtain ⟨k, hk, rfl, hJs, hnx⟩ := hrel
    have hsz := hnx.size
    by_cases hlt : k < ts.length
    · obtain ⟨ad, rfl, hlb, hcc⟩ := (hR.keeps hnx hn0).at_ hlt
      obtain ⟨d0, d1, d2, d3, d4, d5⟩ := hL.keeps hnx hBs
      have KS := Lib.hid (HS.out ts[k] (List.getElem_mem _))
      have HU : Hid ((ts.take (k + 1)).map f = (ts.take k).map f ++ [f ts[k]]) := Lib.hid (by rw [List.take_succ_eq_append_getElem hlt, List.map_append]; rfl)
      gi_wp2_with fail
      refine ⟨trivial, ?_⟩
      refine (callsIn_wide.2 (KS.out _)).mono ?_; rintro e w1 ⟨rfl, hb1⟩
      have hJ1 := hJ.out _ _ _ hJs hb1
      obtain ⟨fn, tmps, assign, body, hy, hRy⟩ := hY.out _ (f ts[k]) w1 hJ1 (by simp; omega)
      have hb1' : Keeps S W w1 := hnx.trans (Keeps.of_below hb1 fun k hk => by have := hSW k hk; omega)
      clear hb1 d0 d1 d2 d3 d4 d5 hcc
      gi_wp2
      refine hRy.mono ?_
      rintro e W3 (⟨rfl, hJ3, hk3⟩ | ⟨rfl, hJx3⟩)
      · gi_wp2
        go_roundw
        case rel => exact ⟨k + 1, by omega, by go_num, by rw [HU.out]; exact hJ3, hb1'.trans hk3⟩
        case measure => simp [intOf]; omega
      · gi_wp2
        refine bodyPost_ret (results_none rfl _ _ _) rfl ?_
        exact ⟨⟨_, rfl⟩, .inr ⟨_, ⟨k + 1, by rw [← List.map_take, HU.out]⟩, hJx3⟩⟩
    · obtain rfl : k = ts.length := by omega
      rw [List.take_length] at hJs
      gi_wp2
      go_end0
      exact ⟨⟨_, rfl⟩, .inl ⟨_, rfl, hJs⟩⟩

/-- **WHAT rounds HANDS BACK**: by how much pulses are late, temperature by temperature. -/
theorem rounds_stops (f : Int → Int × Bool) (a0 a1 a2 a3 a4 a5 : Int) (ts : List Int) (hlen : ts.length ≤ 60) (A : Option Addr) (c : Nat)
    (HS : ∀ T ∈ ts, ∀ w, Calls Try.prog 57 #[.agg #[.int .i64 a0, .int .i64 a1, .int .i64 a2, .int .i64 a3, .int .i64 a4, .int .i64 a5], .int .i64 T] w fun e w' => e = .returned (.tuple #[.int .i64 (f T).1, .bool (f T).2]) ∧ Below w.heap.size w w')
    (n : Nat) (hn : 1 ≤ n) (Bt Bs n₀ : Nat) (S : Nat → Prop) (w : World) (hBs : S Bs) (hBt : S Bt) (hn0 : ∀ k, k < n₀ → S k) (hSW : ∀ k, S k → k < w.heap.size)
    (hL : LineAt w Bs a0 a1 a2 a3 a4 a5) (ht : w.cell? ⟨Bt, 0, none⟩ = some (.slice A ts.length c)) (hR : IntsAt w n₀ A ts) :
    SeqStopsK Fence.wide n Try.prog 89 #[.pointer (some ⟨Bt, 0, none⟩), .pointer (some ⟨Bs, 0, none⟩)] (fun x : Int × Bool => #[Value.int .i64 x.1, Value.bool x.2]) (Keeps S) (fun ys => ys = ts.map f) (fun pre => ∃ k, pre = (ts.map f).take k) 61 w := fun l J Jx W hW hJ _ hY h0 =>
  have hW' : Keeps S w W := Keeps.of_below hW hSW
  rounds_in f a0 a1 a2 a3 a4 a5 ts hlen A c (Lib.hid HS) n hn l Bt Bs n₀ S J Jx (Lib.hid fun s A B h hb => hJ s A B none h ⟨hb.os, hb.tape, hb.output, hb.size, fun k hk _ => hb.block k hk⟩ (fun r e => by cases e))
    (Lib.hid hY) W hBs hBt hn0 (fun k hk => Nat.lt_of_lt_of_le (hSW k hk) hW.size) (hL.keeps hW' hBs) ((hW'.cell (p := ⟨Bt, 0, none⟩) hBt).trans ht) (hR.keeps hW' hn0) h0
end Go.Proofs.Ytplipfcnjmgicaa
