/-
  CONTRACTS OF isSafe, and of what safeTemps yields. No statement is proved here.
-/
import Derived.Test.YtplipfcnjmgicaaSh3
import Derived.RangeFuncNested
import Derived.RangeFuncBound
import Derived.RangeFuncCalls
import Derived.RangeFuncLeaves
import Derived.Shelf.Abstract
import Derived.Shelf.RegionOpen
import Derived.OwnWalkIn
import Derived.TacticsInMore
import Derived.LoopNIn
import Derived.LoopIn
namespace Go.Proofs.Ytplipfcnjmgicaa
open Go.RowKit Go.Shelf
set_option linter.unusedVariables false
set_option linter.unusedSimpArgs false
attribute [local go_sem] Oper.semAt_some

/-- The line is safe at the temperature T. -/
def safeAt (a0 a1 a2 a3 a4 a5 T : Int) : Bool := decide (shiftOf a2 a5 (lateOf a0 a1 a2 a3 a4 T) = 0) && !lostOf a2 a5 (lateOf a0 a1 a2 a3 a4 T)

theorem isSafe_far (a0 a1 a2 a3 a4 a5 T : Int) (hT : ¬ (-500 ≤ T ∧ T ≤ 1000)) (w : World) :
    Calls Try.prog 81 #[.agg #[.int .i64 a0, .int .i64 a1, .int .i64 a2, .int .i64 a3, .int .i64 a4, .int .i64 a5], .int .i64 T] w fun e w' => e = .returned (.bool false) ∧ Below w.heap.size w w' := by
  go_enter Try.func81, Try.ntmps81
  go_wp2_with fail
  refine (temp_f T hT _).mono ?_; rintro e w' ⟨rfl, rfl⟩
  go_wp2
  go_ret
  exact ⟨rfl, by go_grown⟩

set_option maxHeartbeats 2000000 in
theorem isSafe_ok (a0 a1 a2 a3 a4 a5 T : Int) (h : OkLine a0 a1 a2 a3 a4 a5) (hT : -500 ≤ T ∧ T ≤ 1000) (w : World) :
    Calls Try.prog 81 #[.agg #[.int .i64 a0, .int .i64 a1, .int .i64 a2, .int .i64 a3, .int .i64 a4, .int .i64 a5], .int .i64 T] w fun e w' => e = .returned (.bool (safeAt a0 a1 a2 a3 a4 a5 T)) ∧ Below w.heap.size w w' := by
  have K := shiftAt_any a0 a1 a2 a3 a4 a5 T h hT
  unfold safeAt
  generalize shiftOf a2 a5 (lateOf a0 a1 a2 a3 a4 T) = S at *
  generalize lostOf a2 a5 (lateOf a0 a1 a2 a3 a4 T) = B at *
  have KH := Lib.hid K
  clear K
  by_cases hS : S = 0
  · subst hS
    go_enter Try.func81, Try.ntmps81
    go_wp2_with fail
    refine (temp_t T hT _).mono ?_; rintro e w' ⟨rfl, rfl⟩
    go_wp2_with fail
    refine (KH.out _).mono ?_; rintro e w1 ⟨rfl, hb⟩
    go_wp2
    go_ret
    refine ⟨by simp, ?_⟩
    have hs := hb.size
    simp only [World.size_alloc] at hs hb
    exact ((Below.refl _ w).alloc (Nat.le_refl _) _).trans (below_down (by omega) hb)
  · have hS1 : (S == 0) = false := by simpa using hS
    have HS : Hid (decide (S = 0) = false) := Lib.hid (by simpa using hS)
    clear hS
    go_enter Try.func81, Try.ntmps81
    go_wp2_with fail
    refine (temp_t T hT _).mono ?_; rintro e w' ⟨rfl, rfl⟩
    go_wp2_with fail
    refine (KH.out _).mono ?_; rintro e w1 ⟨rfl, hb⟩
    go_wp2
    go_ret
    refine ⟨by rw [HS.out]; simp, ?_⟩
    have hs := hb.size
    simp only [World.size_alloc] at hs hb
    exact ((Below.refl _ w).alloc (Nat.le_refl _) _).trans (below_down (by omega) hb)

/-- What of the temperatures below x is as f says. -/
def upS (f : Int → Bool) (x : Int) : List Int := ((List.range (x + 500).toNat).map (fun j : Nat => (j : Int) - 500)).filter f
theorem upS_start (f : Int → Bool) : upS f (-500) = [] := rfl
theorem upS_succ (f : Int → Bool) {x : Int} (h : -500 ≤ x) : upS f (x + 1) = upS f x ++ if f x then [x] else [] := by
  unfold upS
  have e1 : (x + 1 + 500).toNat = (x + 500).toNat + 1 := by omega
  rw [e1, List.range_succ, List.map_append, List.filter_append]
  have e2 : ((x + 500).toNat : Int) - 500 = x := by omega
  simp only [List.map_cons, List.map_nil, List.filter_cons, List.filter_nil, e2]
theorem upS_length (f : Int → Bool) {x : Int} (h1 : -500 ≤ x) (h2 : x ≤ 1000) : (upS f x).length < 1501 := by
  have h := List.length_filter_le f ((List.range (x + 500).toNat).map (fun j : Nat => (j : Int) - 500))
  simp only [List.length_map, List.length_range] at h
  unfold upS
  omega

def AllOrPart (f : Int → Bool) (J Jx : List Int → World → Prop) (W : World) : Prop := (∃ xs, xs = upS f 1001 ∧ J xs W) ∨ (∃ pre, (∃ x, pre = upS f x) ∧ Jx pre W)

set_option maxRecDepth 100000 in
set_option maxHeartbeats 2000000 in
theorem safes_in (f : Int → Bool) (a0 a1 a2 a3 a4 a5 : Int)
    (HS : Hid (∀ T, -500 ≤ T → T ≤ 1000 → ∀ w, Calls Try.prog 81 #[.agg #[.int .i64 a0, .int .i64 a1, .int .i64 a2, .int .i64 a3, .int .i64 a4, .int .i64 a5], .int .i64 T] w fun e w' => e = .returned (.bool (f T)) ∧ Below w.heap.size w w'))
    (n : Nat) (hn : 1 ≤ n) (l Bs n₀ : Nat) (J Jx : List Int → World → Prop) (hJ : Hid (∀ s A B, J s A → Below A.heap.size A B → J s B))
    (hY : Hid (∀ pre x W, J pre W → pre.length < 1501 → YieldAt Fence.wide (n - 1) Try.prog l #[.int .i64 x] W fun e W' =>
      (e = .returned (.bool true) ∧ J (pre ++ [x]) W' ∧ Below n₀ W W') ∨ (e = .returned (.bool false) ∧ Jx (pre ++ [x]) W')))
    (W : World) (hB : Bs < n₀) (hnW : n₀ ≤ W.heap.size)
    (hc : Hid (W.cell? ⟨Bs, 0, none⟩ = some (.int .i64 a0) ∧ W.cell? ⟨Bs, 1, none⟩ = some (.int .i64 a1) ∧ W.cell? ⟨Bs, 2, none⟩ = some (.int .i64 a2) ∧ W.cell? ⟨Bs, 3, none⟩ = some (.int .i64 a3) ∧ W.cell? ⟨Bs, 4, none⟩ = some (.int .i64 a4) ∧ W.cell? ⟨Bs, 5, none⟩ = some (.int .i64 a5))) (h0 : J [] W) :
    CallsIn Fence.wide n Try.prog 88 #[.func (.yield l) #[] #[], .pointer (some ⟨Bs, 0, none⟩)] W fun e W' => (∃ v, e = .returned v) ∧ AllOrPart f J Jx W' := by
  refine callsIn_of_wp Try.func88 rfl trivial ?_ rfl
  simp only [Try.ntmps88, List.size_toArray, List.length_cons, List.length_nil, Nat.reduceAdd, Nat.reduceSub, Array.replicate_succ, Array.replicate_zero, List.push_toArray, List.append_toArray, List.nil_append, List.cons_append]
  gi_wp2
  gi_loopw [3] (fun i wr => ∃ x : Int, -500 ≤ x ∧ x ≤ 1001 ∧ i = .int .i64 x ∧ J (upS f x) wr ∧ Below n₀ W wr) (fun i _ => (1001 - intOf i).toNat)
  case atStart => exact ⟨-500, by omega, by omega, rfl, h0, Below.refl _ _⟩
  case round =>
    obtain ⟨x, hx1, hx2, rfl, hJs, hnx⟩ := hrel
    have hsz := hnx.size
    by_cases hlt : x ≤ 1000
    · obtain ⟨c0, c1, c2, c3, c4, c5⟩ := hc.out
      have d0 := (hnx.cell (p := ⟨Bs, 0, none⟩) hB).trans c0
      have d1 := (hnx.cell (p := ⟨Bs, 1, none⟩) hB).trans c1
      have d2 := (hnx.cell (p := ⟨Bs, 2, none⟩) hB).trans c2
      have d3 := (hnx.cell (p := ⟨Bs, 3, none⟩) hB).trans c3
      have d4 := (hnx.cell (p := ⟨Bs, 4, none⟩) hB).trans c4
      have d5 := (hnx.cell (p := ⟨Bs, 5, none⟩) hB).trans c5
      clear c0 c1 c2 c3 c4 c5
      have KS := Lib.hid (HS.out x hx1 hlt)
      have hu := upS_succ f hx1
      cases hf : f x with
      | true =>
        rw [hf] at KS hu
        have HU : Hid (upS f (x + 1) = upS f x ++ [x]) := hu
        clear hu hf
        gi_wp2_with fail
        refine ⟨trivial, ?_⟩
        refine (callsIn_wide.2 (KS.out _)).mono ?_; rintro e w1 ⟨rfl, hb1⟩
        have hJ1 := hJ.out _ _ _ hJs hb1
        obtain ⟨fn, tmps, assign, body, hy, hR⟩ := hY.out _ x w1 hJ1 (upS_length f hx1 hlt)
        have hb1' : Below n₀ W w1 := hnx.trans (below_down (by omega) hb1)
        clear hb1 d0 d1 d2 d3 d4 d5
        gi_wp2
        refine hR.mono ?_
        rintro e W3 (⟨rfl, hJ3, hk3⟩ | ⟨rfl, hJx3⟩)
        · gi_wp2
          go_roundw
          case rel => exact ⟨x + 1, by omega, by omega, rfl, by rw [HU.out]; exact hJ3, hb1'.trans hk3⟩
          case measure => simp [intOf]; omega
        · gi_wp2
          refine bodyPost_ret (results_none rfl _ _ _) rfl ?_
          exact ⟨⟨_, rfl⟩, .inr ⟨_, ⟨x + 1, by rw [HU.out]⟩, hJx3⟩⟩
      | false =>
        rw [hf] at KS hu
        have HU : Hid (upS f (x + 1) = upS f x) := Lib.hid (by simpa using hu)
        clear hu hf
        gi_wp2_with fail
        refine ⟨trivial, ?_⟩
        refine (callsIn_wide.2 (KS.out _)).mono ?_; rintro e w1 ⟨rfl, hb1⟩
        have hJ1 := hJ.out _ _ _ hJs hb1
        have hb1' : Below n₀ W w1 := hnx.trans (below_down (by omega) hb1)
        clear hb1 d0 d1 d2 d3 d4 d5
        gi_wp2
        refine ⟨fun _ h => (by cases h), ?_⟩
        gi_wp2
        go_roundw
        case rel => exact ⟨x + 1, by omega, by omega, rfl, by rw [HU.out]; exact hJ1, hb1'⟩
        case measure => simp [intOf]; omega
    · obtain rfl : x = 1001 := by omega
      gi_wp2
      go_end0
      exact ⟨⟨_, rfl⟩, .inl ⟨_, rfl, hJs⟩⟩

/-- **WHAT safeTemps HANDS BACK**: the temperatures at which the line is safe, in order. -/
theorem safes_stops (f : Int → Bool) (a0 a1 a2 a3 a4 a5 : Int)
    (HS : ∀ T, -500 ≤ T → T ≤ 1000 → ∀ w, Calls Try.prog 81 #[.agg #[.int .i64 a0, .int .i64 a1, .int .i64 a2, .int .i64 a3, .int .i64 a4, .int .i64 a5], .int .i64 T] w fun e w' => e = .returned (.bool (f T)) ∧ Below w.heap.size w w')
    (n : Nat) (hn : 1 ≤ n) (Bs n₀ : Nat) (w : World) (hB : Bs < n₀) (hnW : n₀ ≤ w.heap.size)
    (hc : w.cell? ⟨Bs, 0, none⟩ = some (.int .i64 a0) ∧ w.cell? ⟨Bs, 1, none⟩ = some (.int .i64 a1) ∧ w.cell? ⟨Bs, 2, none⟩ = some (.int .i64 a2) ∧ w.cell? ⟨Bs, 3, none⟩ = some (.int .i64 a3) ∧ w.cell? ⟨Bs, 4, none⟩ = some (.int .i64 a4) ∧ w.cell? ⟨Bs, 5, none⟩ = some (.int .i64 a5)) :
    SeqStopsK Fence.wide n Try.prog 88 #[.pointer (some ⟨Bs, 0, none⟩)] (fun x : Int => #[Value.int .i64 x]) (Below n₀) (fun ys => ys = upS f 1001) (fun pre => ∃ x, pre = upS f x) 1501 w := fun l J Jx W hW hJ _ hY h0 => by
  have c := fun (j : Nat) => hW.cell (p := ⟨Bs, j, none⟩) (show Bs < w.heap.size by omega)
  obtain ⟨c0, c1, c2, c3, c4, c5⟩ := hc
  exact safes_in f a0 a1 a2 a3 a4 a5 (Lib.hid HS) n hn l Bs n₀ J Jx (Lib.hid fun s A B h hb => hJ s A B none h ⟨hb.os, hb.tape, hb.output, hb.size, fun k hk _ => hb.block k hk⟩ (fun r e => by cases e))
    (Lib.hid hY) W hB (Nat.le_trans hnW hW.size) (Lib.hid ⟨(c 0).trans c0, (c 1).trans c1, (c 2).trans c2, (c 3).trans c3, (c 4).trans c4, (c 5).trans c5⟩) h0
end Go.Proofs.Ytplipfcnjmgicaa
