/-
  CONTRACTS OF spans of strengths, and of when a valve fails. No statement is proved here.
-/
import Derived.Test.YtgbignkkieoffaaMg7
import Derived.Test.YtgbignkkieoffaaQT
namespace Go.Proofs.Ytgbignkkieoffaa
open Go.RowKit Mg Go.Sort
set_option linter.unusedVariables false
set_option linter.unusedSimpArgs false

theorem cSp : Try.prog.cellsOf 23 = 2 := by kernel_rfl
theorem cFl : Try.prog.cellsOf 34 = 2 := by kernel_rfl
theorem cVl : Try.prog.cellsOf 81 = 7 := by kernel_rfl
namespace Mg
def commonS (a b c d : Int) : Int × Int := if max a c ≤ min b d then (max a c, min b d) else (0, -1)
def agreeS (n : Int) (p : Bool) : Int × Int := if p then (n, 1000000) else (0, n - 1)
/-- The first hour at which a strength that falls by so much is below what is needed. -/
def fb (need s wear hour : Int) : Int := if s < need then hour else if need = 0 ∨ wear = 0 then -1 else hour + (s - need) / wear + 1
def failV (k : Kd) (s : Int × Int) (hour : Int) : Int × Int := (fb (need k.st 1000) s.1 k.hi hour, fb (need k.st 1000) s.2 k.lo hour)
end Mg
abbrev pairV (s : Int × Int) : Value := .agg #[.int .i64 s.1, .int .i64 s.2]
def RetPair (w : World) (s : Int × Int) (e : Ending) (w' : World) : Prop := e = .returned (pairV s) ∧ Below w.heap.size w w'

theorem nothing_any (w : World) : Calls Try.prog 40 #[] w (RetPair w (0, -1)) := by
  go_enter Try.func40, Try.ntmps40
  go_wp2
  refine bodyPost_ret (v := pairV (0, -1)) (by simp [results, Try.results40, cSp, go_sem]) rfl ⟨rfl, ?_⟩
  go_grown
theorem agree_any (n : Int) (p : Bool) (hn : 0 ≤ n ∧ n ≤ 1000000) (w : World) : Calls Try.prog 39 #[.int .i64 n, .bool p] w (RetPair w (agreeS n p)) := by
  cases p
  · go_enter Try.func39, Try.ntmps39
    go_wp2
    refine bodyPost_ret (v := pairV (0, n - 1)) (by simp [results, Try.results39, cSp, go_sem]) rfl ⟨rfl, ?_⟩
    go_grown
  · go_enter Try.func39, Try.ntmps39
    go_wp2
    refine bodyPost_ret (v := pairV (n, 1000000)) (by simp [results, Try.results39, cSp, go_sem]) rfl ⟨rfl, ?_⟩
    go_grown
set_option maxHeartbeats 2000000 in
theorem common_any (a b c d : Int) (w : World) : Calls Try.prog 38 #[.agg #[.int .i64 a, .int .i64 b], .agg #[.int .i64 c, .int .i64 d]] w (RetPair w (commonS a b c d)) := by
  by_cases h : max a c ≤ min b d
  · have HV := Lib.hid (show commonS a b c d = (max a c, min b d) by unfold commonS; rw [if_pos h])
    generalize hm : max a c = m at *
    generalize hk : min b d = k at *
    have hm' : (if a < c then c else a) = m := by rw [← hm]; split <;> omega
    have hk' : (if d < b then d else b) = k := by rw [← hk]; split <;> omega
    clear hm hk
    go_enter Try.func38, Try.ntmps38
    go_wp2
    refine bodyPost_ret (v := pairV (m, k)) (by simp [results, Try.results38, cSp, go_sem]) rfl ⟨by rw [HV.out], ?_⟩
    go_grown
  · have HV := Lib.hid (show commonS a b c d = (0, -1) by unfold commonS; rw [if_neg h])
    generalize hm : max a c = m at *
    generalize hk : min b d = k at *
    have hm' : (if a < c then c else a) = m := by rw [← hm]; split <;> omega
    have hk' : (if d < b then d else b) = k := by rw [← hk]; split <;> omega
    clear hm hk
    have q : k < m := by omega
    go_enter Try.func38, Try.ntmps38
    go_wp2_with fail
    refine (nothing_any _).mono ?_; rintro e w1 ⟨rfl, hb⟩
    have bW : Below w.heap.size w w1 := by
      refine Below.trans (b := ((((w.alloc (Obj.cells #[Value.int IntKind.i64 a, Value.int IntKind.i64 b] 23)).alloc (Obj.cells #[Value.int IntKind.i64 c, Value.int IntKind.i64 d] 23)).alloc (Obj.cells #[Value.int IntKind.i64 0, Value.int IntKind.i64 0] 23)).alloc (Obj.cells #[Value.int IntKind.i64 m, Value.int IntKind.i64 k] 23))) (by go_grown) (below_low (by simp; omega) hb)
    have hlt : w.heap.size + 1 + 1 < ((((w.alloc (Obj.cells #[Value.int IntKind.i64 a, Value.int IntKind.i64 b] 23)).alloc (Obj.cells #[Value.int IntKind.i64 c, Value.int IntKind.i64 d] 23)).alloc (Obj.cells #[Value.int IntKind.i64 0, Value.int IntKind.i64 0] 23)).alloc (Obj.cells #[Value.int IntKind.i64 m, Value.int IntKind.i64 k] 23)).heap.size := by simp
    have c0 : w1.cell? ⟨w.heap.size + 1 + 1, 0, none⟩ = some (.int .i64 0) := by rw [hb.cell hlt]; simp [go_sem]
    have c1 : w1.cell? ⟨w.heap.size + 1 + 1, 1, none⟩ = some (.int .i64 0) := by rw [hb.cell hlt]; simp [go_sem]
    have f0 : w1.frozen? ⟨w.heap.size + 1 + 1, 0, none⟩ = false := by rw [hb.frozen hlt]; simp [go_sem]
    have f1 : w1.frozen? ⟨w.heap.size + 1 + 1, 1, none⟩ = false := by rw [hb.frozen hlt]; simp [go_sem]
    clear hb hlt
    go_wp2
    refine bodyPost_ret (v := pairV (0, -1)) (by simp [results, Try.results38, cSp, go_sem, c0, c1]) rfl ⟨by rw [HV.out], ?_⟩
    exact (bW.setCell (p := ⟨w.heap.size + 1 + 1, 0, none⟩) (by show w.heap.size ≤ w.heap.size + 1 + 1; omega) _).setCell (p := ⟨w.heap.size + 1 + 1, 1, none⟩) (by show w.heap.size ≤ w.heap.size + 1 + 1; omega) _
abbrev vlV (k : Kd) (A : Option Addr) (c : Nat) (hour : Int) (s : Int × Int) : Value := .agg #[.int .i64 k.new, .int .i64 k.lo, .int .i64 k.hi, .slice A k.st.length c, .int .i64 hour, .int .i64 s.1, .int .i64 s.2]
theorem fresh_any (k : Kd) (A : Option Addr) (c : Nat) (hour : Int) (w : World) : Calls Try.prog 37 #[kdV k A c, .int .i64 hour] w (fun e w' => e = .returned (vlV k A c hour (k.new, k.new)) ∧ Below w.heap.size w w') := by
  go_enter Try.func37, Try.ntmps37
  go_wp2
  refine bodyPost_ret (v := vlV k A c hour (k.new, k.new)) (by simp [results, Try.results37, cVl, go_sem]) rfl ⟨rfl, ?_⟩
  go_grown
/-- What stands in a valve's box. -/
structure VlW (w : World) (k : Kd) (A : Option Addr) (c : Nat) (hour : Int) (s : Int × Int) (U : World) : Prop where
  below : Below w.heap.size w U
  c0 : U.cell? ⟨w.heap.size, 0, none⟩ = some (.int .i64 k.new)
  c1 : U.cell? ⟨w.heap.size, 1, none⟩ = some (.int .i64 k.lo)
  c2 : U.cell? ⟨w.heap.size, 2, none⟩ = some (.int .i64 k.hi)
  c3 : U.cell? ⟨w.heap.size, 3, none⟩ = some (.slice A k.st.length c)
  c4 : U.cell? ⟨w.heap.size, 4, none⟩ = some (.int .i64 hour)
  c5 : U.cell? ⟨w.heap.size, 5, none⟩ = some (.int .i64 s.1)
  c6 : U.cell? ⟨w.heap.size, 6, none⟩ = some (.int .i64 s.2)
  size : w.heap.size < U.heap.size
theorem VlW.after {w U V : World} {k : Kd} {A : Option Addr} {c : Nat} {hour : Int} {s : Int × Int} (h : VlW w k A c hour s U) (hb : Below U.heap.size U V) : VlW w k A c hour s V :=
  have hs := h.size
  have e : ∀ j, V.cell? ⟨w.heap.size, j, none⟩ = U.cell? ⟨w.heap.size, j, none⟩ := fun j => hb.cell (p := ⟨w.heap.size, j, none⟩) hs
  ⟨h.below.trans (below_low (Nat.le_of_lt hs) hb), (e 0).trans h.c0, (e 1).trans h.c1, (e 2).trans h.c2, (e 3).trans h.c3, (e 4).trans h.c4, (e 5).trans h.c5, (e 6).trans h.c6, Nat.lt_of_lt_of_le hs hb.size⟩
theorem vlW_new (w : World) (k : Kd) (A : Option Addr) (c : Nat) (hour : Int) (s : Int × Int) (T : TypeId) : VlW w k A c hour s (w.alloc (.cells #[.int .i64 k.new, .int .i64 k.lo, .int .i64 k.hi, .slice A k.st.length c, .int .i64 hour, .int .i64 s.1, .int .i64 s.2] T)) :=
  ⟨by go_grown, by simp [go_sem], by simp [go_sem], by simp [go_sem], by simp [go_sem], by simp [go_sem], by simp [go_sem], by simp [go_sem], by simp⟩
theorem VlW.kind {w U : World} {k : Kd} {A : Option Addr} {c : Nat} {hour : Int} {s : Int × Int} (h : VlW w k A c hour s U) (hk : KindAt w A k) : KindAt U A k := hk.below h.below
/-- What is needed at the voltage that a valve is meant for. -/
structure NeedOk (k : Kd) : Prop where
  len : 1 ≤ k.st.length ∧ k.st.length ≤ 8
  ex : ∃ j, j < k.st.length ∧ (stG k.st j).1 ≤ 1000
  need : 0 ≤ need k.st 1000 ∧ need k.st 1000 ≤ 1000000
  wear : (0 ≤ k.lo ∧ k.lo ≤ 1000) ∧ 0 ≤ k.hi ∧ k.hi ≤ 1000
theorem needOk {k : Kd} (h : k.Ok) : NeedOk k := by
  have h0 := (step_zero (h.steps 0 (by have := h.len; omega)))
  have hx : ∃ j, j < k.st.length ∧ (stG k.st j).1 ≤ 1000 := ⟨0, by have := h.len; omega, by have := h0.1; omega⟩
  have hp := pos_spec hx
  have hn := (step_zero (h.steps _ hp.1)).2.1
  have hw := h.wear
  exact ⟨h.len, hx, hn, by omega, by omega⟩
theorem fb_quot {need s wear hour : Int} (h1 : ¬ s < need) (h2 : need ≠ 0) (h3 : wear ≠ 0) (h4 : 0 ≤ wear) : fb need s wear hour = hour + (s - need).tdiv wear + 1 := by
  unfold fb
  rw [if_neg h1, if_neg (by omega), Int.tdiv_eq_ediv_of_nonneg (by omega)]
theorem quot_in {a b : Int} (ha : 0 ≤ a ∧ a ≤ 1000000) (hb : 1 ≤ b) : 0 ≤ a.tdiv b ∧ a.tdiv b ≤ 1000000 := by
  rw [Int.tdiv_eq_ediv_of_nonneg ha.1]
  refine ⟨Int.ediv_nonneg ha.1 (by omega), ?_⟩
  have := Int.ediv_le_self b ha.1
  omega
set_option maxHeartbeats 4000000 in
theorem firstBelow_any (k : Kd) (A : Option Addr) (c : Nat) (hour : Int) (s : Int × Int) (x wear : Int) (hN : NeedOk k) (hx : 0 ≤ x ∧ x ≤ 1000000) (hw : 0 ≤ wear ∧ wear ≤ 1000) (hh : 0 ≤ hour ∧ hour ≤ 100000) (w : World) (hk : KindAt w A k) :
    Calls Try.prog 52 #[vlV k A c hour s, .int .i64 x, .int .i64 wear] w (RetInt w (fb (need k.st 1000) x wear hour)) := by
  have P0 := vlW_new w k A c hour s 81
  have HK := Lib.hid hk
  have HX := Lib.hid hN.ex
  have hnd := hN.need
  have K := fun U (hU : PairsAt U U.heap.size A k.st) => needAt_any k A c 1000 hk.len hN.ex U hU
  clear hk hN
  have hf1 : x < need k.st 1000 → fb (need k.st 1000) x wear hour = hour := fun h => by unfold fb; rw [if_pos h]
  have hf2 : ¬ x < need k.st 1000 → (need k.st 1000 = 0 ∨ wear = 0) → fb (need k.st 1000) x wear hour = -1 := fun h g => by unfold fb; rw [if_neg h, if_pos g]
  have hf3 := fun h1 h2 h3 => fb_quot (need := need k.st 1000) (s := x) (wear := wear) (hour := hour) h1 h2 h3 hw.1
  generalize fb (need k.st 1000) x wear hour = r at *
  generalize need k.st 1000 = n at *
  have K' := Lib.hid K
  clear K
  by_cases h1 : x < n
  · have HR := Lib.hid (hf1 h1)
    clear hf1 hf2 hf3
    go_enter Try.func52, Try.ntmps52
    go_wp2_with fail
    refine (K'.out _ (P0.kind HK.out).at_).mono ?_; rintro e w1 ⟨rfl, hb⟩
    have P1 := P0.after hb
    have HB := Lib.hid P1.below
    obtain ⟨_, c0, c1, c2, c3, c4, c5, c6, hs⟩ := P1
    clear P0 hb
    go_wp2
    go_ret
    exact ⟨by rw [HR.out]; rfl, HB.out⟩
  · by_cases h2 : n = 0
    · have q : (n == 0) = true := by simpa using h2
      have HR := Lib.hid (hf2 h1 (.inl h2))
      clear hf1 hf2 hf3 h2
      go_enter Try.func52, Try.ntmps52
      go_wp2_with fail
      refine (K'.out _ (P0.kind HK.out).at_).mono ?_; rintro e w1 ⟨rfl, hb⟩
      have P1 := P0.after hb
      have HB := Lib.hid P1.below
      clear P0 hb P1
      go_wp2
      go_ret
      exact ⟨by rw [HR.out]; rfl, HB.out⟩
    · have q : (n == 0) = false := by simpa using h2
      by_cases h3 : wear = 0
      · have q3 : (wear == 0) = true := by simpa using h3
        have HR := Lib.hid (hf2 h1 (.inr h3))
        clear hf1 hf2 hf3 h2 h3
        go_enter Try.func52, Try.ntmps52
        go_wp2_with fail
        refine (K'.out _ (P0.kind HK.out).at_).mono ?_; rintro e w1 ⟨rfl, hb⟩
        have P1 := P0.after hb
        have HB := Lib.hid P1.below
        clear P0 hb P1
        go_wp2
        go_ret
        exact ⟨by rw [HR.out]; rfl, HB.out⟩
      · have q3 : (wear == 0) = false := by simpa using h3
        have HR := Lib.hid (hf3 h1 h2 h3)
        have hq := quot_in (a := x - n) (b := wear) (by omega) (by omega)
        have e1 : IntKind.i64.wrap (x - n) = x - n := by rw [IntKind.wrap_i64]; omega
        have hy : (x - n).tdiv wear = (x - n).tdiv wear := rfl
        generalize hz : (x - n).tdiv wear = y at *
        have e2 : IntKind.i64.wrap y = y := by rw [IntKind.wrap_i64]; omega
        have e3 : IntKind.i64.wrap (hour + y) = hour + y := by rw [IntKind.wrap_i64]; omega
        have e4 : IntKind.i64.wrap (hour + y + 1) = hour + y + 1 := by rw [IntKind.wrap_i64]; omega
        clear hf1 hf2 hf3 h2 hy
        go_enter Try.func52, Try.ntmps52
        go_wp2_with fail
        refine (K'.out _ (P0.kind HK.out).at_).mono ?_; rintro e w1 ⟨rfl, hb⟩
        have P1 := P0.after hb
        have HB := Lib.hid P1.below
        obtain ⟨_, c0, c1, c2, c3, c4, c5, c6, hs⟩ := P1
        clear P0 hb
        go_wp2
        go_quiet (fail)
        go_wp2
        go_ret
        exact ⟨by rw [HR.out]; rfl, below_drewN HB.out⟩
end Go.Proofs.Ytgbignkkieoffaa
