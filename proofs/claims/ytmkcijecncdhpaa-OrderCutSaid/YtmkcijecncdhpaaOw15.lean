/-
  CONTRACTS OF the reference's Ints and States. No statement is proved here.
-/
import Derived.Test.YtmkcijecncdhpaaOw14
import Derived.Deep.QuietTactic
import Derived.BigQuiet
namespace Go.Proofs.Ytmkcijecncdhpaa
open Go.RowKit
set_option linter.unusedVariables false
set_option linter.unusedSimpArgs false

theorem take_ne {xs ys : List Int} {k : Nat} (h1 : k < xs.length) (h2 : k < ys.length) (h : xs[k] ≠ ys[k]) : decide (xs = ys) = false := by
  rw [decide_eq_false_iff_not]
  intro e
  subst e
  exact h rfl
theorem take_all {xs ys : List Int} (hl : xs.length = ys.length) (h : xs.take xs.length = ys.take xs.length) : decide (xs = ys) = true := by
  rw [List.take_length, hl, List.take_length] at h
  simpa using h
theorem take_next {xs ys : List Int} {k : Nat} (h1 : k < xs.length) (h2 : k < ys.length) (h : xs.take k = ys.take k) (e : xs[k] = ys[k]) : xs.take (k + 1) = ys.take (k + 1) := by
  rw [List.take_succ_eq_append_getElem h1, List.take_succ_eq_append_getElem h2, h, e]
set_option maxHeartbeats 4000000 in
theorem ints_any (A B : Option Addr) (c d : Nat) (xs ys : List Int) (hx : xs.length ≤ maxLen) (hy : ys.length ≤ maxLen) (w : World) (hA : IntsAt w w.heap.size A xs) (hB : IntsAt w w.heap.size B ys) :
    Calls Try.prog 31 #[.slice A xs.length c, .slice B ys.length d] w fun e w' => e = .returned (.bool (decide (xs = ys))) ∧ Below w.heap.size w w' := by
  unfold maxLen at hx hy
  by_cases hl : xs.length = ys.length
  · have hne : ((xs.length : Int) != (ys.length : Int)) = false := by simp [hl]
    have HL := Lib.hid hl
    clear hl
    go_enter Try.func31, Try.ntmps31
    go_wp2
    go_loopw [5] (fun i wr => ∃ k : Nat, k ≤ xs.length ∧ i = .int .i64 k ∧ xs.take k = ys.take k ∧ Below w.heap.size w wr) (fun i _ => xs.length - (intOf i).toNat)
    case atStart => exact ⟨0, by omega, rfl, rfl, Below.refl _ _⟩
    case round =>
      obtain ⟨k, hk, rfl, htk, hb⟩ := hrel
      have HT := Lib.hid htk
      clear htk
      by_cases hlt : k < xs.length
      · have hlt2 : k < ys.length := by rw [← HL.out]; exact hlt
        obtain ⟨ad, rfl, hlb, hc⟩ := (hA.below hb).at_ hlt
        obtain ⟨bd, rfl, hlb2, hc2⟩ := (hB.below hb).at_ hlt2
        have hb0 : Below w.heap.size w wr := hb
        by_cases he : xs[k] = ys[k]
        · have HN := Lib.hid (take_next hlt hlt2 HT.out he)
          have hq : (xs[k] != ys[k]) = false := by simp [he]
          clear he
          generalize xs[k] = x at *
          generalize ys[k] = y at *
          go_wp2_with fail
          go_quiet (fail)
          go_wp2
          go_roundw
          case rel => exact ⟨k + 1, by omega, by go_num, HN.out, below_drewN hb⟩
          case measure => simp [intOf]; omega
        · have HN := Lib.hid (take_ne hlt hlt2 he)
          have hq : (xs[k] != ys[k]) = true := by simpa using he
          clear he
          generalize xs[k] = x at *
          generalize ys[k] = y at *
          go_wp2_with fail
          go_quiet (fail)
          go_wp2
          go_ret
          exact ⟨by rw [HN.out]; rfl, below_drewN hb⟩
      · obtain rfl : k = xs.length := by omega
        have HN := Lib.hid (take_all HL.out HT.out)
        go_wp2
        go_ret
        exact ⟨by rw [HN.out]; rfl, hb⟩
  · have hne : ((xs.length : Int) != (ys.length : Int)) = true := by simp; omega
    have HN : Hid (decide (xs = ys) = false) := Lib.hid (by rw [decide_eq_false_iff_not]; intro e; exact hl (by rw [e]))
    clear hl
    go_enter Try.func31, Try.ntmps31
    go_wp2
    go_ret
    exact ⟨by rw [HN.out]; rfl, Below.refl _ _⟩
theorem ints_same (A B : Option Addr) (c d : Nat) (xs : List Int) (hx : xs.length ≤ maxLen) (w : World) (hA : IntsAt w w.heap.size A xs) (hB : IntsAt w w.heap.size B xs) :
    Calls Try.prog 31 #[.slice A xs.length c, .slice B xs.length d] w fun e w' => e = .returned (.bool true) ∧ Below w.heap.size w w' := by
  have h := ints_any A B c d xs xs hx hx w hA hB
  simpa using h

set_option maxHeartbeats 4000000 in
/-- Two states that read alike. -/
theorem states_same (A0 A1 A3 B0 B1 B3 : Option Addr) (n0 n1 n3 m0 m1 m3 : Nat) (z0 z1 z3 : List Int) (a2 a4 a5 a6 a7 : Int) (l0 : z0.length ≤ maxLen) (l1 : z1.length ≤ maxLen) (l3 : z3.length ≤ maxLen) (w : World)
    (h0 : IntsAt w w.heap.size A0 z0) (h1 : IntsAt w w.heap.size A1 z1) (h3 : IntsAt w w.heap.size A3 z3) (k0 : IntsAt w w.heap.size B0 z0) (k1 : IntsAt w w.heap.size B1 z1) (k3 : IntsAt w w.heap.size B3 z3) :
    Calls Try.prog 35 #[stV A0 A1 A3 n0 n1 n3 z0 z1 z3 a2 a4 a5 a6 a7, stV B0 B1 B3 m0 m1 m3 z0 z1 z3 a2 a4 a5 a6 a7] w fun e w' => e = .returned (.bool true) ∧ Below w.heap.size w w' := by
  have e2 : (a2 == a2) = true := by simp
  have e4 : (a4 == a4) = true := by simp
  have e5 : (a5 == a5) = true := by simp
  have e6 : (a6 == a6) = true := by simp
  have e7 : (a7 == a7) = true := by simp
  have K0 := Lib.hid (ints_same A0 B0 n0 m0 z0 l0)
  have K1 := Lib.hid (ints_same A1 B1 n1 m1 z1 l1)
  have K3 := Lib.hid (ints_same A3 B3 n3 m3 z3 l3)
  clear l0 l1 l3
  go_enter Try.func35, Try.ntmps35
  go_wp2_with fail
  have hbW : Below w.heap.size w ((w.alloc (.cells #[.slice A0 z0.length n0, .slice A1 z1.length n1, .int .i64 a2, .slice A3 z3.length n3, .int .i64 a4, .int .i64 a5, .int .i64 a6, .int .i64 a7] 24)).alloc (.cells #[.slice B0 z0.length m0, .slice B1 z1.length m1, .int .i64 a2, .slice B3 z3.length m3, .int .i64 a4, .int .i64 a5, .int .i64 a6, .int .i64 a7] 24)) := by go_grown
  have S1 : StAt ((w.alloc (.cells #[.slice A0 z0.length n0, .slice A1 z1.length n1, .int .i64 a2, .slice A3 z3.length n3, .int .i64 a4, .int .i64 a5, .int .i64 a6, .int .i64 a7] 24)).alloc (.cells #[.slice B0 z0.length m0, .slice B1 z1.length m1, .int .i64 a2, .slice B3 z3.length m3, .int .i64 a4, .int .i64 a5, .int .i64 a6, .int .i64 a7] 24)) w.heap.size (.slice A0 z0.length n0) (.slice A1 z1.length n1) (.slice A3 z3.length n3) a2 a4 a5 a6 a7 := by constructor <;> simp [go_sem]
  have S2 : StAt ((w.alloc (.cells #[.slice A0 z0.length n0, .slice A1 z1.length n1, .int .i64 a2, .slice A3 z3.length n3, .int .i64 a4, .int .i64 a5, .int .i64 a6, .int .i64 a7] 24)).alloc (.cells #[.slice B0 z0.length m0, .slice B1 z1.length m1, .int .i64 a2, .slice B3 z3.length m3, .int .i64 a4, .int .i64 a5, .int .i64 a6, .int .i64 a7] 24)) (w.heap.size + 1) (.slice B0 z0.length m0) (.slice B1 z1.length m1) (.slice B3 z3.length m3) a2 a4 a5 a6 a7 := by constructor <;> simp [go_sem]
  have hsz : ((w.alloc (.cells #[.slice A0 z0.length n0, .slice A1 z1.length n1, .int .i64 a2, .slice A3 z3.length n3, .int .i64 a4, .int .i64 a5, .int .i64 a6, .int .i64 a7] 24)).alloc (.cells #[.slice B0 z0.length m0, .slice B1 z1.length m1, .int .i64 a2, .slice B3 z3.length m3, .int .i64 a4, .int .i64 a5, .int .i64 a6, .int .i64 a7] 24)).heap.size = w.heap.size + 1 + 1 := by simp
  generalize (w.alloc (.cells #[.slice A0 z0.length n0, .slice A1 z1.length n1, .int .i64 a2, .slice A3 z3.length n3, .int .i64 a4, .int .i64 a5, .int .i64 a6, .int .i64 a7] 24)).alloc (.cells #[.slice B0 z0.length m0, .slice B1 z1.length m1, .int .i64 a2, .slice B3 z3.length m3, .int .i64 a4, .int .i64 a5, .int .i64 a6, .int .i64 a7] 24) = W at *
  have hw := hbW.size
  refine (K0.out W ((h0.below hbW).more hw) ((k0.below hbW).more hw)).mono ?_; rintro e U1 ⟨rfl, hb1⟩
  have T1 := S1.below hb1 (by omega)
  have T2 := S2.below hb1 (by omega)
  have hB1 := hbW.trans (below_lower hw hb1)
  have hw1 := hb1.size
  clear S1 S2 hb1 hbW
  obtain ⟨c0, c1, c2, c3, c4, c5, c6, c7⟩ := T1
  obtain ⟨d0, d1, d2, d3, d4, d5, d6, d7⟩ := T2
  go_wp2_with fail
  refine (K1.out U1 ((h1.below hB1).more hB1.size) ((k1.below hB1).more hB1.size)).mono ?_; rintro e U2 ⟨rfl, hb2⟩
  have T1 := (StAt.mk c0 c1 c2 c3 c4 c5 c6 c7).below hb2 (by omega)
  have T2 := (StAt.mk d0 d1 d2 d3 d4 d5 d6 d7).below hb2 (by omega)
  have hB2 := below_next hB1 hB1.size hb2
  have hw2 := hb2.size
  clear c0 c1 c2 c3 c4 c5 c6 c7 d0 d1 d2 d3 d4 d5 d6 d7 hb2
  obtain ⟨c0, c1, c2, c3, c4, c5, c6, c7⟩ := T1
  obtain ⟨d0, d1, d2, d3, d4, d5, d6, d7⟩ := T2
  go_wp2_with fail
  refine (K3.out U2 ((h3.below hB2).more hB2.size) ((k3.below hB2).more hB2.size)).mono ?_; rintro e U3 ⟨rfl, hb3⟩
  have T1 := (StAt.mk c0 c1 c2 c3 c4 c5 c6 c7).below hb3 (by omega)
  have T2 := (StAt.mk d0 d1 d2 d3 d4 d5 d6 d7).below hb3 (by omega)
  have hB3 := below_next hB2 hB2.size hb3
  clear c0 c1 c2 c3 c4 c5 c6 c7 d0 d1 d2 d3 d4 d5 d6 d7 hb3
  obtain ⟨c0, c1, c2, c3, c4, c5, c6, c7⟩ := T1
  obtain ⟨d0, d1, d2, d3, d4, d5, d6, d7⟩ := T2
  go_wp2
  go_ret
  exact ⟨rfl, hB3⟩
end Go.Proofs.Ytmkcijecncdhpaa
