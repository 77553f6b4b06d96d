/-
  LinePasses: the walk. No statement is proved here.
-/
import Derived.Test.YtplipfcnjmgicaaPs14
import Derived.Test.YtplipfcnjmgicaaInts
import Derived.Test.YtplipfcnjmgicaaAwake
namespace Go.Proofs.Ytplipfcnjmgicaa
open Go.RowKit
set_option linter.unusedVariables false
set_option linter.unusedSimpArgs false

/-- What Pass answers: words, a number, an error. -/
def PassOut (ws : List Int) (n er : Int) (w : World) (e : Ending) (w' : World) : Prop :=
  ∃ A c, e = .returned (.tuple #[.slice A ws.length c, .int .i64 n, .int .i64 er]) ∧ IntsAt w' w'.heap.size A ws ∧ Below w.heap.size w w'
theorem passOut_ref {c : Int} {w : World} {e : Ending} {w' : World} (h : PassRef c w e w') : PassOut [] 0 c w e w' := ⟨none, 0, h.1, ListAt.nil _ _ _, h.2⟩
theorem passOut_ok {ws : List Int} {n : Int} {w : World} {e : Ending} {w' : World} (h : PassOk ws n w e w') : PassOut ws n 0 w e w' := h

/-- By how much pulses are late at a temperature, and whether they are lost. -/
def fOf (a0 a1 a2 a3 a4 a5 T : Int) : Int × Bool := (shiftOf a2 a5 (lateOf a0 a1 a2 a3 a4 T), lostOf a2 a5 (lateOf a0 a1 a2 a3 a4 T))
theorem fOf_bound {a0 a1 a2 a3 a4 a5 T : Int} (h : OkLine a0 a1 a2 a3 a4 a5) (hT : -500 ≤ T ∧ T ≤ 1000) : -2000000000 ≤ (fOf a0 a1 a2 a3 a4 a5 T).1 ∧ (fOf a0 a1 a2 a3 a4 a5 T).1 ≤ 2000000000 := by
  obtain ⟨b1, b2⟩ := late_bound h hT
  have g2 := h.h2
  have g3 := h.h3
  have g5 := h.h5
  show -2000000000 ≤ shiftOf a2 a5 (lateOf a0 a1 a2 a3 a4 T) ∧ shiftOf a2 a5 (lateOf a0 a1 a2 a3 a4 T) ≤ 2000000000
  unfold shiftOf lateOf
  generalize a4 * T = m at *
  generalize a0 * a1 * a2 = q at *
  split
  · omega
  · generalize hx : a3 + m - q + a5 = x
    have hb : -1900000000 ≤ x ∧ x ≤ 1900000000 := by omega
    have h1 := Int.natAbs_ediv_le_natAbs x a2
    omega

def passErr (a0 a1 a2 a3 a4 a5 : Int) (zs ts : List Int) : Prop := True

theorem words_valid {b : Int} {zs : List Int} (hb : 1 ≤ b ∧ b ≤ 40) (h : zs.all (wordB b) = true) : ∀ z ∈ zs, 0 ≤ z ∧ z < 9223372036854775808 := fun z hz => by
  have h1 := List.all_eq_true.1 h z hz
  have pb := pow_bound hb
  simp only [wordB, Bool.and_eq_true, decide_eq_true_eq] at h1
  omega

/-- **Both passes answer alike.** -/
theorem pass_both (a0 a1 a2 a3 a4 a5 : Int) (Aw At : Option Addr) (zs ts : List Int) (cw ct : Nat) (hz : zs.length ≤ maxLen) (ht : ts.length ≤ maxLen) :
    ∃ (ws : List Int) (n er : Int), ws.length ≤ 64 ∧
      (∀ w, IntsAt w w.heap.size Aw zs → IntsAt w w.heap.size At ts → Calls Try.prog 29 #[.agg #[.int .i64 a0, .int .i64 a1, .int .i64 a2, .int .i64 a3, .int .i64 a4, .int .i64 a5], .slice Aw zs.length cw, .slice At ts.length ct] w (PassOut ws n er w)) ∧
      (∀ w, IntsAt w w.heap.size Aw zs → IntsAt w w.heap.size At ts → Calls Try.prog 30 #[.agg #[.int .i64 a0, .int .i64 a1, .int .i64 a2, .int .i64 a3, .int .i64 a4, .int .i64 a5], .slice Aw zs.length cw, .slice At ts.length ct] w (PassOut ws n er w)) := by
  by_cases h : OkLine a0 a1 a2 a3 a4 a5
  · by_cases hx : wordsErr a0 a1 zs = 0
    · by_cases hl : 60 < ts.length
      · exact ⟨[], 0, 3, by simp, fun w hR hT => (pass_long a0 a1 a2 a3 a4 a5 h Aw At zs hz cw ts.length ct hl ht w hR hx).mono fun _ _ => passOut_ref,
          fun w hR hT => (rpass_long a0 a1 a2 a3 a4 a5 h Aw At zs hz cw ts.length ct hl ht w hR hx).mono fun _ _ => passOut_ref⟩
      · cases hts : ts.all tempB with
        | false =>
          exact ⟨[], 0, 7, by simp, fun w hR hT => (pass_badtemp a0 a1 a2 a3 a4 a5 h Aw At zs ts hz cw ct (by omega) w hR hT hx hts).mono fun _ _ => passOut_ref,
            fun w hR hT => (rpass_badtemp a0 a1 a2 a3 a4 a5 h Aw At zs ts hz cw ct (by omega) w hR hT hx hts).mono fun _ _ => passOut_ref⟩
        | true =>
          have hlen : (zs.length : Int) = a0 := by
            unfold wordsErr at hx
            by_cases e : (zs.length : Int) = a0
            · exact e
            · rw [if_neg e] at hx; cases hx
          have hall : zs.all (wordB a1) = true := by
            unfold wordsErr wordsE at hx
            rw [if_pos hlen] at hx
            by_cases e : zs.all (wordB a1) = true
            · exact e
            · rw [if_neg e] at hx; cases hx
          have hv := Lib.hid (words_valid h.h1 hall)
          have g0 := h.h0
          have g1 := h.h1
          obtain ⟨b, rfl⟩ : ∃ b : Nat, a1 = b := ⟨a1.toNat, by omega⟩
          subst hlen
          have hT1 : ∀ T ∈ ts, -500 ≤ T ∧ T ≤ 1000 := fun T hT => tempB_t (List.all_eq_true.1 hts T hT)
          refine ⟨_, _, 0, ?_, fun w hR hT => (pass_ok (fOf zs.length b a2 a3 a4 a5) b a2 a3 a4 a5 Aw At zs ts h cw ct (by omega) w (Lib.hid fun T hT w => shiftAt_any zs.length b a2 a3 a4 a5 T h (hT1 T hT) w) hR hT hx hts hv).mono fun _ _ => passOut_ok,
            fun w hR hT => (rpass_ok (fOf zs.length b a2 a3 a4 a5) b a2 a3 a4 a5 Aw At zs ts h cw ct (by omega) w (Lib.hid fun T hT w => rshift_any zs.length b a2 a3 a4 a5 T h (hT1 T hT) w) (Lib.hid fun T hT => by have := fOf_bound h (hT1 T hT); omega) hR hT hx hts hv).mono fun _ _ => passOut_ok⟩
          rw [passOf_eq, wordsOf_length]
          omega
    · exact ⟨[], 0, _, by simp, fun w hR hT => (pass_badwords a0 a1 a2 a3 a4 a5 h Aw At zs hz cw ts.length ct w hR hx).mono fun _ _ => passOut_ref,
        fun w hR hT => (rpass_badwords a0 a1 a2 a3 a4 a5 h Aw At zs hz cw ts.length ct ht w hR hx).mono fun _ _ => passOut_ref⟩
  · exact ⟨[], 0, 7, by simp, fun w hR hT => (pass_badline a0 a1 a2 a3 a4 a5 h Aw At zs.length cw ts.length ct w).mono fun _ _ => passOut_ref,
      fun w hR hT => (rpass_badline a0 a1 a2 a3 a4 a5 h Aw At zs.length cw ts.length ct ht w).mono fun _ _ => passOut_ref⟩

theorem awake_pa (w : World) : Calls Try.prog 22 #[] w fun e w' => e = .returned (.bool true) ∧ Below w.heap.size w w' := Go.Proofs.Ev.awake w

set_option maxRecDepth 100000 in
set_option maxHeartbeats 4000000 in
theorem passes_walk (a0 a1 a2 a3 a4 a5 : Int) (Aw At : Option Addr) (zs ts : List Int) (cw ct : Nat) (hz : zs.length ≤ maxLen) (ht : ts.length ≤ maxLen) (w : World) (hR : IntsAt w w.heap.size Aw zs) (hT : IntsAt w w.heap.size At ts) :
    Calls Try.prog 5 #[.agg #[.int .i64 a0, .int .i64 a1, .int .i64 a2, .int .i64 a3, .int .i64 a4, .int .i64 a5], .slice Aw zs.length cw, .slice At ts.length ct] w fun e w' => e = .returned (.bool true) ∧ Below w.heap.size w w' := by
  obtain ⟨ws, n, er, hws, K1, K2⟩ := pass_both a0 a1 a2 a3 a4 a5 Aw At zs ts cw ct hz ht
  have H1 := Lib.hid K1
  have H2 := Lib.hid K2
  clear K1 K2
  go_enter Try.func5, Try.ntmps5
  go_wp2_with fail
  have hB0 : Below w.heap.size w (w.alloc (.cells #[.int .i64 a0, .int .i64 a1, .int .i64 a2, .int .i64 a3, .int .i64 a4, .int .i64 a5] 25)) := by go_grown
  have hL : LineAt (w.alloc (.cells #[.int .i64 a0, .int .i64 a1, .int .i64 a2, .int .i64 a3, .int .i64 a4, .int .i64 a5] 25)) w.heap.size a0 a1 a2 a3 a4 a5 := by constructor <;> simp [go_sem]
  have hsz : w.heap.size < (w.alloc (.cells #[.int .i64 a0, .int .i64 a1, .int .i64 a2, .int .i64 a3, .int .i64 a4, .int .i64 a5] 25)).heap.size := by simp
  refine (H1.out _ ((hR.below hB0).more hB0.size) ((hT.below hB0).more hB0.size)).mono ?_; rintro e U ⟨A, c, rfl, hA, hU⟩
  have hBU := hB0.trans (below_down hB0.size hU)
  have hLU := hL.below hU hsz
  clear hL hU hsz hB0
  obtain ⟨l0, l1, l2, l3, l4, l5⟩ := hLU
  go_wp2_with fail
  refine (H2.out _ ((hR.below hBU).more hBU.size) ((hT.below hBU).more hBU.size)).mono ?_; rintro e V ⟨A2, c2, rfl, hA2, hV⟩
  have hBV := hBU.trans (below_down hBU.size hV)
  have hAV := (hA.below hV).more hV.size
  clear hA hV hBU l0 l1 l2 l3 l4 l5
  go_wp2_with fail
  refine (ints_any A A2 c c2 ws ws (by unfold maxLen; omega) (by unfold maxLen; omega) _ hAV hA2).mono ?_; rintro e X ⟨rfl, hX⟩
  have hBX := hBV.trans (below_down hBV.size hX)
  have heq : intsEq ws ws = true := by simp [intsEq]
  rw [heq]
  clear heq hAV hA2 hX hBV
  have e1 : (n == n) = true := by simp
  have e2 : (er == er) = true := by simp
  go_wp2_with fail
  refine (awake_pa _).mono ?_; rintro e Y ⟨rfl, hY⟩
  go_wp2
  go_ret
  exact ⟨rfl, hBX.trans (below_down hBX.size hY)⟩
end Go.Proofs.Ytplipfcnjmgicaa
