/-
  LineRounds answers true for every argument. No statement is proved here.
-/
import Derived.Test.YtplipfcnjmgicaaRounds
namespace Go.Proofs.Ytplipfcnjmgicaa
open Go.RowKit
set_option linter.unusedVariables false
set_option linter.unusedSimpArgs false

/-- LineRounds answers true. -/
theorem rounds_walk (a0 a1 a2 a3 a4 a5 : Int) (Aw At : Option Addr) (zs ts : List Int) (cw ct : Nat) (hz : zs.length ≤ maxLen) (ht : ts.length ≤ maxLen) (w : World) (hR : IntsAt w w.heap.size Aw zs) (hT : IntsAt w w.heap.size At ts) :
    Calls Try.prog 12 #[.agg #[.int .i64 a0, .int .i64 a1, .int .i64 a2, .int .i64 a3, .int .i64 a4, .int .i64 a5], .slice Aw zs.length cw, .slice At ts.length ct] w fun e w' => e = .returned (.bool true) ∧ Below w.heap.size w w' := by
  by_cases h : OkLine a0 a1 a2 a3 a4 a5
  · by_cases hx : wordsErr a0 a1 zs = 0
    · by_cases hl : 60 < ts.length
      · exact rounds_bad a0 a1 a2 a3 a4 a5 3 (by decide) Aw At zs ts cw ct w hR hT (Lib.hid fun w hR hT => (pass_long a0 a1 a2 a3 a4 a5 h Aw At zs hz cw ts.length ct hl ht w hR hx).mono fun _ _ => passOut_ref)
      · cases hts : ts.all tempB with
        | false => exact rounds_bad a0 a1 a2 a3 a4 a5 7 (by decide) Aw At zs ts cw ct w hR hT (Lib.hid fun w hR hT => (pass_badtemp a0 a1 a2 a3 a4 a5 h Aw At zs ts hz cw ct (by omega) w hR hT hx hts).mono fun _ _ => passOut_ref)
        | true =>
          obtain ⟨hlen, hall⟩ := wordsErr_zero hx
          have hv := Lib.hid (words_valid h.h1 hall)
          have g0 := h.h0
          have g1 := h.h1
          obtain ⟨b, rfl⟩ : ∃ b : Nat, a1 = b := ⟨a1.toNat, by omega⟩
          subst hlen
          have hT1 : ∀ T ∈ ts, -500 ≤ T ∧ T ≤ 1000 := fun T hT => tempB_t (List.all_eq_true.1 hts T hT)
          have hlp : 0 < (pulsesOf b zs).length := by rw [pulsesOf_length]; exact Nat.mul_pos (by omega) (by omega)
          refine rounds_ok (fOf zs.length b a2 a3 a4 a5) a2 a3 a4 a5 _ zs.length b Aw At zs ts _ cw ct w (Lib.hid rfl) (by omega) (by omega) hR hT (Lib.hid ?_)
            (Lib.hid fun w hR hT => (pass_ok (fOf zs.length b a2 a3 a4 a5) b a2 a3 a4 a5 Aw At zs ts h cw ct (by omega) w (Lib.hid fun T hT w => shiftAt_any zs.length b a2 a3 a4 a5 T h (hT1 T hT) w) hR hT hx hts hv).mono fun _ _ => passOut_ok)
            (Lib.hid ⟨(passOf b zs.length ((ts.map (fOf zs.length b a2 a3 a4 a5)).reverse) (pulsesOf b zs)).2, fun A2 c2 w hR hT2 => ?_⟩) (Lib.hid fun T hT w => shift_ok zs.length b a2 a3 a4 a5 T h (hT1 T hT) w) (Lib.hid fun T hT => fOf_bound h (hT1 T hT)) (Lib.hid ?_) (Lib.hid rfl) (Lib.hid (words_fit hall))
          · rw [passOf_eq, wordsOf_length]
          · have k := pass_ok (fOf zs.length b a2 a3 a4 a5) b a2 a3 a4 a5 Aw A2 zs ts.reverse h cw c2 (by rw [List.length_reverse]; omega) w (Lib.hid fun T hT w => shiftAt_any zs.length b a2 a3 a4 a5 T h (hT1 T (List.mem_reverse.1 hT)) w) hR hT2 hx (by rw [List.all_reverse]; exact hts) hv
            rw [List.length_reverse, List.map_reverse, pass_turned b zs.length _ _ hlp] at k
            exact k.mono fun _ _ => passOut_ok
          · rw [passOf_eq]
    · exact rounds_bad a0 a1 a2 a3 a4 a5 _ hx Aw At zs ts cw ct w hR hT (Lib.hid fun w hR hT => (pass_badwords a0 a1 a2 a3 a4 a5 h Aw At zs hz cw ts.length ct w hR hx).mono fun _ _ => passOut_ref)
  · exact rounds_bad a0 a1 a2 a3 a4 a5 7 (by decide) Aw At zs ts cw ct w hR hT (Lib.hid fun w hR hT => (pass_badline a0 a1 a2 a3 a4 a5 h Aw At zs.length cw ts.length ct w).mono fun _ _ => passOut_ref)
end Go.Proofs.Ytplipfcnjmgicaa
