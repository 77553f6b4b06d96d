/-
  LineSafe answers true for every argument. No statement is proved here.
-/
import Derived.Test.YtplipfcnjmgicaaSafe5
namespace Go.Proofs.Ytplipfcnjmgicaa
open Go.RowKit
set_option linter.unusedVariables false
set_option linter.unusedSimpArgs false

theorem pass_single (W b : Nat) (a2 a3 a4 a5 T : Int) (h : OkLine W b a2 a3 a4 a5) (hT : -500 ≤ T ∧ T ≤ 1000) (Aw : Option Addr) (zs : List Int) (cw : Nat) (hx : wordsErr W b zs = 0) (At : Option Addr) (ct : Nat) (w : World)
    (h1 : IntsAt w w.heap.size Aw zs) (h2 : IntsAt w w.heap.size At [T]) :
    Calls Try.prog 29 #[.agg #[.int .i64 W, .int .i64 b, .int .i64 a2, .int .i64 a3, .int .i64 a4, .int .i64 a5], .slice Aw zs.length cw, .slice At 1 ct] w
      (PassOut (passOf b W [fOf W b a2 a3 a4 a5 T] (pulsesOf b zs)).1 (passOf b W [fOf W b a2 a3 a4 a5 T] (pulsesOf b zs)).2 0 w) := by
  obtain ⟨hl, hall⟩ := wordsErr_zero hx
  have hl' : zs.length = W := by omega
  subst hl'
  exact (pass_ok (fOf zs.length b a2 a3 a4 a5) b a2 a3 a4 a5 Aw At zs [T] h cw ct (by simp) w
    (Lib.hid fun S hS w => by rw [List.mem_singleton.1 hS]; exact shiftAt_any zs.length b a2 a3 a4 a5 T h hT w) h1 h2 hx (by simp [tempB, hT]) (Lib.hid (words_valid h.h1 hall))).mono fun _ _ => passOut_ok

/-- LineSafe answers true. -/
theorem safe_walk (a0 a1 a2 a3 a4 a5 : Int) (Aw : Option Addr) (zs : List Int) (cw : Nat) (T : Int) (hz : zs.length ≤ maxLen) (w : World) (hR : IntsAt w w.heap.size Aw zs) :
    Calls Try.prog 11 #[.agg #[.int .i64 a0, .int .i64 a1, .int .i64 a2, .int .i64 a3, .int .i64 a4, .int .i64 a5], .slice Aw zs.length cw, .int .i64 T] w fun e w' => e = .returned (.bool true) ∧ Below w.heap.size w w' := by
  by_cases h : OkLine a0 a1 a2 a3 a4 a5
  · obtain ⟨lo, hi, e1, he, hin, hS⟩ := safe_nums h
    have KS := fun w => (safe_ok (safeAt a0 a1 a2 a3 a4 a5) a0 a1 a2 a3 a4 a5 h (Lib.hid fun T h1 h2 w => isSafe_ok a0 a1 a2 a3 a4 a5 T h ⟨h1, h2⟩ w) w).mono (hS w)
    by_cases hT : -500 ≤ T ∧ T ≤ 1000
    · have K := shift_ok a0 a1 a2 a3 a4 a5 T h hT
      have hI := hin T hT.1 hT.2
      have g0 := h.h0
      have g1 := h.h1
      clear hin hS
      obtain ⟨W, rfl⟩ : ∃ W : Nat, a0 = W := ⟨a0.toNat, by omega⟩
      obtain ⟨b, rfl⟩ : ∃ b : Nat, a1 = b := ⟨a1.toNat, by omega⟩
      have hb : (1 ≤ W ∧ W ≤ 64) ∧ 1 ≤ b ∧ b ≤ 40 := by omega
      have hW0 : 0 < W := by omega
      have hb0 : 0 < b := by omega
      have KQ := fun (Ao At : Option Addr) (co ct : Nat) w h1 h2 => pass_single W b a2 a3 a4 a5 T h hT Ao (oneS W) co (one_err hb.2 hW0) At ct w h1 h2
      rw [oneS_length hW0, passOf_one, pulsesOf_length, oneS_length hW0] at KQ
      have KP : ∃ (ws : List Int) (at_ er : Int), ws.length ≤ 64 ∧ (er ≠ 0 ∨ (er = 0 ∧ (safeAt W b a2 a3 a4 a5 T = true → at_ = -1 ∧ ws = zs))) ∧ ∀ (At : Option Addr) (ct : Nat) (w : World), IntsAt w w.heap.size Aw zs → IntsAt w w.heap.size At [T] →
          Calls Try.prog 29 #[.agg #[.int .i64 W, .int .i64 b, .int .i64 a2, .int .i64 a3, .int .i64 a4, .int .i64 a5], .slice Aw zs.length cw, .slice At 1 ct] w (PassOut ws at_ er w) := by
        by_cases hx : wordsErr W b zs = 0
        · obtain ⟨hl, hall⟩ := wordsErr_zero hx
          refine ⟨_, _, 0, ?_, .inr ⟨rfl, fun hs => ?_⟩, fun At ct w h1 h2 => pass_single W b a2 a3 a4 a5 T h hT Aw zs cw hx At ct w h1 h2⟩
          · rw [passOf_eq, wordsOf_length]; omega
          · rw [passOf_one]
            unfold safeAt at hs
            simp only [Bool.and_eq_true, decide_eq_true_eq, Bool.not_eq_true'] at hs
            have e2 : (fOf W b a2 a3 a4 a5 T).2 = false := hs.2
            have e1 : (fOf W b a2 a3 a4 a5 T).1 = 0 := hs.1
            rw [e2, e1, if_neg (by decide), Int.zero_emod, Int.toNat_zero, rot_zero]
            have hl' : zs.length = W := by omega
            subst hl'
            exact ⟨rfl, words_back b hb0 zs (words_fit hall)⟩
        · exact ⟨[], 0, _, by simp, .inl hx, fun At ct w h1 h2 => (pass_badwords W b a2 a3 a4 a5 h Aw At zs hz cw 1 ct w h1 hx).mono fun _ _ => passOut_ref⟩
      obtain ⟨ws, at_, er, hwl, hcase, KP⟩ := KP
      have hsafe : safeAt W b a2 a3 a4 a5 T = (decide ((fOf W b a2 a3 a4 a5 T).1 = 0) && !(fOf W b a2 a3 a4 a5 T).2) := rfl
      have hKf : ∀ w, Calls Try.prog 23 #[.agg #[.int .i64 W, .int .i64 b, .int .i64 a2, .int .i64 a3, .int .i64 a4, .int .i64 a5], .int .i64 T] w (Shifted (fOf W b a2 a3 a4 a5 T).1 (fOf W b a2 a3 a4 a5 T).2 0 w) := K
      have hl0 : (fOf W b a2 a3 a4 a5 T).2 = true → (fOf W b a2 a3 a4 a5 T).1 = 0 := fun h => by
        have h' : lostOf a2 a5 (lateOf W b a2 a3 a4 T) = true := h
        show shiftOf a2 a5 (lateOf W b a2 a3 a4 T) = 0
        unfold lostOf at h'
        unfold shiftOf
        rw [if_pos (by simpa using h')]
      clear K
      generalize fOf W b a2 a3 a4 a5 T = x at *
      obtain ⟨n, lost⟩ := x
      dsimp only at hsafe hKf hl0 KQ
      have hout : safeAt W b a2 a3 a4 a5 T = false → e1 = 9 ∨ (e1 = 0 ∧ ¬ lo ≤ T) ∨ (e1 = 0 ∧ lo ≤ T ∧ ¬ T ≤ hi) := fun hs => by
        rw [hs] at hI
        rcases he with rfl | rfl
        · by_cases h1 : lo ≤ T
          · by_cases h2 : T ≤ hi
            · exact absurd (hI.1 ⟨rfl, h1, h2⟩) (by decide)
            · exact .inr (.inr ⟨rfl, h1, h2⟩)
          · exact .inr (.inl ⟨rfl, h1⟩)
        · exact .inl rfl
      cases lost with
      | true =>
        obtain rfl := hl0 rfl
        rw [if_pos rfl] at KQ
        exact safe_lost a2 a3 a4 a5 T lo hi e1 W b Aw zs cw w hz hb hT (hout (by rw [hsafe]; rfl)) (Lib.hid KS) (Lib.hid hKf) ws at_ er hwl (Lib.hid KP) (List.replicate W 0) (by simp; omega) (Lib.hid KQ) (Lib.hid (zeros_one W hW0)) hR
      | false =>
        rw [if_neg (by decide)] at KQ
        have hone := one_round (W := W) hb0 hW0 hb.2.2 n
        by_cases hn : n = 0
        · subst hn
          have hs : safeAt W b a2 a3 a4 a5 T = true := by rw [hsafe]; rfl
          refine safe_in a2 a3 a4 a5 T lo hi e1 W b Aw zs cw w hz hb hT (hI.2 hs) (Lib.hid KS) (Lib.hid hKf) ws at_ er hwl (Lib.hid KP) _ ?_ (Lib.hid KQ) (Lib.hid ?_) ?_ hR
          · rw [wordsOf_length]; omega
          · rw [hone]; simp
          · rcases hcase with hc | ⟨rfl, hc⟩
            · exact .inl hc
            · exact .inr ⟨rfl, hc hs⟩
        · refine safe_far a2 a3 a4 a5 T lo hi e1 n W b Aw zs cw w hz hb hT (hout (by rw [hsafe]; simpa using hn)) (Lib.hid KS) (Lib.hid hKf) ws at_ er hwl (Lib.hid KP) _ ?_ (Lib.hid KQ) (Lib.hid ?_) hn hR
          · rw [wordsOf_length]; omega
          · rw [hone, Int.natCast_mul]
    · exact safe_warm a0 a1 a2 a3 a4 a5 T lo hi e1 Aw zs.length cw w hT he (Lib.hid KS)
  · exact safe_refused a0 a1 a2 a3 a4 a5 T Aw zs.length cw w h
end Go.Proofs.Ytplipfcnjmgicaa
