/-
  Pass, where it refuses temperatures. No statement is proved here.
-/
import Derived.Test.YtplipfcnjmgicaaPs10
namespace Go.Proofs.Ytplipfcnjmgicaa
open Go.RowKit Go.Shelf
set_option linter.unusedVariables false
set_option linter.unusedSimpArgs false

def tempB (t : Int) : Bool := decide (-500 ≤ t) && decide (t ≤ 1000)
theorem tempB_t {t : Int} (h : tempB t = true) : -500 ≤ t ∧ t ≤ 1000 := by simpa [tempB] using h
theorem tempB_f {t : Int} (h : tempB t = false) : ¬ (-500 ≤ t ∧ t ≤ 1000) := fun hh => by simp [tempB, hh.1, hh.2] at h

set_option maxRecDepth 100000 in
set_option maxHeartbeats 4000000 in
theorem pass_long (a0 a1 a2 a3 a4 a5 : Int) (h : OkLine a0 a1 a2 a3 a4 a5) (Aw At : Option Addr) (zs : List Int) (hz : zs.length ≤ maxLen) (cw nt ct : Nat) (hnt : 60 < nt) (hnt2 : nt ≤ maxLen) (w : World) (hR : IntsAt w w.heap.size Aw zs) (hx : wordsErr a0 a1 zs = 0) :
    Calls Try.prog 29 #[.agg #[.int .i64 a0, .int .i64 a1, .int .i64 a2, .int .i64 a3, .int .i64 a4, .int .i64 a5], .slice Aw zs.length cw, .slice At nt ct] w (PassRef 3 w) := by
  have K := errorOfWords_any a0 a1 a2 a3 a4 a5 h Aw cw zs hz
  rw [hx] at K
  have KH := Lib.hid K
  clear K hx
  unfold maxLen at hnt2
  go_enter Try.func29, Try.ntmps29
  go_wp2_with fail
  have P0 := passW_new w a0 a1 a2 a3 a4 a5
  refine (check_ok a0 a1 a2 a3 a4 a5 h _).mono ?_; rintro e U ⟨rfl, hU⟩
  have P1 : PassW w a0 a1 a2 a3 a4 a5 (.slice none 0 0) 0 0 U := by rw [hU]; exact P0.after ((Below.refl _ _).alloc (Nat.le_refl _) _)
  clear P0 hU
  obtain ⟨l0, l1, l2, l3, l4, l5⟩ := P1.line
  obtain ⟨c0, c1, c2⟩ := pass_results P1
  have f2 := P1.r2.frozen 0
  go_wp2_with fail
  have P2 := P1.setE 0
  have hs := P2.size
  refine (KH.out _ ((hR.below P2.below).more (by omega))).mono ?_; rintro e V ⟨rfl, hV⟩
  have P3 := P2.after hV
  clear P1 P2 hV l0 l1 l2 l3 l4 l5 c0 c1 c2 f2 hs
  obtain ⟨c0, c1, c2⟩ := pass_results P3
  have f0 := P3.r0.frozen 0
  have f1 := P3.r1.frozen 0
  have f2 := P3.r2.frozen 0
  go_wp2
  have P4 := (((P3.setE 0).setV (.slice none 0 0)).setN 0).setE 3
  obtain ⟨k0, k1, k2⟩ := pass_results P4
  exact bodyPost_ret (v := .tuple #[.slice none 0 0, .int .i64 0, .int .i64 3]) (by simp [results, Try.results29, k0, k1, k2, go_sem]) rfl ⟨rfl, P4.below⟩

set_option maxRecDepth 100000 in
set_option maxHeartbeats 4000000 in
theorem pass_badtemp (a0 a1 a2 a3 a4 a5 : Int) (h : OkLine a0 a1 a2 a3 a4 a5) (Aw At : Option Addr) (zs ts : List Int) (hz : zs.length ≤ maxLen) (cw ct : Nat) (hnt : ts.length ≤ 60) (w : World) (hR : IntsAt w w.heap.size Aw zs) (hT : IntsAt w w.heap.size At ts) (hx : wordsErr a0 a1 zs = 0) (hts : ts.all tempB = false) :
    Calls Try.prog 29 #[.agg #[.int .i64 a0, .int .i64 a1, .int .i64 a2, .int .i64 a3, .int .i64 a4, .int .i64 a5], .slice Aw zs.length cw, .slice At ts.length ct] w (PassRef 7 w) := by
  have K := errorOfWords_any a0 a1 a2 a3 a4 a5 h Aw cw zs hz
  rw [hx] at K
  have KH := Lib.hid K
  have HT := Lib.hid hts
  clear K hx hts
  go_enter Try.func29, Try.ntmps29
  go_wp2_with fail
  have P0 := passW_new w a0 a1 a2 a3 a4 a5
  refine (check_ok a0 a1 a2 a3 a4 a5 h _).mono ?_; rintro e U ⟨rfl, hU⟩
  have P1 : PassW w a0 a1 a2 a3 a4 a5 (.slice none 0 0) 0 0 U := by rw [hU]; exact P0.after ((Below.refl _ _).alloc (Nat.le_refl _) _)
  clear P0 hU
  obtain ⟨l0, l1, l2, l3, l4, l5⟩ := P1.line
  obtain ⟨c0, c1, c2⟩ := pass_results P1
  have f2 := P1.r2.frozen 0
  go_wp2_with fail
  have P2 := P1.setE 0
  have hs := P2.size
  refine (KH.out _ ((hR.below P2.below).more (by omega))).mono ?_; rintro e V ⟨rfl, hV⟩
  have P3 := P2.after hV
  clear P1 P2 hV l0 l1 l2 l3 l4 l5 c0 c1 c2 f2 hs
  obtain ⟨c0, c1, c2⟩ := pass_results P3
  have f2 := P3.r2.frozen 0
  have P4 := P3.setE 0
  go_wp2
  obtain ⟨X, hX⟩ : ∃ X, X = V.setCell ⟨w.heap.size + 1 + 1 + 1, 0, none⟩ (.int .i64 0) := ⟨_, rfl⟩
  rw [← hX] at P4 ⊢
  clear hX c0 c1 c2 f2 P3
  have hT4 := hT.below P4.below
  go_loop [30] (fun i => ∃ k : Nat, k ≤ ts.length ∧ i = .int .i64 k ∧ (ts.take k).all tempB = true) (fun i => ts.length - (intOf i).toNat)
  case atStart => exact ⟨0, by omega, rfl, rfl⟩
  case round =>
    obtain ⟨k, hk, rfl, hall⟩ := hrel
    have HA := Lib.hid hall
    clear hall
    by_cases hlt : k < ts.length
    · obtain ⟨ad, rfl, hlb, hc⟩ := hT4.at_ hlt
      have HN := Lib.hid (show (ts.take (k + 1)).all tempB = tempB ts[k] by rw [List.take_succ_eq_append_getElem hlt, List.all_append, HA.out]; simp)
      cases hb : tempB ts[k] with
      | true =>
        rw [hb] at HN
        have ht := tempB_t hb
        clear hb
        go_wp2_with fail
        refine (temp_t _ ht _).mono ?_; rintro e w' ⟨rfl, rfl⟩
        go_wp2
        go_round
        case rel => exact ⟨k + 1, by omega, by go_num, HN.out⟩
        case measure => simp [intOf]; omega
      | false =>
        have ht := tempB_f hb
        clear hb HN
        obtain ⟨c0, c1, c2⟩ := pass_results P4
        have f0 := P4.r0.frozen 0
        have f1 := P4.r1.frozen 0
        have f2 := P4.r2.frozen 0
        go_wp2_with fail
        refine (temp_f _ ht _).mono ?_; rintro e w' ⟨rfl, rfl⟩
        go_wp2
        have P5 := ((P4.setV (.slice none 0 0)).setN 0).setE 7
        obtain ⟨k0, k1, k2⟩ := pass_results P5
        exact bodyPost_ret (v := .tuple #[.slice none 0 0, .int .i64 0, .int .i64 7]) (by simp [results, Try.results29, k0, k1, k2, go_sem]) rfl ⟨rfl, P5.below⟩
    · obtain rfl : k = ts.length := by omega
      rw [List.take_length] at HA
      have := HA.out
      rw [HT.out] at this
      cases this
end Go.Proofs.Ytplipfcnjmgicaa
