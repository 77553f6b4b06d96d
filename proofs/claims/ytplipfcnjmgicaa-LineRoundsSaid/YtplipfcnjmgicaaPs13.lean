/-
  The reference's Pass, where it refuses. No statement is proved here.
-/
import Derived.Test.YtplipfcnjmgicaaPs12
namespace Go.Proofs.Ytplipfcnjmgicaa
open Go.RowKit Go.Shelf
set_option linter.unusedVariables false
set_option linter.unusedSimpArgs false

set_option maxRecDepth 100000 in
set_option maxHeartbeats 4000000 in
theorem rpass_badline (a0 a1 a2 a3 a4 a5 : Int) (h : ¬ OkLine a0 a1 a2 a3 a4 a5) (Aw At : Option Addr) (nw cw nt ct : Nat) (hnt : nt ≤ maxLen) (w : World) :
    Calls Try.prog 30 #[.agg #[.int .i64 a0, .int .i64 a1, .int .i64 a2, .int .i64 a3, .int .i64 a4, .int .i64 a5], .slice Aw nw cw, .slice At nt ct] w (PassRef 7 w) := by
  unfold maxLen at hnt
  go_enter Try.func30, Try.ntmps30
  go_wp2_with fail
  refine (rcheck_bad a0 a1 a2 a3 a4 a5 h _).mono ?_; rintro e U ⟨rfl, hU⟩
  have hB : Below w.heap.size w U := by rw [hU]; go_grown
  clear hU
  go_wp2
  go_loop [9, 10] (fun e i => e = .int .i64 7 ∧ ∃ k : Nat, k ≤ nt ∧ i = .int .i64 k) (fun _ _ => 0)
  case atStart => exact ⟨rfl, 0, by omega, rfl⟩
  case round =>
    obtain ⟨rfl, k, hk, rfl⟩ := hrel
    by_cases hlt : k < nt
    · go_wp2
      go_ret3
      exact ⟨rfl, hB⟩
    · obtain rfl : k = nt := by omega
      go_wp2
      go_ret3
      exact ⟨rfl, hB⟩

set_option maxRecDepth 100000 in
set_option maxHeartbeats 4000000 in
theorem rpass_badwords (a0 a1 a2 a3 a4 a5 : Int) (h : OkLine a0 a1 a2 a3 a4 a5) (Aw At : Option Addr) (zs : List Int) (hz : zs.length ≤ maxLen) (cw nt ct : Nat) (hnt : nt ≤ maxLen) (w : World) (hR : IntsAt w w.heap.size Aw zs) (hx : wordsErr a0 a1 zs ≠ 0) :
    Calls Try.prog 30 #[.agg #[.int .i64 a0, .int .i64 a1, .int .i64 a2, .int .i64 a3, .int .i64 a4, .int .i64 a5], .slice Aw zs.length cw, .slice At nt ct] w (PassRef (wordsErr a0 a1 zs) w) := by
  have K := words_any a0 a1 a2 a3 a4 a5 h Aw cw zs hz
  generalize wordsErr a0 a1 zs = E at *
  have KH := Lib.hid K
  have hx1 : (E == 0) = false := by simpa using hx
  have hx2 : (E != 0) = true := by simpa using hx
  unfold maxLen at hnt
  clear K hx
  go_enter Try.func30, Try.ntmps30
  go_wp2_with fail
  refine (rcheck_ok a0 a1 a2 a3 a4 a5 h _).mono ?_; rintro e U ⟨rfl, hU⟩
  have hB0 : Below w.heap.size w U := by rw [hU]; go_grown
  have hL : LineAt U w.heap.size a0 a1 a2 a3 a4 a5 := by rw [hU]; constructor <;> simp [go_sem]
  clear hU
  obtain ⟨l0, l1, l2, l3, l4, l5⟩ := hL
  go_wp2_with fail
  refine (KH.out _ ((hR.below hB0).more hB0.size)).mono ?_; rintro e V ⟨rfl, hV⟩
  have hB := hB0.trans (below_down hB0.size hV)
  clear l0 l1 l2 l3 l4 l5 hV hB0
  go_wp2
  go_loop [9, 10] (fun e i => e = .int .i64 E ∧ ∃ k : Nat, k ≤ nt ∧ i = .int .i64 k) (fun _ _ => 0)
  case atStart => exact ⟨rfl, 0, by omega, rfl⟩
  case round =>
    obtain ⟨rfl, k, hk, rfl⟩ := hrel
    by_cases hlt : k < nt
    · go_wp2
      go_ret3
      exact ⟨rfl, hB⟩
    · obtain rfl : k = nt := by omega
      go_wp2
      go_ret3
      exact ⟨rfl, hB⟩

set_option maxRecDepth 100000 in
set_option maxHeartbeats 4000000 in
theorem rpass_long (a0 a1 a2 a3 a4 a5 : Int) (h : OkLine a0 a1 a2 a3 a4 a5) (Aw At : Option Addr) (zs : List Int) (hz : zs.length ≤ maxLen) (cw nt ct : Nat) (hnt : 60 < nt) (hnt2 : nt ≤ maxLen) (w : World) (hR : IntsAt w w.heap.size Aw zs) (hx : wordsErr a0 a1 zs = 0) :
    Calls Try.prog 30 #[.agg #[.int .i64 a0, .int .i64 a1, .int .i64 a2, .int .i64 a3, .int .i64 a4, .int .i64 a5], .slice Aw zs.length cw, .slice At nt ct] w (PassRef 3 w) := by
  have K := words_any a0 a1 a2 a3 a4 a5 h Aw cw zs hz
  rw [hx] at K
  have KH := Lib.hid K
  unfold maxLen at hnt2
  clear K hx
  go_enter Try.func30, Try.ntmps30
  go_wp2_with fail
  refine (rcheck_ok a0 a1 a2 a3 a4 a5 h _).mono ?_; rintro e U ⟨rfl, hU⟩
  have hB0 : Below w.heap.size w U := by rw [hU]; go_grown
  have hL : LineAt U w.heap.size a0 a1 a2 a3 a4 a5 := by rw [hU]; constructor <;> simp [go_sem]
  clear hU
  obtain ⟨l0, l1, l2, l3, l4, l5⟩ := hL
  go_wp2_with fail
  refine (KH.out _ ((hR.below hB0).more hB0.size)).mono ?_; rintro e V ⟨rfl, hV⟩
  have hB := hB0.trans (below_down hB0.size hV)
  clear l0 l1 l2 l3 l4 l5 hV hB0
  have hd : decide ((60 : Int) < (nt : Int)) = true := by simp; omega
  go_wp2
  go_loop [9, 10] (fun e i => e = .int .i64 3 ∧ ∃ k : Nat, k ≤ nt ∧ i = .int .i64 k) (fun _ _ => 0)
  case atStart => exact ⟨rfl, 0, by omega, rfl⟩
  case round =>
    obtain ⟨rfl, k, hk, rfl⟩ := hrel
    by_cases hlt : k < nt
    · go_wp2
      go_ret3
      exact ⟨rfl, hB⟩
    · obtain rfl : k = nt := by omega
      go_wp2
      go_ret3
      exact ⟨rfl, hB⟩

set_option maxRecDepth 100000 in
set_option maxHeartbeats 4000000 in
theorem rpass_badtemp (a0 a1 a2 a3 a4 a5 : Int) (h : OkLine a0 a1 a2 a3 a4 a5) (Aw At : Option Addr) (zs ts : List Int) (hz : zs.length ≤ maxLen) (cw ct : Nat) (hnt : ts.length ≤ 60) (w : World) (hR : IntsAt w w.heap.size Aw zs) (hT : IntsAt w w.heap.size At ts) (hx : wordsErr a0 a1 zs = 0) (hts : ts.all tempB = false) :
    Calls Try.prog 30 #[.agg #[.int .i64 a0, .int .i64 a1, .int .i64 a2, .int .i64 a3, .int .i64 a4, .int .i64 a5], .slice Aw zs.length cw, .slice At ts.length ct] w (PassRef 7 w) := by
  have K := words_any a0 a1 a2 a3 a4 a5 h Aw cw zs hz
  rw [hx] at K
  have KH := Lib.hid K
  have HT := Lib.hid hts
  clear K hx hts
  go_enter Try.func30, Try.ntmps30
  go_wp2_with fail
  refine (rcheck_ok a0 a1 a2 a3 a4 a5 h _).mono ?_; rintro e U ⟨rfl, hU⟩
  have hB0 : Below w.heap.size w U := by rw [hU]; go_grown
  have hL : LineAt U w.heap.size a0 a1 a2 a3 a4 a5 := by rw [hU]; constructor <;> simp [go_sem]
  clear hU
  obtain ⟨l0, l1, l2, l3, l4, l5⟩ := hL
  go_wp2_with fail
  refine (KH.out _ ((hR.below hB0).more hB0.size)).mono ?_; rintro e V ⟨rfl, hV⟩
  have hB := hB0.trans (below_down hB0.size hV)
  clear l0 l1 l2 l3 l4 l5 hV hB0
  have hd : decide ((60 : Int) < (ts.length : Int)) = false := by simp; omega
  go_wp2
  clear hd
  have hT4 := hT.below hB
  go_loop [9, 10] (fun E i => ∃ k : Nat, k ≤ ts.length ∧ i = .int .i64 k ∧ ((E = .int .i64 0 ∧ (ts.take k).all tempB = true) ∨ E = .int .i64 7)) (fun _ i => ts.length - (intOf i).toNat)
  case atStart => exact ⟨0, by omega, rfl, .inl ⟨rfl, rfl⟩⟩
  case round =>
    obtain ⟨k, hk, rfl, ⟨rfl, hall⟩ | rfl⟩ := hrel
    · have HA := Lib.hid hall
      clear hall
      by_cases hlt : k < ts.length
      · obtain ⟨ad, rfl, hlb, hc⟩ := hT4.at_ hlt
        have HN := Lib.hid (show (ts.take (k + 1)).all tempB = tempB ts[k] by rw [List.take_succ_eq_append_getElem hlt, List.all_append, HA.out]; simp)
        cases hb : tempB ts[k] with
        | true =>
          rw [hb] at HN
          have ht := tempB_t hb
          clear hb
          go_wp2_with fail
          refine (rtemp_t _ ht _).mono ?_; rintro e w' ⟨rfl, rfl⟩
          go_wp2
          go_round
          case rel => exact ⟨k + 1, by omega, by go_num, .inl ⟨rfl, HN.out⟩⟩
          case measure => simp [intOf]; omega
        | false =>
          have ht := tempB_f hb
          clear hb HN
          go_wp2_with fail
          refine (rtemp_f _ ht _).mono ?_; rintro e w' ⟨rfl, rfl⟩
          go_wp2
          go_round
          case rel => exact ⟨k + 1, by omega, by go_num, .inr rfl⟩
          case measure => simp [intOf]; omega
      · obtain rfl : k = ts.length := by omega
        rw [List.take_length] at HA
        have := HA.out
        rw [HT.out] at this
        cases this
    · by_cases hlt : k < ts.length
      · go_wp2
        go_ret3
        exact ⟨rfl, hB⟩
      · obtain rfl : k = ts.length := by omega
        go_wp2
        go_ret3
        exact ⟨rfl, hB⟩
end Go.Proofs.Ytplipfcnjmgicaa
