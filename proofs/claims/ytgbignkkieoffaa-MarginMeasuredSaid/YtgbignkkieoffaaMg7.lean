/-
  CONTRACTS OF Need, of the program and of the reference. No statement is proved here.
-/
import Derived.Test.YtgbignkkieoffaaMg6
namespace Go.Proofs.Ytgbignkkieoffaa
open Go.RowKit Mg
set_option linter.unusedVariables false
set_option linter.unusedSimpArgs false

theorem rvoltage_any (k : Kd) (A : Option Addr) (c : Nat) (volt : Int) (hx : 1 ≤ k.st.length ∧ k.st.length ≤ 8) (w : World) (hp : PairsAt w w.heap.size A k.st) :
    Calls Try.prog 24 #[kdV k A c, .int .i64 volt] w fun e w' => e = .returned (.bool (voltB k.st volt)) ∧ Below w.heap.size w w' := by
  obtain ⟨n, hn⟩ : ∃ n, k.st.length = n + 1 := ⟨k.st.length - 1, by omega⟩
  obtain ⟨ad, rfl, hb, hc⟩ := last_at hp hn
  have HV := Lib.hid (show inS (lastV k.st) 1000 volt = voltB k.st volt from rfl)
  unfold kdV
  rw [hn] at hx ⊢
  generalize lastV k.st = l at *
  generalize voltB k.st volt = r at *
  clear hn hp
  go_enter Try.func24, Try.ntmps24
  have e0 : (w.alloc (.cells #[.int .i64 k.new, .int .i64 k.lo, .int .i64 k.hi, .slice (some ad) (n + 1) c] 26)).cell? (ad.add (n * 2)) = some (.int .i64 l) :=
    ((Below.refl w.heap.size w).alloc (Nat.le_refl _) _ |>.cell (p := ad.add (n * 2)) (by rw [add_block]; exact hb)).trans hc
  go_wp2_with fail
  refine (rin_any volt l 1000 _).mono ?_; rintro e w1 ⟨rfl, rfl⟩
  rw [HV.out]
  go_wp2
  go_ret
  exact ⟨rfl, by go_grown⟩
set_option maxHeartbeats 4000000 in
theorem needed_any (k : Kd) (A : Option Addr) (c : Nat) (volt : Int) (hl : k.st.length ≤ maxLen) (hex : ∃ j, j < k.st.length ∧ (stG k.st j).1 ≤ volt) (w : World) (hp : PairsAt w w.heap.size A k.st) :
    Calls Try.prog 19 #[kdV k A c, .int .i64 volt] w (RetInt w (need k.st volt)) := by
  obtain ⟨hlt0, hat, hbe⟩ := pos_spec hex
  have HBE := Lib.hid hbe
  have HN := Lib.hid (show need k.st volt = (stG k.st (pos volt k.st)).2 from rfl)
  unfold maxLen at hl
  have P0 := Lib.hid (kdW_new w k A c 26)
  clear hex hbe
  generalize need k.st volt = r at *
  generalize hp' : pos volt k.st = m at *
  have HP := Lib.hid hp
  clear hp hp'
  go_enter Try.func19, Try.ntmps19
  go_wp2
  generalize w.alloc (.cells #[.int .i64 k.new, .int .i64 k.lo, .int .i64 k.hi, .slice A k.st.length c] 26) = V at *
  have HS := Lib.hid (P0.out.steps HP.out)
  have HB := Lib.hid P0.out.below
  have P0' := P0.out
  obtain ⟨_, c0, c1, c2, c3, hs⟩ := P0'
  go_loop [5] (fun i => ∃ j : Nat, j ≤ m ∧ i = .int .i64 j) (fun i => k.st.length - (intOf i).toNat)
  case atStart => exact ⟨0, by omega, rfl⟩
  case round =>
    obtain ⟨j, hj, rfl⟩ := hrel
    have hlt : j < k.st.length := by omega
    obtain ⟨ad, rfl, hlb, d0, d1⟩ := HS.out.at_ hlt
    by_cases hjm : j = m
    · subst hjm
      have q : decide (volt < (stG k.st j).1) = false := by simpa using hat
      clear hat
      generalize stG k.st j = s at *
      go_wp2
      go_ret
      exact ⟨by rw [HN.out]; rfl, HB.out⟩
    · have q : decide (volt < (stG k.st j).1) = true := by have := HBE.out j (by omega); simp; omega
      generalize stG k.st j = s at *
      go_wp2
      go_round
      case rel => exact ⟨j + 1, by omega, by go_num⟩
      case measure => simp [intOf]; omega
/-- What Need answers. -/
def NeedOut (w : World) (k : Kd) (volt : Int) (e : Ending) (w' : World) : Prop := e = .returned (.tuple #[.int .i64 (k.needV volt), .int .i64 (k.needErr volt)]) ∧ Below w.heap.size w w'
theorem KdW.kind {w U : World} {k : Kd} {A : Option Addr} {c : Nat} (h : KdW w k A c U) (hk : KindAt w A k) : KindAt U A k := hk.below h.below
theorem kd_len {k : Kd} (h : k.err = 0) : 1 ≤ k.st.length ∧ k.st.length ≤ 8 := (Kd.ok_of h).len
set_option maxHeartbeats 4000000 in
theorem need_any (k : Kd) (A : Option Addr) (c : Nat) (volt : Int) (w : World) (h : KindAt w A k) : Calls Try.prog 8 #[kdV k A c, .int .i64 volt] w (NeedOut w k volt) := by
  have P0 := kdW_new w k A c 26
  have HK := Lib.hid h
  clear h
  by_cases he : k.err = 0
  · have hx := kd_len he
    have HX := Lib.hid hx
    have HE := Lib.hid he
    by_cases hv : voltB k.st volt = true
    · have HV := Lib.hid (show k.vErr volt = 0 by unfold Kd.vErr; rw [if_pos hv])
      have HR := Lib.hid (show k.needErr volt = 0 by unfold Kd.needErr; rw [if_pos he]; exact HV.out)
      have HN := Lib.hid (show k.needV volt = need k.st volt by unfold Kd.needV; rw [if_pos HR.out])
      have HW := Lib.hid (volt_ex hx.1 hv)
      clear hx he hv
      go_enter Try.func8, Try.ntmps8
      go_wp2_with fail
      refine (check_any k A c _ (P0.kind HK.out)).mono ?_; rintro e w1 ⟨rfl, hb⟩
      rw [HE.out]
      have P1 := P0.after hb
      clear P0 hb
      have P1' := P1
      obtain ⟨_, c0, c1, c2, c3, hs⟩ := P1'
      go_wp2_with fail
      refine (volt_any k A c volt HX.out _ (P1.kind HK.out).at_).mono ?_; rintro e w2 ⟨rfl, hb2⟩
      rw [HV.out]
      have P2 := P1.after hb2
      clear P1 hb2 c0 c1 c2 c3 hs
      have P2' := P2
      obtain ⟨_, c0, c1, c2, c3, hs⟩ := P2'
      go_wp2_with fail
      refine (needAt_any k A c volt HK.out.len HW.out _ (P2.kind HK.out).at_).mono ?_; rintro e w3 ⟨rfl, hb3⟩
      have HB := Lib.hid (P2.after hb3).below
      clear P2 hb3 c0 c1 c2 c3 hs
      go_wp2
      go_returns
      exact ⟨by rw [HR.out, HN.out]; try rfl, HB.out⟩
    · have hve : k.vErr volt = 7 := by unfold Kd.vErr; rw [if_neg hv]
      have HV := Lib.hid hve
      have HR := Lib.hid (show k.needErr volt = 7 by unfold Kd.needErr; rw [if_pos he]; exact hve)
      have HN := Lib.hid (show k.needV volt = 0 by unfold Kd.needV; rw [HR.out]; rfl)
      clear hx he hv hve
      go_enter Try.func8, Try.ntmps8
      go_wp2_with fail
      refine (check_any k A c _ (P0.kind HK.out)).mono ?_; rintro e w1 ⟨rfl, hb⟩
      rw [HE.out]
      have P1 := P0.after hb
      clear P0 hb
      have P1' := P1
      obtain ⟨_, c0, c1, c2, c3, hs⟩ := P1'
      go_wp2_with fail
      refine (volt_any k A c volt HX.out _ (P1.kind HK.out).at_).mono ?_; rintro e w2 ⟨rfl, hb2⟩
      rw [HV.out]
      have HB := Lib.hid (P1.after hb2).below
      clear P1 hb2 c0 c1 c2 c3 hs
      go_wp2
      go_returns
      exact ⟨by rw [HR.out, HN.out]; try rfl, HB.out⟩
  · have q : (k.err != 0) = true := by simpa using he
    have HR := Lib.hid (show k.needErr volt = k.err by unfold Kd.needErr; rw [if_neg he])
    have HN := Lib.hid (show k.needV volt = 0 by unfold Kd.needV; rw [HR.out, if_neg he])
    clear he
    go_enter Try.func8, Try.ntmps8
    go_wp2_with fail
    refine (check_any k A c _ (P0.kind HK.out)).mono ?_; rintro e w1 ⟨rfl, hb⟩
    have HB := Lib.hid (P0.after hb).below
    clear P0 hb
    generalize k.err = r at *
    go_wp2
    go_returns
    exact ⟨by rw [HR.out, HN.out]; try rfl, HB.out⟩
set_option maxHeartbeats 4000000 in
theorem rneed_any (k : Kd) (A : Option Addr) (c : Nat) (volt : Int) (w : World) (h : KindAt w A k) : Calls Try.prog 9 #[kdV k A c, .int .i64 volt] w (NeedOut w k volt) := by
  have P0 := kdW_new w k A c 26
  have HK := Lib.hid h
  clear h
  by_cases he : k.err = 0
  · have hx := kd_len he
    have HX := Lib.hid hx
    have HE := Lib.hid he
    by_cases hv : voltB k.st volt = true
    · have HVB := Lib.hid hv
      have HR := Lib.hid (show k.needErr volt = 0 by unfold Kd.needErr; rw [if_pos he]; unfold Kd.vErr; rw [if_pos hv])
      have HN := Lib.hid (show k.needV volt = need k.st volt by unfold Kd.needV; rw [if_pos HR.out])
      have HW := Lib.hid (volt_ex hx.1 hv)
      clear hx he hv
      go_enter Try.func9, Try.ntmps9
      go_wp2_with fail
      refine (rcheck_any k A c _ (P0.kind HK.out)).mono ?_; rintro e w1 ⟨rfl, hb⟩
      rw [HE.out]
      have P1 := P0.after hb
      clear P0 hb
      have P1' := P1
      obtain ⟨_, c0, c1, c2, c3, hs⟩ := P1'
      go_wp2_with fail
      refine (rvoltage_any k A c volt HX.out _ (P1.kind HK.out).at_).mono ?_; rintro e w2 ⟨rfl, hb2⟩
      rw [HVB.out]
      have P2 := P1.after hb2
      clear P1 hb2 c0 c1 c2 c3 hs
      have P2' := P2
      obtain ⟨_, c0, c1, c2, c3, hs⟩ := P2'
      go_wp2_with fail
      refine (needed_any k A c volt HK.out.len HW.out _ (P2.kind HK.out).at_).mono ?_; rintro e w3 ⟨rfl, hb3⟩
      have HB := Lib.hid (P2.after hb3).below
      clear P2 hb3 c0 c1 c2 c3 hs
      go_wp2
      go_returns
      exact ⟨by rw [HR.out, HN.out]; try rfl, HB.out⟩
    · have HVB := Lib.hid (show voltB k.st volt = false by simpa using hv)
      have HR := Lib.hid (show k.needErr volt = 7 by unfold Kd.needErr; rw [if_pos he]; unfold Kd.vErr; rw [if_neg hv])
      have HN := Lib.hid (show k.needV volt = 0 by unfold Kd.needV; rw [HR.out]; rfl)
      clear hx he hv
      go_enter Try.func9, Try.ntmps9
      go_wp2_with fail
      refine (rcheck_any k A c _ (P0.kind HK.out)).mono ?_; rintro e w1 ⟨rfl, hb⟩
      rw [HE.out]
      have P1 := P0.after hb
      clear P0 hb
      have P1' := P1
      obtain ⟨_, c0, c1, c2, c3, hs⟩ := P1'
      go_wp2_with fail
      refine (rvoltage_any k A c volt HX.out _ (P1.kind HK.out).at_).mono ?_; rintro e w2 ⟨rfl, hb2⟩
      rw [HVB.out]
      have HB := Lib.hid (P1.after hb2).below
      clear P1 hb2 c0 c1 c2 c3 hs
      go_wp2
      go_returns
      exact ⟨by rw [HR.out, HN.out]; try rfl, HB.out⟩
  · have q : (k.err == 0) = false := by simpa using he
    have q' : (k.err != 0) = true := by simpa using he
    have HR := Lib.hid (show k.needErr volt = k.err by unfold Kd.needErr; rw [if_neg he])
    have HN := Lib.hid (show k.needV volt = 0 by unfold Kd.needV; rw [HR.out, if_neg he])
    clear he
    go_enter Try.func9, Try.ntmps9
    go_wp2_with fail
    refine (rcheck_any k A c _ (P0.kind HK.out)).mono ?_; rintro e w1 ⟨rfl, hb⟩
    have HB := Lib.hid (P0.after hb).below
    clear P0 hb
    generalize k.err = r at *
    go_wp2
    go_returns
    exact ⟨by rw [HR.out, HN.out]; try rfl, HB.out⟩
end Go.Proofs.Ytgbignkkieoffaa
