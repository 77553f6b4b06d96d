/-
  CONTRACTS OF Check of nets, of the program and of the reference. No statement is proved here.
-/
import Derived.Test.YtpjeaajjlkgekaaDoorGt3
import Derived.Lib.QuietBelow
namespace Go.Proofs.YtpjeaajjlkgekaaDoor
open Go.RowKit Gt Go.Sort
set_option linter.unusedVariables false
set_option linter.unusedSimpArgs false

def RetChk (w : World) (v : Int × Int × Int) (e : Ending) (w' : World) : Prop := e = .returned (.tuple #[.int .i64 v.1, .int .i64 v.2.1, .int .i64 v.2.2]) ∧ Below w.heap.size w w'
namespace Gt
theorem chk_ins {n : Nt} (h : inS 1 6 n.ins = false) : n.chk = (1, 0, 7) := by unfold Nt.chk; rw [h]; rfl
theorem chk_len {n : Nt} (h : inS 1 6 n.ins = true) (h2 : ¬ (n.gs.length ≤ 24 ∧ (1 ≤ n.outs.length ∧ n.outs.length ≤ 4))) : n.chk = (1, 0, 3) := by unfold Nt.chk; rw [h, if_pos rfl, if_neg h2]
theorem chk_gate {n : Nt} {i : Nat} (h : inS 1 6 n.ins = true) (h2 : n.gs.length ≤ 24 ∧ (1 ≤ n.outs.length ∧ n.outs.length ≤ 4)) (hi : i < n.gs.length) (h0 : ∀ j, j < i → n.gErr j = 0) (hz : n.gErr i ≠ 0) : n.chk = ((2, (i : Int), n.gErr i) : Int × Int × Int) := by
  unfold Nt.chk
  rw [h, if_pos rfl, if_pos h2, fi_at hi h0 hz, if_pos hi]
theorem chk_delays {n : Nt} (h : inS 1 6 n.ins = true) (h2 : n.gs.length ≤ 24 ∧ (1 ≤ n.outs.length ∧ n.outs.length ≤ 4)) (h0 : ∀ j, j < n.gs.length → n.gErr j = 0) (hd : 5 < dl n.gs n.gs.length) : n.chk = (1, 0, 3) := by
  unfold Nt.chk
  rw [h, if_pos rfl, if_pos h2, fi_none h0, if_neg (by omega), if_pos hd]
theorem chk_out {n : Nt} {i : Nat} (h : inS 1 6 n.ins = true) (h2 : n.gs.length ≤ 24 ∧ (1 ≤ n.outs.length ∧ n.outs.length ≤ 4)) (h0 : ∀ j, j < n.gs.length → n.gErr j = 0) (hd : ¬ 5 < dl n.gs n.gs.length) (hi : i < n.outs.length) (h1 : ∀ j, j < i → n.oErr j = 0) (hz : n.oErr i ≠ 0) : n.chk = ((3, (i : Int), 4) : Int × Int × Int) := by
  unfold Nt.chk
  rw [h, if_pos rfl, if_pos h2, fi_none h0, if_neg (by omega), if_neg hd, fi_at hi h1 hz, if_pos hi]
theorem chk_ok {n : Nt} (h : inS 1 6 n.ins = true) (h2 : n.gs.length ≤ 24 ∧ (1 ≤ n.outs.length ∧ n.outs.length ≤ 4)) (h0 : ∀ j, j < n.gs.length → n.gErr j = 0) (hd : ¬ 5 < dl n.gs n.gs.length) (h1 : ∀ j, j < n.outs.length → n.oErr j = 0) : n.chk = (0, 0, 0) := by
  unfold Nt.chk
  rw [h, if_pos rfl, if_pos h2, fi_none h0, if_neg (by omega), if_neg hd, fi_none h1, if_neg (by omega)]
theorem oErr_bad {n : Nt} {i : Nat} (h : inS 0 (n.ins + n.gs.length - 1) (n.outs.getD i 0) = false) : n.oErr i ≠ 0 := by unfold Nt.oErr; rw [h]; decide
theorem oErr_ok {n : Nt} {i : Nat} (h : inS 0 (n.ins + n.gs.length - 1) (n.outs.getD i 0) = true) : n.oErr i = 0 := by unfold Nt.oErr; rw [h]; rfl
theorem next_zero {f : Nat → Int} {j : Nat} (h : ∀ m, m < j → f m = 0) (hz : f j = 0) : ∀ m, m < j + 1 → f m = 0 := fun m hm => by
  by_cases hlt : m < j
  · exact h m hlt
  · obtain rfl : m = j := by omega
    exact hz
end Gt

theorem check_ins (n : Nt) (A : Option Addr) (c : Nat) (B : Option Addr) (d : Nat) (h : inS 1 6 n.ins = false) (w : World) : Calls Tryd.prog 14 #[ntV n A c B d] w (RetChk w n.chk) := by
  have HV := Lib.hid (chk_ins h)
  have HI := Lib.hid h
  have HB := Lib.hid (ntW_new w n A c B d 25).below
  clear h
  go_enter Tryd.func14, Tryd.ntmps14
  go_wp2_with fail
  refine (within_any n.ins 1 6 _).mono ?_; rintro e w1 ⟨rfl, rfl⟩
  rw [HI.out]
  go_wp2
  go_ret3
  exact ⟨by rw [HV.out]; rfl, HB.out⟩
theorem check_len (n : Nt) (A : Option Addr) (c : Nat) (B : Option Addr) (d : Nat) (h : inS 1 6 n.ins = true) (hl : n.gs.length ≤ maxLen) (ho : n.outs.length ≤ maxLen) (h2 : ¬ (n.gs.length ≤ 24 ∧ (1 ≤ n.outs.length ∧ n.outs.length ≤ 4))) (w : World) : Calls Tryd.prog 14 #[ntV n A c B d] w (RetChk w n.chk) := by
  have HV := Lib.hid (chk_len h h2)
  have HI := Lib.hid h
  have HB := Lib.hid (ntW_new w n A c B d 25).below
  unfold maxLen at hl ho
  by_cases h3 : 24 < n.gs.length
  · have q : decide (24 < (n.gs.length : Int)) = true := by simp; omega
    clear h h2
    go_enter Tryd.func14, Tryd.ntmps14
    go_wp2_with fail
    refine (within_any n.ins 1 6 _).mono ?_; rintro e w1 ⟨rfl, rfl⟩
    rw [HI.out]
    go_wp2
    go_ret3
    exact ⟨by rw [HV.out]; rfl, HB.out⟩
  · have q : decide (24 < (n.gs.length : Int)) = false := by simp; omega
    have HO := Lib.hid (show inS 1 4 (n.outs.length : Int) = false from inS_not.2 (by omega))
    clear h h2
    go_enter Tryd.func14, Tryd.ntmps14
    go_wp2_with fail
    refine (within_any n.ins 1 6 _).mono ?_; rintro e w1 ⟨rfl, rfl⟩
    rw [HI.out]
    go_wp2_with fail
    refine (within_any n.outs.length 1 4 _).mono ?_; rintro e w2 ⟨rfl, rfl⟩
    rw [HO.out]
    go_wp2
    go_ret3
    exact ⟨by rw [HV.out]; rfl, HB.out⟩

set_option maxRecDepth 100000 in
set_option maxHeartbeats 8000000 in
theorem check_run (n : Nt) (A : Option Addr) (c : Nat) (B : Option Addr) (d : Nat) (h : inS 1 6 n.ins = true) (h2 : n.gs.length ≤ 24 ∧ (1 ≤ n.outs.length ∧ n.outs.length ≤ 4)) (w : World) (hN : NetAt w A B n) : Calls Tryd.prog 14 #[ntV n A c B d] w (RetChk w n.chk) := by
  have HI := Lib.hid h
  have HL := Lib.hid h2
  have hins := inS_iff.1 h
  have HINS := Lib.hid hins
  obtain ⟨h24, ho1, ho4⟩ := h2
  have q : decide (24 < (n.gs.length : Int)) = false := by simp; omega
  have HO := Lib.hid (show inS 1 4 (n.outs.length : Int) = true from inS_iff.2 (by omega))
  have HN := Lib.hid hN
  have P0 := ntW_new w n A c B d 25
  have HB0 := Lib.hid P0
  obtain ⟨_, c0, c1, c2, hs⟩ := P0
  clear h hN
  go_enter Tryd.func14, Tryd.ntmps14
  go_wp2_with fail
  refine (within_any n.ins 1 6 _).mono ?_; rintro e w1 ⟨rfl, rfl⟩
  rw [HI.out]
  go_wp2_with fail
  refine (within_any n.outs.length 1 4 _).mono ?_; rintro e w2 ⟨rfl, rfl⟩
  rw [HO.out]
  go_wp2
  clear c0 c1 c2 hs
  go_loopw [27] (fun i wr => ∃ j : Nat, j ≤ n.gs.length ∧ i = .int .i64 j ∧ Hid (∀ m, m < j → n.gErr m = 0) ∧ NtW w n A c B d wr) (fun i _ => n.gs.length - (intOf i).toNat)
  case atStart => exact ⟨0, by omega, rfl, Lib.hid (fun m hm => by omega), HB0.out⟩
  case round =>
    obtain ⟨j, hj, rfl, HZ, P⟩ := hrel
    have HP := Lib.hid P
    obtain ⟨_, c0, c1, c2, hs⟩ := P
    by_cases hlt : j < n.gs.length
    · have K := gate_any n A c B d j hlt h24 hins wr (HP.out.net HN.out)
      by_cases hz : n.gErr j = 0
      · have HN2 := Lib.hid (next_zero HZ.out hz)
        rw [hz] at K
        have K' := Lib.hid K
        clear K hz
        go_wp2_with fail
        refine K'.out.mono ?_; rintro e w3 ⟨rfl, hb3⟩
        have P2 := HP.out.after hb3
        clear c0 c1 c2 hs hb3 K'
        go_wp2
        go_roundw
        case rel => exact ⟨j + 1, by omega, by go_num, HN2, P2⟩
        case measure => simp [intOf]; omega
      · have HV := Lib.hid (chk_gate HI.out HL.out hlt HZ.out hz)
        have qz : (n.gErr j != 0) = true := by simpa using hz
        have K' := Lib.hid K
        clear K hz
        generalize n.gErr j = r at *
        go_wp2_with fail
        refine K'.out.mono ?_; rintro e w3 ⟨rfl, hb3⟩
        have HB := Lib.hid (HP.out.after hb3).below
        clear c0 c1 c2 hs hb3 K'
        go_wp2
        go_ret3
        exact ⟨by rw [HV.out]; rfl, HB.out⟩
    · obtain rfl : j = n.gs.length := by omega
      have hdl := dl_le n.gs n.gs.length
      by_cases hd : 5 < dl n.gs n.gs.length
      · have HV := Lib.hid (chk_delays HI.out HL.out HZ.out hd)
        go_wp2_with fail
        refine (delays_any n A c B d h24 hins wr (HP.out.net HN.out)).mono ?_; rintro e w3 ⟨D, kk, rfl, hb3⟩
        have HB := Lib.hid (HP.out.after hb3).below
        clear c0 c1 c2 hs hb3
        generalize dl n.gs n.gs.length = x at *
        go_wp2
        go_ret3
        exact ⟨by rw [HV.out]; rfl, HB.out⟩
      · have HD := Lib.hid hd
        go_wp2_with fail
        refine (delays_any n A c B d h24 hins wr (HP.out.net HN.out)).mono ?_; rintro e w3 ⟨D, kk, rfl, hb3⟩
        have P3 := HP.out.after hb3
        have HP3 := Lib.hid P3
        clear c0 c1 c2 hs hb3
        obtain ⟨_, c0, c1, c2, hs⟩ := P3
        clear hd
        generalize hx : dl n.gs n.gs.length = x at hdl ⊢
        have q5 : ¬ 5 < x := by rw [← hx]; exact HD.out
        clear hx
        go_wp2
        clear c0 c1 c2 hs
        obtain ⟨wo, hwo⟩ : ∃ wo, wo = wr := ⟨_, rfl⟩; subst hwo
        go_loopw [45] (fun i wr => ∃ j : Nat, j ≤ n.outs.length ∧ i = .int .i64 j ∧ Hid (∀ m, m < j → n.oErr m = 0) ∧ NtW w n A c B d wr) (fun i _ => n.outs.length - (intOf i).toNat)
        case atStart => exact ⟨0, by omega, rfl, Lib.hid (fun m hm => by omega), HP3.out⟩
        case round =>
          obtain ⟨j, hj, rfl, HZ2, P⟩ := hrel
          have HP4 := Lib.hid P
          have HOA := Lib.hid (P.net HN.out).o
          obtain ⟨_, c0, c1, c2, hs⟩ := P
          by_cases hlt : j < n.outs.length
          · obtain ⟨ad, rfl, hab, hc⟩ := HOA.out.at_ hlt
            have hgd : n.outs[j] = n.outs.getD j 0 := by simp [List.getD, hlt]
            rw [hgd] at hc
            have HBAD := Lib.hid (fun hb => chk_out HI.out HL.out HZ.out HD.out hlt HZ2.out (oErr_bad (n := n) (i := j) hb))
            have HOKN := Lib.hid (fun hb => next_zero HZ2.out (oErr_ok (n := n) (i := j) hb))
            clear hgd
            generalize n.outs.getD j 0 = z at *
            by_cases hb : inS 0 (n.ins + n.gs.length - 1) z = true
            · have HS := Lib.hid hb
              have HN2 := Lib.hid (HOKN.out hb)
              clear hb
              go_wp2_with fail
              refine (isSignal_any n (A) c (some ad) d z h24 hins wr).mono ?_; rintro e w4 ⟨rfl, hb4⟩
              rw [HS.out]
              have P5 := HP4.out.after hb4
              clear c0 c1 c2 hs hb4
              go_wp2
              go_roundw
              case rel => exact ⟨j + 1, by omega, by go_num, HN2, P5⟩
              case measure => simp [intOf]; omega
            
            · have HS := Lib.hid (show inS 0 (n.ins + n.gs.length - 1) z = false by simpa using hb)
              have HV := Lib.hid (HBAD.out HS.out)
              clear hb
              go_wp2_with fail
              refine (isSignal_any n (A) c (some ad) d z h24 hins wr).mono ?_; rintro e w4 ⟨rfl, hb4⟩
              rw [HS.out]
              have P5 := HP4.out.after hb4
              clear c0 c1 c2 hs hb4
              go_wp2
              go_ret3
              exact ⟨by rw [HV.out]; rfl, P5.below⟩
          · obtain rfl : j = n.outs.length := by omega
            have HV := Lib.hid (chk_ok HI.out HL.out HZ.out HD.out HZ2.out)
            have HB := Lib.hid HP4.out.below
            go_wp2
            go_ret3
            exact ⟨by rw [HV.out]; rfl, HB.out⟩
theorem check_any (n : Nt) (A : Option Addr) (c : Nat) (B : Option Addr) (d : Nat) (w : World) (hN : NetAt w A B n) : Calls Tryd.prog 14 #[ntV n A c B d] w (RetChk w n.chk) := by
  cases h : inS 1 6 n.ins with
  | false => exact check_ins n A c B d h w
  | true =>
    by_cases h2 : n.gs.length ≤ 24 ∧ (1 ≤ n.outs.length ∧ n.outs.length ≤ 4)
    · exact check_run n A c B d h h2 w hN
    · exact check_len n A c B d h hN.lg hN.lo h2 w

theorem rcheck_ins (n : Nt) (A : Option Addr) (c : Nat) (B : Option Addr) (d : Nat) (h : inS 1 6 n.ins = false) (w : World) : Calls Tryd.prog 15 #[ntV n A c B d] w (RetChk w n.chk) := by
  have HV := Lib.hid (chk_ins h)
  have HI := Lib.hid h
  have HB := Lib.hid (ntW_new w n A c B d 25).below
  clear h
  go_enter Tryd.func15, Tryd.ntmps15
  go_wp2_with fail
  refine (rin_any n.ins 1 6 _).mono ?_; rintro e w1 ⟨rfl, rfl⟩
  rw [HI.out]
  go_wp2
  go_ret3
  exact ⟨by rw [HV.out]; rfl, HB.out⟩
theorem rcheck_len (n : Nt) (A : Option Addr) (c : Nat) (B : Option Addr) (d : Nat) (h : inS 1 6 n.ins = true) (hl : n.gs.length ≤ maxLen) (ho : n.outs.length ≤ maxLen) (h2 : ¬ (n.gs.length ≤ 24 ∧ (1 ≤ n.outs.length ∧ n.outs.length ≤ 4))) (w : World) : Calls Tryd.prog 15 #[ntV n A c B d] w (RetChk w n.chk) := by
  have HV := Lib.hid (chk_len h h2)
  have HI := Lib.hid h
  have HB := Lib.hid (ntW_new w n A c B d 25).below
  unfold maxLen at hl ho
  by_cases h3 : 24 < n.gs.length
  · have q : decide (24 < (n.gs.length : Int)) = true := by simp; omega
    clear h h2
    go_enter Tryd.func15, Tryd.ntmps15
    go_wp2_with fail
    refine (rin_any n.ins 1 6 _).mono ?_; rintro e w1 ⟨rfl, rfl⟩
    rw [HI.out]
    go_wp2
    go_ret3
    exact ⟨by rw [HV.out]; rfl, HB.out⟩
  · have q : decide (24 < (n.gs.length : Int)) = false := by simp; omega
    have HO := Lib.hid (show inS 1 4 (n.outs.length : Int) = false from inS_not.2 (by omega))
    clear h h2
    go_enter Tryd.func15, Tryd.ntmps15
    go_wp2_with fail
    refine (rin_any n.ins 1 6 _).mono ?_; rintro e w1 ⟨rfl, rfl⟩
    rw [HI.out]
    go_wp2_with fail
    refine (rin_any n.outs.length 1 4 _).mono ?_; rintro e w2 ⟨rfl, rfl⟩
    rw [HO.out]
    go_wp2
    go_ret3
    exact ⟨by rw [HV.out]; rfl, HB.out⟩

set_option maxRecDepth 100000 in
set_option maxHeartbeats 8000000 in
theorem rcheck_run (n : Nt) (A : Option Addr) (c : Nat) (B : Option Addr) (d : Nat) (h : inS 1 6 n.ins = true) (h2 : n.gs.length ≤ 24 ∧ (1 ≤ n.outs.length ∧ n.outs.length ≤ 4)) (w : World) (hN : NetAt w A B n) : Calls Tryd.prog 15 #[ntV n A c B d] w (RetChk w n.chk) := by
  have HI := Lib.hid h
  have HL := Lib.hid h2
  have hins := inS_iff.1 h
  have HINS := Lib.hid hins
  obtain ⟨h24, ho1, ho4⟩ := h2
  have q : decide (24 < (n.gs.length : Int)) = false := by simp; omega
  have HO := Lib.hid (show inS 1 4 (n.outs.length : Int) = true from inS_iff.2 (by omega))
  have HN := Lib.hid hN
  have P0 := ntW_new w n A c B d 25
  have HB0 := Lib.hid P0
  obtain ⟨_, c0, c1, c2, hs⟩ := P0
  clear h hN
  go_enter Tryd.func15, Tryd.ntmps15
  go_wp2_with fail
  refine (rin_any n.ins 1 6 _).mono ?_; rintro e w1 ⟨rfl, rfl⟩
  rw [HI.out]
  go_wp2_with fail
  refine (rin_any n.outs.length 1 4 _).mono ?_; rintro e w2 ⟨rfl, rfl⟩
  rw [HO.out]
  go_wp2
  clear c0 c1 c2 hs
  go_loopw [5] (fun i wr => ∃ j : Nat, j ≤ n.gs.length ∧ i = .int .i64 j ∧ Hid (∀ m, m < j → n.gErr m = 0) ∧ NtW w n A c B d wr) (fun i _ => n.gs.length - (intOf i).toNat)
  case atStart => exact ⟨0, by omega, rfl, Lib.hid (fun m hm => by omega), HB0.out⟩
  case round =>
    obtain ⟨j, hj, rfl, HZ, P⟩ := hrel
    have HP := Lib.hid P
    obtain ⟨_, c0, c1, c2, hs⟩ := P
    by_cases hlt : j < n.gs.length
    · have K := rgate_any n A c B d j hlt h24 hins wr (HP.out.net HN.out)
      by_cases hz : n.gErr j = 0
      · have HN2 := Lib.hid (next_zero HZ.out hz)
        rw [hz] at K
        have K' := Lib.hid K
        clear K hz
        go_wp2_with fail
        refine K'.out.mono ?_; rintro e w3 ⟨rfl, hb3⟩
        have P2 := HP.out.after hb3
        clear c0 c1 c2 hs hb3 K'
        go_wp2
        go_roundw
        case rel => exact ⟨j + 1, by omega, by go_num, HN2, P2⟩
        case measure => simp [intOf]; omega
      · have HV := Lib.hid (chk_gate HI.out HL.out hlt HZ.out hz)
        have qz : (n.gErr j != 0) = true := by simpa using hz
        have K' := Lib.hid K
        clear K hz
        generalize n.gErr j = r at *
        go_wp2_with fail
        refine K'.out.mono ?_; rintro e w3 ⟨rfl, hb3⟩
        have HB := Lib.hid (HP.out.after hb3).below
        clear c0 c1 c2 hs hb3 K'
        go_wp2
        go_ret3
        exact ⟨by rw [HV.out]; rfl, HB.out⟩
    · obtain rfl : j = n.gs.length := by omega
      have hdl := dl_le n.gs n.gs.length
      by_cases hd : 5 < dl n.gs n.gs.length
      · have HV := Lib.hid (chk_delays HI.out HL.out HZ.out hd)
        go_wp2_with fail
        refine (rdelays_any n A c B d h24 wr (HP.out.net HN.out)).mono ?_; rintro e w3 ⟨rfl, hb3⟩
        have HB := Lib.hid (HP.out.after hb3).below
        clear c0 c1 c2 hs hb3
        generalize dl n.gs n.gs.length = x at *
        go_wp2
        go_ret3
        exact ⟨by rw [HV.out]; rfl, HB.out⟩
      · have HD := Lib.hid hd
        go_wp2_with fail
        refine (rdelays_any n A c B d h24 wr (HP.out.net HN.out)).mono ?_; rintro e w3 ⟨rfl, hb3⟩
        have P3 := HP.out.after hb3
        have HP3 := Lib.hid P3
        clear c0 c1 c2 hs hb3
        obtain ⟨_, c0, c1, c2, hs⟩ := P3
        clear hd
        generalize hx : dl n.gs n.gs.length = x at hdl ⊢
        have q5 : ¬ 5 < x := by rw [← hx]; exact HD.out
        clear hx
        go_wp2
        clear c0 c1 c2 hs
        obtain ⟨wo, hwo⟩ : ∃ wo, wo = wr := ⟨_, rfl⟩; subst hwo
        go_loopw [7] (fun i wr => ∃ j : Nat, j ≤ n.outs.length ∧ i = .int .i64 j ∧ Hid (∀ m, m < j → n.oErr m = 0) ∧ NtW w n A c B d wr) (fun i _ => n.outs.length - (intOf i).toNat)
        case atStart => exact ⟨0, by omega, rfl, Lib.hid (fun m hm => by omega), HP3.out⟩
        case round =>
          obtain ⟨j, hj, rfl, HZ2, P⟩ := hrel
          have HP4 := Lib.hid P
          have HOA := Lib.hid (P.net HN.out).o
          obtain ⟨_, c0, c1, c2, hs⟩ := P
          by_cases hlt : j < n.outs.length
          · obtain ⟨ad, rfl, hab, hc⟩ := HOA.out.at_ hlt
            have hgd : n.outs[j] = n.outs.getD j 0 := by simp [List.getD, hlt]
            rw [hgd] at hc
            have HBAD := Lib.hid (fun hb => chk_out HI.out HL.out HZ.out HD.out hlt HZ2.out (oErr_bad (n := n) (i := j) hb))
            have HOKN := Lib.hid (fun hb => next_zero HZ2.out (oErr_ok (n := n) (i := j) hb))
            clear hgd
            generalize n.outs.getD j 0 = z at *
            by_cases hb : inS 0 (n.ins + n.gs.length - 1) z = true
            · have HS := Lib.hid hb
              have HN2 := Lib.hid (HOKN.out hb)
              clear hb
              go_wp2
              have k0 := cell_regrown c0
              have k1 := cell_regrown c1
              have k2 := cell_regrown c2
              have kz := cell_regrown hc
              have qw1 : IntKind.i64.wrap (n.ins + (n.gs.length : Int)) = n.ins + n.gs.length := by rw [IntKind.wrap_i64]; omega
              have qw2 : IntKind.i64.wrap (n.ins + (n.gs.length : Int) - 1) = n.ins + n.gs.length - 1 := by rw [IntKind.wrap_i64]; omega
              have cI : ∀ dd os, Calls Tryd.prog 43 #[.int .i64 z, .int .i64 0, .int .i64 (n.ins + n.gs.length - 1)] (grow (redrawn wr dd) os) fun e w'' => e = .returned (.bool true) ∧ ∃ p : Regrown, w'' = grow (redrawn wr p.d) p.os := fun dd os =>
                Calls.regrown_of ((rin_any z 0 (n.ins + n.gs.length - 1) _).mono fun e w' h => ⟨by rw [h.1, HS.out], by rw [h.2]; exact Below.refl _ _⟩)
              clear c0 c1 c2 hc
              refine wp_region_quiet_below rfl (by kernel_rfl) ?_
              repeat (quiet_step (first | with_reducible exact cI _ _ | fail))
              refine wpQuiet_nil ?_
              intro _ hw'
              obtain ⟨⟨dq, osq⟩, hw''⟩ := hw'
              subst hw''
              have P5 := HP4.out.after (below_regrown wr dq osq)
              generalize grow (redrawn wr dq) osq = X at *
              clear cI k0 k1 k2 kz
              go_wp2
              go_roundw
              case rel => exact ⟨j + 1, by omega, by go_num, HN2, P5⟩
              case measure => simp [intOf]; omega
            
            · have HS := Lib.hid (show inS 0 (n.ins + n.gs.length - 1) z = false by simpa using hb)
              have HV := Lib.hid (HBAD.out HS.out)
              clear hb
              go_wp2
              have k0 := cell_regrown c0
              have k1 := cell_regrown c1
              have k2 := cell_regrown c2
              have kz := cell_regrown hc
              have qw1 : IntKind.i64.wrap (n.ins + (n.gs.length : Int)) = n.ins + n.gs.length := by rw [IntKind.wrap_i64]; omega
              have qw2 : IntKind.i64.wrap (n.ins + (n.gs.length : Int) - 1) = n.ins + n.gs.length - 1 := by rw [IntKind.wrap_i64]; omega
              have cI : ∀ dd os, Calls Tryd.prog 43 #[.int .i64 z, .int .i64 0, .int .i64 (n.ins + n.gs.length - 1)] (grow (redrawn wr dd) os) fun e w'' => e = .returned (.bool false) ∧ ∃ p : Regrown, w'' = grow (redrawn wr p.d) p.os := fun dd os =>
                Calls.regrown_of ((rin_any z 0 (n.ins + n.gs.length - 1) _).mono fun e w' h => ⟨by rw [h.1, HS.out], by rw [h.2]; exact Below.refl _ _⟩)
              clear c0 c1 c2 hc
              refine wp_region_quiet_below rfl (by kernel_rfl) ?_
              repeat (quiet_step (first | with_reducible exact cI _ _ | fail))
              refine wpQuiet_nil ?_
              intro _ hw'
              obtain ⟨⟨dq, osq⟩, hw''⟩ := hw'
              subst hw''
              have P5 := HP4.out.after (below_regrown wr dq osq)
              generalize grow (redrawn wr dq) osq = X at *
              clear cI k0 k1 k2 kz
              go_wp2
              go_ret3
              exact ⟨by rw [HV.out]; rfl, P5.below⟩
          · obtain rfl : j = n.outs.length := by omega
            have HV := Lib.hid (chk_ok HI.out HL.out HZ.out HD.out HZ2.out)
            have HB := Lib.hid HP4.out.below
            go_wp2
            go_ret3
            exact ⟨by rw [HV.out]; rfl, HB.out⟩
theorem rcheck_any (n : Nt) (A : Option Addr) (c : Nat) (B : Option Addr) (d : Nat) (w : World) (hN : NetAt w A B n) : Calls Tryd.prog 15 #[ntV n A c B d] w (RetChk w n.chk) := by
  cases h : inS 1 6 n.ins with
  | false => exact rcheck_ins n A c B d h w
  | true =>
    by_cases h2 : n.gs.length ≤ 24 ∧ (1 ≤ n.outs.length ∧ n.outs.length ≤ 4)
    · exact rcheck_run n A c B d h h2 w hN
    · exact rcheck_len n A c B d h hN.lg hN.lo h2 w

end Go.Proofs.YtpjeaajjlkgekaaDoor
