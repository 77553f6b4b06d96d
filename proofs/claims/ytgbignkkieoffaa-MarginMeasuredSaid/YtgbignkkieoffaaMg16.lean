/-
  MarginMeasured: the walk. No statement is proved here.
-/
import Derived.Test.YtgbignkkieoffaaMg15
namespace Go.Proofs.Ytgbignkkieoffaa
open Go.RowKit Mg Go.Sort
set_option linter.unusedVariables false
set_option linter.unusedSimpArgs false

theorem below_step {W U V : World} (h : Below W.heap.size W U) (hb : Below U.heap.size U V) : Below W.heap.size W V := h.trans (below_low h.size hb)
theorem msW_new (W : World) (k : Kd) (A : Option Addr) (c : Nat) (v0 v1 : Value) (F : Int) (B : Option Addr) (nb : Nat) (zs : List Int) (hz : ListAt (Value.int .u16) W W.heap.size B zs) {w1 : World} (s : Int × Int) (T T' T'' : TypeId)
    (hb : Below ((W.alloc (.cells #[.int .i64 k.new, .int .i64 k.lo, .int .i64 k.hi, .slice A k.st.length c] T)).alloc (.cells #[v0, v1, .int .u16 F, .slice B zs.length nb] T')).heap.size ((W.alloc (.cells #[.int .i64 k.new, .int .i64 k.lo, .int .i64 k.hi, .slice A k.st.length c] T)).alloc (.cells #[v0, v1, .int .u16 F, .slice B zs.length nb] T')) w1) :
    MsW W k A c F B nb zs w1.heap.size s (w1.alloc (.cells #[.int .i64 s.1, .int .i64 s.2] T'')) := by
  have P0 := (kdW_new W k A c T).after ((Below.refl _ _).alloc (Nat.le_refl _) (.cells #[v0, v1, .int .u16 F, .slice B zs.length nb] T'))
  have hl : W.heap.size + 1 < ((W.alloc (.cells #[.int .i64 k.new, .int .i64 k.lo, .int .i64 k.hi, .slice A k.st.length c] T)).alloc (.cells #[v0, v1, .int .u16 F, .slice B zs.length nb] T')).heap.size := by simp
  have hA : Below w1.heap.size w1 (w1.alloc (.cells #[.int .i64 s.1, .int .i64 s.2] T'')) := (Below.refl _ _).alloc (Nat.le_refl _) _
  have P1 := (P0.after hb).after hA
  have hl1 := Nat.lt_of_lt_of_le hl hb.size
  refine ⟨P1, ?_, ?_, by simp [go_sem], by simp [go_sem], Nat.lt_of_lt_of_le hl1 hA.size, by simp, (hz.below P1.below).more P1.below.size⟩
  · exact (hA.cell (p := ⟨W.heap.size + 1, 2, none⟩) hl1).trans ((hb.cell (p := ⟨W.heap.size + 1, 2, none⟩) hl).trans (by simp [go_sem]))
  · exact (hA.cell (p := ⟨W.heap.size + 1, 3, none⟩) hl1).trans ((hb.cell (p := ⟨W.heap.size + 1, 3, none⟩) hl).trans (by simp [go_sem]))
set_option maxRecDepth 100000 in
set_option maxHeartbeats 4000000 in
theorem meas_err (W : World) (k : Kd) (A : Option Addr) (c : Nat) (hk : KindAt W A k) (step : Int) (v0 v1 : Value) (F : Int) (B : Option Addr) (nb : Nat) (zs : List Int) (he : k.lifeErr step ≠ 0) :
    Calls Try.prog 7 #[kdV k A c, .int .i64 step, .agg #[v0, v1, .int .u16 F, .slice B zs.length nb]] W fun e w' => e = .returned (.bool true) ∧ Below W.heap.size W w' := by
  have HE := Lib.hid (show k.lifeV step = (0, 0) by unfold Kd.lifeV; rw [if_neg he])
  have q : (k.lifeErr step != 0) = true := by simpa using he
  have P0 := (kdW_new W k A c 26).after ((Below.refl _ _).alloc (Nat.le_refl _) (.cells #[v0, v1, .int .u16 F, .slice B zs.length nb] 53))
  clear he
  go_enter Try.func7, Try.ntmps7
  go_wp2_with fail
  refine (life_any k A c step _ (P0.kind hk)).mono ?_; rintro e w1 ⟨rfl, hb⟩
  have P1 := P0.after hb
  have HB := Lib.hid P1.below
  rw [HE.out]
  generalize k.lifeErr step = r at *
  clear P0 hb P1
  go_wp2_with fail
  refine (awake_l _).mono ?_; rintro e w4 ⟨rfl, hb4⟩
  have hB2 := below_step (below_step HB.out ((Below.refl _ _).alloc (Nat.le_refl _) (.cells #[.int .i64 0, .int .i64 0] 34))) hb4
  go_wp2
  go_ret
  exact ⟨rfl, hB2⟩

set_option maxRecDepth 100000 in
set_option maxHeartbeats 8000000 in
theorem meas_new (W : World) (k : Kd) (A : Option Addr) (c : Nat) (hk : KindAt W A k) (i : Nat) (v0 v1 : Value) (F : Int) (B : Option Addr) (nb : Nat) (zs : List Int) (hz : ListAt (Value.int .u16) W W.heap.size B zs) (hzl : zs.length ≤ maxLen) (hzw : ∀ n ∈ zs, 0 ≤ n ∧ n ≤ 65535) (hf : 0 ≤ F ∧ F ≤ 65535)
    (hok : k.Ok) (hi : i < k.st.length) (hg : (lifeS k i).1 ≤ (lifeS k i).2) (hF : k.new < (stG k.st i).2 + F) :
    Calls Try.prog 7 #[kdV k A c, .int .i64 i, .agg #[v0, v1, .int .u16 F, .slice B zs.length nb]] W fun e w' => e = .returned (.bool true) ∧ Below W.heap.size W w' := by
  have hnd := (step_zero (hok.steps i hi)).2.1
  have hnew := hok.new
  have hls := lifeS_in hnd hok.new hg
  have hne := (needOk hok).need
  have hl8 := hok.len
  have hin : InvS (need k.st 1000) k.lo k.hi (lifeS k i).1 (lifeS k i).2 0 (stG k.st i).2 := inv_start (by omega) (by show (stG k.st i).2 ≤ _; omega) hg
  have HIN := Lib.hid hin
  have HLE := Lib.hid (show k.lifeErr i = 0 by unfold Kd.lifeErr; rw [if_pos hok.err, if_pos (by omega), Int.toNat_natCast, if_pos hg])
  have HLV := Lib.hid (show k.lifeV i = failV k (lifeS k i) 0 by unfold Kd.lifeV; rw [HLE.out, if_pos rfl, Int.toNat_natCast])
  have HZ := Lib.hid hok.err
  have HNZ := Lib.hid (need_zero hok)
  have HEND := Lib.hid (fun (t : Nat) (s : Int) (h : InvS (need k.st 1000) k.lo k.hi (lifeS k i).1 (lifeS k i).2 t s) (hs : s < need k.st 1000) => inv_end ⟨hok.wear.1, hok.wear.2.1⟩ ⟨hls.1.1, hls.2.1⟩ hne.1 h hs)
  have HOUT := Lib.hid (fun (s : Int) (h : InvS (need k.st 1000) k.lo k.hi (lifeS k i).1 (lifeS k i).2 801 s) => inv_out ⟨hok.wear.1, hok.wear.2.1⟩ ⟨hls.1.1, hls.2.1⟩ hne.1 h)
  have HWR := Lib.hid hok.wear
  have HF0 := Lib.hid (show failV k (lifeS k i) 0 = (fb (need k.st 1000) (lifeS k i).1 k.hi 0, fb (need k.st 1000) (lifeS k i).2 k.lo 0) from rfl)
  have HK := Lib.hid hk
  have HZZ := Lib.hid hz
  have HZW := Lib.hid (show ∀ t, 0 ≤ wearV zs t ∧ wearV zs t ≤ 65535 from fun t => by
    unfold wearV
    split
    · omega
    · rename_i h0
      have hlt : t % zs.length < zs.length := Nat.mod_lt _ (by omega)
      rw [show zs.getD (t % zs.length) 0 = zs[t % zs.length] by simp [List.getD, hlt]]
      exact hzw _ (List.getElem_mem _))
  have w1 : IntKind.i64.wrap F = F := by rw [IntKind.wrap_i64]; omega
  have w2 : IntKind.i64.wrap ((stG k.st i).2 + F) = (stG k.st i).2 + F := by rw [IntKind.wrap_i64]; omega
  have P0 := (kdW_new W k A c 26).after ((Below.refl _ _).alloc (Nat.le_refl _) (.cells #[v0, v1, .int .u16 F, .slice B zs.length nb] 53))
  clear hk hz hzw hin hls hg hne
  go_enter Try.func7, Try.ntmps7
  go_wp2_with fail
  refine (life_any k A c i _ (P0.kind HK.out)).mono ?_; rintro e V1 ⟨rfl, hb⟩
  have M1 := msW_new W k A c v0 v1 F B nb zs HZZ.out (failV k (lifeS k i) 0) _ _ 34 hb
  rw [HLE.out, HLV.out]
  clear P0 hb
  rw [HF0.out] at *
  generalize fb (need k.st 1000) (lifeS k i).1 k.hi 0 = E at *
  generalize fb (need k.st 1000) (lifeS k i).2 k.lo 0 = L at *
  generalize need k.st 1000 = n at *
  clear HF0 HLV HLE
  generalize hVb : V1.heap.size = bf at *
  have M1' := M1
  obtain ⟨⟨_, c0, c1, c2, c3, hs⟩, l2, l3, e0, e1, lt1, lt2, _⟩ := M1'
  go_wp2_with fail
  generalize V1.alloc (.cells #[.int .i64 E, .int .i64 L] 34) = V at *
  clear hVb
  refine (rcheck_any k A c _ (M1.kd.kind HK.out)).mono ?_; rintro e V2 ⟨rfl, hb2⟩
  rw [HZ.out]
  have M2 := M1.after hb2
  clear M1 hb2 c0 c1 c2 c3 hs l2 l3 e0 e1 lt1 lt2
  have M2' := M2
  obtain ⟨⟨_, c0, c1, c2, c3, hs⟩, l2, l3, e0, e1, lt1, lt2, _⟩ := M2'
  obtain ⟨ad, eA, hab, d0, d1⟩ := (M2.kd.kind HK.out).at_.at_ hi
  subst eA
  have q4 : decide (k.st.length ≤ i) = false := by simp; omega
  have q4' : ¬ k.st.length ≤ i := by omega
  go_wp2
  go_quiet (fail)
  go_wp2
  clear c0 c1 c2 c3 hs l2 l3 e0 e1 lt1 lt2 d0 d1 hab
  have MQ := M2.after (below_drewN (k := nq) (Below.refl _ _))
  go_loopw [9, 10] (fun s9 s10 wr => ∃ (j : Nat) (s : Int), j ≤ 801 ∧ s10 = .int .i64 j ∧ s9 = .int .i64 s ∧ Hid (InvS n k.lo k.hi (lifeS k i).1 (lifeS k i).2 j s) ∧ MsW W k (some ad) c F B nb zs bf (E, L) wr) (fun s9 s10 _ => 801 - (intOf s10).toNat)
  case atStart => exact ⟨0, _, by omega, rfl, rfl, HIN, MQ⟩
  case round =>
    clear MQ M2
    obtain ⟨j, s, hj, rfl, rfl, HI, M⟩ := hrel
    have HB := Lib.hid M.kd.below
    have M' := M
    obtain ⟨⟨_, c0, c1, c2, c3, hs⟩, l2, l3, e0, e1, lt1, lt2, _⟩ := M'
    obtain ⟨ad', eA, hab, d0, d1⟩ := (M.kd.kind HK.out).at_.at_ (show 0 < k.st.length by omega)
    cases eA
    replace d1 : wr.cell? ⟨ad.block, ad.off + 1, none⟩ = some (.int .i64 n) := by rw [HNZ.out]; simpa [Addr.add] using d1
    have hsr := HI.out.in_
    clear d0
    by_cases hj8 : j ≤ 800
    · have q8 : decide ((j : Int) ≤ 800) = true := by simp; omega
      by_cases hsn : s < n
      · obtain ⟨t1, t2, t3⟩ := HEND.out j s HI.out hsn
        have q1 : decide (0 ≤ E) = true := by simpa using t1
        have q2 : decide (E ≤ (j : Int)) = true := by simpa using t2
        by_cases hL : L < 0
        · clear t1 t2 t3 M
          go_wp2_with fail
          refine (awake_l _).mono ?_; rintro e w4 ⟨rfl, hb4⟩
          have hB2 := below_step HB.out hb4
          clear c0 c1 c2 c3 hs l2 l3 e0 e1 lt1 lt2 hab d1
          go_wp2
          go_ret
          exact ⟨rfl, hB2⟩
        · have q3 : decide ((j : Int) ≤ L) = true := by simp; omega
          clear t1 t2 t3 M
          go_wp2_with fail
          refine (awake_l _).mono ?_; rintro e w4 ⟨rfl, hb4⟩
          have hB2 := below_step HB.out hb4
          clear c0 c1 c2 c3 hs l2 l3 e0 e1 lt1 lt2 hab d1
          go_wp2
          go_ret
          exact ⟨rfl, hB2⟩
      · go_wp2
        clear d1 hab
        have hv := HZW.out j
        have hwv := wornV_in (k := k) (s := s) (n := wearV zs j) HWR.out hsr hv
        have HNX := Lib.hid (inv_next ⟨HWR.out.1, HWR.out.2.1⟩ HI.out (by omega) hwv.1 hwv.2.1 hwv.2.2)
        have k0 := cell_regrown c0
        have k1 := cell_regrown c1
        have k2 := cell_regrown c2
        have k3 := cell_regrown c3
        have k4 := cell_regrown l3
        have cW : ∀ d os, Calls Try.prog 21 #[.slice B zs.length nb, .int .i64 j] (grow (redrawn wr d) os) fun e w'' => e = .returned (.int .u16 (wearV zs j)) ∧ ∃ p : Regrown, w'' = grow (redrawn wr p.d) p.os := fun d os =>
          Calls.regrown_of ((wear_any B nb zs j (by omega) hzl _ ((M.ws.below (below_regrown wr d os)).more (below_regrown wr d os).size)).mono fun e w' h => ⟨h.1, by rw [h.2]; exact Below.refl _ _⟩)
        have cN : ∀ d os, Calls Try.prog 20 #[kdV k (some ad) c, .int .i64 s, .int .u16 (wearV zs j)] (grow (redrawn wr d) os) fun e w'' => e = .returned (.int .i64 (wornV k s (wearV zs j))) ∧ ∃ p : Regrown, w'' = grow (redrawn wr p.d) p.os := fun d os =>
          Calls.regrown_of (worn_any k (some ad) c s (wearV zs j) HWR.out hsr hv _)
        clear c0 c1 c2 c3 hs l2 l3 e0 e1 lt1 lt2 hv hwv
        generalize wornV k s (wearV zs j) = s' at *
        generalize wearV zs j = wv at *
        refine wp_region_quiet_below rfl (by kernel_rfl) ?_
        repeat (quiet_step (first | with_reducible exact cW _ _ | with_reducible exact cN _ _))
        refine wpQuiet_nil ?_
        intro _ hw'
        obtain ⟨⟨dq, osq⟩, hw''⟩ := hw'
        subst hw''
        have MR := M.after (below_regrown wr dq osq)
        generalize grow (redrawn wr dq) osq = X at *
        clear cW cN k0 k1 k2 k3 k4 M
        go_wp2
        go_roundw
        case rel => exact ⟨j + 1, s', by omega, by go_num, rfl, HNX, MR⟩
        case measure => simp [intOf]; omega
    · obtain rfl : j = 801 := by omega
      have t := HOUT.out s HI.out
      by_cases hL : L < 0
      · clear t M
        go_wp2_with fail
        refine (awake_l _).mono ?_; rintro e w4 ⟨rfl, hb4⟩
        have hB2 := below_step HB.out hb4
        clear c0 c1 c2 c3 hs l2 l3 e0 e1 lt1 lt2 hab d1
        go_wp2
        go_ret
        exact ⟨rfl, hB2⟩
      · have q3 : decide (800 < L) = true := by simp; omega
        clear t M
        go_wp2_with fail
        refine (awake_l _).mono ?_; rintro e w4 ⟨rfl, hb4⟩
        have hB2 := below_step HB.out hb4
        clear c0 c1 c2 c3 hs l2 l3 e0 e1 lt1 lt2 hab d1
        go_wp2
        go_ret
        exact ⟨rfl, hB2⟩

set_option maxRecDepth 100000 in
set_option maxHeartbeats 8000000 in
theorem meas_last (W : World) (k : Kd) (A : Option Addr) (c : Nat) (hk : KindAt W A k) (i : Nat) (v0 v1 : Value) (F : Int) (B : Option Addr) (nb : Nat) (zs : List Int) (hz : ListAt (Value.int .u16) W W.heap.size B zs) (hzl : zs.length ≤ maxLen) (hzw : ∀ n ∈ zs, 0 ≤ n ∧ n ≤ 65535) (hf : 0 ≤ F ∧ F ≤ 65535)
    (hok : k.Ok) (hi : i < k.st.length) (hg : (lifeS k i).1 ≤ (lifeS k i).2) (hF : ¬ k.new < (stG k.st i).2 + F) (hnx : ¬ i + 1 < k.st.length) :
    Calls Try.prog 7 #[kdV k A c, .int .i64 i, .agg #[v0, v1, .int .u16 F, .slice B zs.length nb]] W fun e w' => e = .returned (.bool true) ∧ Below W.heap.size W w' := by
  have hnd := (step_zero (hok.steps i hi)).2.1
  have hnew := hok.new
  have hls := lifeS_in hnd hok.new hg
  have hne := (needOk hok).need
  have hl8 := hok.len
  have hin : InvS (need k.st 1000) k.lo k.hi (lifeS k i).1 (lifeS k i).2 0 ((stG k.st i).2 + F) := inv_start (by have := hok.new; omega) (by show (stG k.st i).2 ≤ _; omega) (by unfold lifeS; simp only; rw [if_neg hnx]; omega)
  have q7 : ¬ ((i : Int) + 1 < (k.st.length : Int)) := by omega
  have HIN := Lib.hid hin
  have HLE := Lib.hid (show k.lifeErr i = 0 by unfold Kd.lifeErr; rw [if_pos hok.err, if_pos (by omega), Int.toNat_natCast, if_pos hg])
  have HLV := Lib.hid (show k.lifeV i = failV k (lifeS k i) 0 by unfold Kd.lifeV; rw [HLE.out, if_pos rfl, Int.toNat_natCast])
  have HZ := Lib.hid hok.err
  have HNZ := Lib.hid (need_zero hok)
  have HEND := Lib.hid (fun (t : Nat) (s : Int) (h : InvS (need k.st 1000) k.lo k.hi (lifeS k i).1 (lifeS k i).2 t s) (hs : s < need k.st 1000) => inv_end ⟨hok.wear.1, hok.wear.2.1⟩ ⟨hls.1.1, hls.2.1⟩ hne.1 h hs)
  have HOUT := Lib.hid (fun (s : Int) (h : InvS (need k.st 1000) k.lo k.hi (lifeS k i).1 (lifeS k i).2 801 s) => inv_out ⟨hok.wear.1, hok.wear.2.1⟩ ⟨hls.1.1, hls.2.1⟩ hne.1 h)
  have HWR := Lib.hid hok.wear
  have HF0 := Lib.hid (show failV k (lifeS k i) 0 = (fb (need k.st 1000) (lifeS k i).1 k.hi 0, fb (need k.st 1000) (lifeS k i).2 k.lo 0) from rfl)
  have HK := Lib.hid hk
  have HZZ := Lib.hid hz
  have HZW := Lib.hid (show ∀ t, 0 ≤ wearV zs t ∧ wearV zs t ≤ 65535 from fun t => by
    unfold wearV
    split
    · omega
    · rename_i h0
      have hlt : t % zs.length < zs.length := Nat.mod_lt _ (by omega)
      rw [show zs.getD (t % zs.length) 0 = zs[t % zs.length] by simp [List.getD, hlt]]
      exact hzw _ (List.getElem_mem _))
  have w1 : IntKind.i64.wrap F = F := by rw [IntKind.wrap_i64]; omega
  have w2 : IntKind.i64.wrap ((stG k.st i).2 + F) = (stG k.st i).2 + F := by rw [IntKind.wrap_i64]; omega
  have P0 := (kdW_new W k A c 26).after ((Below.refl _ _).alloc (Nat.le_refl _) (.cells #[v0, v1, .int .u16 F, .slice B zs.length nb] 53))
  clear hk hz hzw hin hls hg hne
  go_enter Try.func7, Try.ntmps7
  go_wp2_with fail
  refine (life_any k A c i _ (P0.kind HK.out)).mono ?_; rintro e V1 ⟨rfl, hb⟩
  have M1 := msW_new W k A c v0 v1 F B nb zs HZZ.out (failV k (lifeS k i) 0) _ _ 34 hb
  rw [HLE.out, HLV.out]
  clear P0 hb
  rw [HF0.out] at *
  generalize fb (need k.st 1000) (lifeS k i).1 k.hi 0 = E at *
  generalize fb (need k.st 1000) (lifeS k i).2 k.lo 0 = L at *
  generalize need k.st 1000 = n at *
  clear HF0 HLV HLE
  generalize hVb : V1.heap.size = bf at *
  have M1' := M1
  obtain ⟨⟨_, c0, c1, c2, c3, hs⟩, l2, l3, e0, e1, lt1, lt2, _⟩ := M1'
  go_wp2_with fail
  generalize V1.alloc (.cells #[.int .i64 E, .int .i64 L] 34) = V at *
  clear hVb
  refine (rcheck_any k A c _ (M1.kd.kind HK.out)).mono ?_; rintro e V2 ⟨rfl, hb2⟩
  rw [HZ.out]
  have M2 := M1.after hb2
  clear M1 hb2 c0 c1 c2 c3 hs l2 l3 e0 e1 lt1 lt2
  have M2' := M2
  obtain ⟨⟨_, c0, c1, c2, c3, hs⟩, l2, l3, e0, e1, lt1, lt2, _⟩ := M2'
  obtain ⟨ad, eA, hab, d0, d1⟩ := (M2.kd.kind HK.out).at_.at_ hi
  subst eA
  have q4 : decide (k.st.length ≤ i) = false := by simp; omega
  have q4' : ¬ k.st.length ≤ i := by omega
  go_wp2
  go_quiet (fail)
  go_wp2
  clear c0 c1 c2 c3 hs l2 l3 e0 e1 lt1 lt2 d0 d1 hab
  have MQ := M2.after (below_drewN (k := nq) (Below.refl _ _))
  go_loopw [9, 10] (fun s9 s10 wr => ∃ (j : Nat) (s : Int), j ≤ 801 ∧ s10 = .int .i64 j ∧ s9 = .int .i64 s ∧ Hid (InvS n k.lo k.hi (lifeS k i).1 (lifeS k i).2 j s) ∧ MsW W k (some ad) c F B nb zs bf (E, L) wr) (fun s9 s10 _ => 801 - (intOf s10).toNat)
  case atStart => exact ⟨0, _, by omega, rfl, rfl, HIN, MQ⟩
  case round =>
    clear MQ M2
    obtain ⟨j, s, hj, rfl, rfl, HI, M⟩ := hrel
    have HB := Lib.hid M.kd.below
    have M' := M
    obtain ⟨⟨_, c0, c1, c2, c3, hs⟩, l2, l3, e0, e1, lt1, lt2, _⟩ := M'
    obtain ⟨ad', eA, hab, d0, d1⟩ := (M.kd.kind HK.out).at_.at_ (show 0 < k.st.length by omega)
    cases eA
    replace d1 : wr.cell? ⟨ad.block, ad.off + 1, none⟩ = some (.int .i64 n) := by rw [HNZ.out]; simpa [Addr.add] using d1
    have hsr := HI.out.in_
    clear d0
    by_cases hj8 : j ≤ 800
    · have q8 : decide ((j : Int) ≤ 800) = true := by simp; omega
      by_cases hsn : s < n
      · obtain ⟨t1, t2, t3⟩ := HEND.out j s HI.out hsn
        have q1 : decide (0 ≤ E) = true := by simpa using t1
        have q2 : decide (E ≤ (j : Int)) = true := by simpa using t2
        by_cases hL : L < 0
        · clear t1 t2 t3 M
          go_wp2_with fail
          refine (awake_l _).mono ?_; rintro e w4 ⟨rfl, hb4⟩
          have hB2 := below_step HB.out hb4
          clear c0 c1 c2 c3 hs l2 l3 e0 e1 lt1 lt2 hab d1
          go_wp2
          go_ret
          exact ⟨rfl, hB2⟩
        · have q3 : decide ((j : Int) ≤ L) = true := by simp; omega
          clear t1 t2 t3 M
          go_wp2_with fail
          refine (awake_l _).mono ?_; rintro e w4 ⟨rfl, hb4⟩
          have hB2 := below_step HB.out hb4
          clear c0 c1 c2 c3 hs l2 l3 e0 e1 lt1 lt2 hab d1
          go_wp2
          go_ret
          exact ⟨rfl, hB2⟩
      · go_wp2
        clear d1 hab
        have hv := HZW.out j
        have hwv := wornV_in (k := k) (s := s) (n := wearV zs j) HWR.out hsr hv
        have HNX := Lib.hid (inv_next ⟨HWR.out.1, HWR.out.2.1⟩ HI.out (by omega) hwv.1 hwv.2.1 hwv.2.2)
        have k0 := cell_regrown c0
        have k1 := cell_regrown c1
        have k2 := cell_regrown c2
        have k3 := cell_regrown c3
        have k4 := cell_regrown l3
        have cW : ∀ d os, Calls Try.prog 21 #[.slice B zs.length nb, .int .i64 j] (grow (redrawn wr d) os) fun e w'' => e = .returned (.int .u16 (wearV zs j)) ∧ ∃ p : Regrown, w'' = grow (redrawn wr p.d) p.os := fun d os =>
          Calls.regrown_of ((wear_any B nb zs j (by omega) hzl _ ((M.ws.below (below_regrown wr d os)).more (below_regrown wr d os).size)).mono fun e w' h => ⟨h.1, by rw [h.2]; exact Below.refl _ _⟩)
        have cN : ∀ d os, Calls Try.prog 20 #[kdV k (some ad) c, .int .i64 s, .int .u16 (wearV zs j)] (grow (redrawn wr d) os) fun e w'' => e = .returned (.int .i64 (wornV k s (wearV zs j))) ∧ ∃ p : Regrown, w'' = grow (redrawn wr p.d) p.os := fun d os =>
          Calls.regrown_of (worn_any k (some ad) c s (wearV zs j) HWR.out hsr hv _)
        clear c0 c1 c2 c3 hs l2 l3 e0 e1 lt1 lt2 hv hwv
        generalize wornV k s (wearV zs j) = s' at *
        generalize wearV zs j = wv at *
        refine wp_region_quiet_below rfl (by kernel_rfl) ?_
        repeat (quiet_step (first | with_reducible exact cW _ _ | with_reducible exact cN _ _))
        refine wpQuiet_nil ?_
        intro _ hw'
        obtain ⟨⟨dq, osq⟩, hw''⟩ := hw'
        subst hw''
        have MR := M.after (below_regrown wr dq osq)
        generalize grow (redrawn wr dq) osq = X at *
        clear cW cN k0 k1 k2 k3 k4 M
        go_wp2
        go_roundw
        case rel => exact ⟨j + 1, s', by omega, by go_num, rfl, HNX, MR⟩
        case measure => simp [intOf]; omega
    · obtain rfl : j = 801 := by omega
      have t := HOUT.out s HI.out
      by_cases hL : L < 0
      · clear t M
        go_wp2_with fail
        refine (awake_l _).mono ?_; rintro e w4 ⟨rfl, hb4⟩
        have hB2 := below_step HB.out hb4
        clear c0 c1 c2 c3 hs l2 l3 e0 e1 lt1 lt2 hab d1
        go_wp2
        go_ret
        exact ⟨rfl, hB2⟩
      · have q3 : decide (800 < L) = true := by simp; omega
        clear t M
        go_wp2_with fail
        refine (awake_l _).mono ?_; rintro e w4 ⟨rfl, hb4⟩
        have hB2 := below_step HB.out hb4
        clear c0 c1 c2 c3 hs l2 l3 e0 e1 lt1 lt2 hab d1
        go_wp2
        go_ret
        exact ⟨rfl, hB2⟩

set_option maxRecDepth 100000 in
set_option maxHeartbeats 8000000 in
theorem meas_cut (W : World) (k : Kd) (A : Option Addr) (c : Nat) (hk : KindAt W A k) (i : Nat) (v0 v1 : Value) (F : Int) (B : Option Addr) (nb : Nat) (zs : List Int) (hz : ListAt (Value.int .u16) W W.heap.size B zs) (hzl : zs.length ≤ maxLen) (hzw : ∀ n ∈ zs, 0 ≤ n ∧ n ≤ 65535) (hf : 0 ≤ F ∧ F ≤ 65535)
    (hok : k.Ok) (hi : i < k.st.length) (hg : (lifeS k i).1 ≤ (lifeS k i).2) (hF : ¬ k.new < (stG k.st i).2 + F) (hnx : i + 1 < k.st.length) (hm : (stG k.st (i + 1)).2 ≤ (stG k.st i).2 + F) :
    Calls Try.prog 7 #[kdV k A c, .int .i64 i, .agg #[v0, v1, .int .u16 F, .slice B zs.length nb]] W fun e w' => e = .returned (.bool true) ∧ Below W.heap.size W w' := by
  have hnd := (step_zero (hok.steps i hi)).2.1
  have hnew := hok.new
  have hls := lifeS_in hnd hok.new hg
  have hne := (needOk hok).need
  have hl8 := hok.len
  have hin : InvS (need k.st 1000) k.lo k.hi (lifeS k i).1 (lifeS k i).2 0 (stG k.st i).2 := inv_start (by omega) (by show (stG k.st i).2 ≤ _; omega) hg
  have q7 : (i : Int) + 1 < (k.st.length : Int) := by omega
  have q8 : decide ((stG k.st (i + 1)).2 ≤ (stG k.st i).2 + F) = true := by simpa using hm
  have qa : (0 : Int) ≤ (i : Int) + 1 := by omega
  have qt : ((i : Int) + 1).toNat = i + 1 := by omega
  have HIN := Lib.hid hin
  have HLE := Lib.hid (show k.lifeErr i = 0 by unfold Kd.lifeErr; rw [if_pos hok.err, if_pos (by omega), Int.toNat_natCast, if_pos hg])
  have HLV := Lib.hid (show k.lifeV i = failV k (lifeS k i) 0 by unfold Kd.lifeV; rw [HLE.out, if_pos rfl, Int.toNat_natCast])
  have HZ := Lib.hid hok.err
  have HNZ := Lib.hid (need_zero hok)
  have HEND := Lib.hid (fun (t : Nat) (s : Int) (h : InvS (need k.st 1000) k.lo k.hi (lifeS k i).1 (lifeS k i).2 t s) (hs : s < need k.st 1000) => inv_end ⟨hok.wear.1, hok.wear.2.1⟩ ⟨hls.1.1, hls.2.1⟩ hne.1 h hs)
  have HOUT := Lib.hid (fun (s : Int) (h : InvS (need k.st 1000) k.lo k.hi (lifeS k i).1 (lifeS k i).2 801 s) => inv_out ⟨hok.wear.1, hok.wear.2.1⟩ ⟨hls.1.1, hls.2.1⟩ hne.1 h)
  have HWR := Lib.hid hok.wear
  have HF0 := Lib.hid (show failV k (lifeS k i) 0 = (fb (need k.st 1000) (lifeS k i).1 k.hi 0, fb (need k.st 1000) (lifeS k i).2 k.lo 0) from rfl)
  have HK := Lib.hid hk
  have HZZ := Lib.hid hz
  have HZW := Lib.hid (show ∀ t, 0 ≤ wearV zs t ∧ wearV zs t ≤ 65535 from fun t => by
    unfold wearV
    split
    · omega
    · rename_i h0
      have hlt : t % zs.length < zs.length := Nat.mod_lt _ (by omega)
      rw [show zs.getD (t % zs.length) 0 = zs[t % zs.length] by simp [List.getD, hlt]]
      exact hzw _ (List.getElem_mem _))
  have w1 : IntKind.i64.wrap F = F := by rw [IntKind.wrap_i64]; omega
  have w2 : IntKind.i64.wrap ((stG k.st i).2 + F) = (stG k.st i).2 + F := by rw [IntKind.wrap_i64]; omega
  have P0 := (kdW_new W k A c 26).after ((Below.refl _ _).alloc (Nat.le_refl _) (.cells #[v0, v1, .int .u16 F, .slice B zs.length nb] 53))
  clear hk hz hzw hin hls hg hne
  go_enter Try.func7, Try.ntmps7
  go_wp2_with fail
  refine (life_any k A c i _ (P0.kind HK.out)).mono ?_; rintro e V1 ⟨rfl, hb⟩
  have M1 := msW_new W k A c v0 v1 F B nb zs HZZ.out (failV k (lifeS k i) 0) _ _ 34 hb
  rw [HLE.out, HLV.out]
  clear P0 hb
  rw [HF0.out] at *
  generalize fb (need k.st 1000) (lifeS k i).1 k.hi 0 = E at *
  generalize fb (need k.st 1000) (lifeS k i).2 k.lo 0 = L at *
  generalize need k.st 1000 = n at *
  clear HF0 HLV HLE
  generalize hVb : V1.heap.size = bf at *
  have M1' := M1
  obtain ⟨⟨_, c0, c1, c2, c3, hs⟩, l2, l3, e0, e1, lt1, lt2, _⟩ := M1'
  go_wp2_with fail
  generalize V1.alloc (.cells #[.int .i64 E, .int .i64 L] 34) = V at *
  clear hVb
  refine (rcheck_any k A c _ (M1.kd.kind HK.out)).mono ?_; rintro e V2 ⟨rfl, hb2⟩
  rw [HZ.out]
  have M2 := M1.after hb2
  clear M1 hb2 c0 c1 c2 c3 hs l2 l3 e0 e1 lt1 lt2
  have M2' := M2
  obtain ⟨⟨_, c0, c1, c2, c3, hs⟩, l2, l3, e0, e1, lt1, lt2, _⟩ := M2'
  obtain ⟨ad, eA, hab, d0, d1⟩ := (M2.kd.kind HK.out).at_.at_ hi
  subst eA
  obtain ⟨ad', eA', hab', n0, n1⟩ := (M2.kd.kind HK.out).at_.at_ hnx
  cases eA'
  have q4 : decide (k.st.length ≤ i) = false := by simp; omega
  have q4' : ¬ k.st.length ≤ i := by omega
  go_wp2
  go_quiet (fail)
  go_wp2
  clear c0 c1 c2 c3 hs l2 l3 e0 e1 lt1 lt2 d0 d1 hab n0 n1 hab'
  have MQ := M2.after (below_drewN (k := nq) (Below.refl _ _))
  go_loopw [9, 10] (fun s9 s10 wr => ∃ (j : Nat) (s : Int), j ≤ 801 ∧ s10 = .int .i64 j ∧ s9 = .int .i64 s ∧ Hid (InvS n k.lo k.hi (lifeS k i).1 (lifeS k i).2 j s) ∧ MsW W k (some ad) c F B nb zs bf (E, L) wr) (fun s9 s10 _ => 801 - (intOf s10).toNat)
  case atStart => exact ⟨0, _, by omega, rfl, rfl, HIN, MQ⟩
  case round =>
    clear MQ M2
    obtain ⟨j, s, hj, rfl, rfl, HI, M⟩ := hrel
    have HB := Lib.hid M.kd.below
    have M' := M
    obtain ⟨⟨_, c0, c1, c2, c3, hs⟩, l2, l3, e0, e1, lt1, lt2, _⟩ := M'
    obtain ⟨ad', eA, hab, d0, d1⟩ := (M.kd.kind HK.out).at_.at_ (show 0 < k.st.length by omega)
    cases eA
    replace d1 : wr.cell? ⟨ad.block, ad.off + 1, none⟩ = some (.int .i64 n) := by rw [HNZ.out]; simpa [Addr.add] using d1
    have hsr := HI.out.in_
    clear d0
    by_cases hj8 : j ≤ 800
    · have q8 : decide ((j : Int) ≤ 800) = true := by simp; omega
      by_cases hsn : s < n
      · obtain ⟨t1, t2, t3⟩ := HEND.out j s HI.out hsn
        have q1 : decide (0 ≤ E) = true := by simpa using t1
        have q2 : decide (E ≤ (j : Int)) = true := by simpa using t2
        by_cases hL : L < 0
        · clear t1 t2 t3 M
          go_wp2_with fail
          refine (awake_l _).mono ?_; rintro e w4 ⟨rfl, hb4⟩
          have hB2 := below_step HB.out hb4
          clear c0 c1 c2 c3 hs l2 l3 e0 e1 lt1 lt2 hab d1
          go_wp2
          go_ret
          exact ⟨rfl, hB2⟩
        · have q3 : decide ((j : Int) ≤ L) = true := by simp; omega
          clear t1 t2 t3 M
          go_wp2_with fail
          refine (awake_l _).mono ?_; rintro e w4 ⟨rfl, hb4⟩
          have hB2 := below_step HB.out hb4
          clear c0 c1 c2 c3 hs l2 l3 e0 e1 lt1 lt2 hab d1
          go_wp2
          go_ret
          exact ⟨rfl, hB2⟩
      · go_wp2
        clear d1 hab
        have hv := HZW.out j
        have hwv := wornV_in (k := k) (s := s) (n := wearV zs j) HWR.out hsr hv
        have HNX := Lib.hid (inv_next ⟨HWR.out.1, HWR.out.2.1⟩ HI.out (by omega) hwv.1 hwv.2.1 hwv.2.2)
        have k0 := cell_regrown c0
        have k1 := cell_regrown c1
        have k2 := cell_regrown c2
        have k3 := cell_regrown c3
        have k4 := cell_regrown l3
        have cW : ∀ d os, Calls Try.prog 21 #[.slice B zs.length nb, .int .i64 j] (grow (redrawn wr d) os) fun e w'' => e = .returned (.int .u16 (wearV zs j)) ∧ ∃ p : Regrown, w'' = grow (redrawn wr p.d) p.os := fun d os =>
          Calls.regrown_of ((wear_any B nb zs j (by omega) hzl _ ((M.ws.below (below_regrown wr d os)).more (below_regrown wr d os).size)).mono fun e w' h => ⟨h.1, by rw [h.2]; exact Below.refl _ _⟩)
        have cN : ∀ d os, Calls Try.prog 20 #[kdV k (some ad) c, .int .i64 s, .int .u16 (wearV zs j)] (grow (redrawn wr d) os) fun e w'' => e = .returned (.int .i64 (wornV k s (wearV zs j))) ∧ ∃ p : Regrown, w'' = grow (redrawn wr p.d) p.os := fun d os =>
          Calls.regrown_of (worn_any k (some ad) c s (wearV zs j) HWR.out hsr hv _)
        clear c0 c1 c2 c3 hs l2 l3 e0 e1 lt1 lt2 hv hwv
        generalize wornV k s (wearV zs j) = s' at *
        generalize wearV zs j = wv at *
        refine wp_region_quiet_below rfl (by kernel_rfl) ?_
        repeat (quiet_step (first | with_reducible exact cW _ _ | with_reducible exact cN _ _))
        refine wpQuiet_nil ?_
        intro _ hw'
        obtain ⟨⟨dq, osq⟩, hw''⟩ := hw'
        subst hw''
        have MR := M.after (below_regrown wr dq osq)
        generalize grow (redrawn wr dq) osq = X at *
        clear cW cN k0 k1 k2 k3 k4 M
        go_wp2
        go_roundw
        case rel => exact ⟨j + 1, s', by omega, by go_num, rfl, HNX, MR⟩
        case measure => simp [intOf]; omega
    · obtain rfl : j = 801 := by omega
      have t := HOUT.out s HI.out
      by_cases hL : L < 0
      · clear t M
        go_wp2_with fail
        refine (awake_l _).mono ?_; rintro e w4 ⟨rfl, hb4⟩
        have hB2 := below_step HB.out hb4
        clear c0 c1 c2 c3 hs l2 l3 e0 e1 lt1 lt2 hab d1
        go_wp2
        go_ret
        exact ⟨rfl, hB2⟩
      · have q3 : decide (800 < L) = true := by simp; omega
        clear t M
        go_wp2_with fail
        refine (awake_l _).mono ?_; rintro e w4 ⟨rfl, hb4⟩
        have hB2 := below_step HB.out hb4
        clear c0 c1 c2 c3 hs l2 l3 e0 e1 lt1 lt2 hab d1
        go_wp2
        go_ret
        exact ⟨rfl, hB2⟩

set_option maxRecDepth 100000 in
set_option maxHeartbeats 8000000 in
theorem meas_keep (W : World) (k : Kd) (A : Option Addr) (c : Nat) (hk : KindAt W A k) (i : Nat) (v0 v1 : Value) (F : Int) (B : Option Addr) (nb : Nat) (zs : List Int) (hz : ListAt (Value.int .u16) W W.heap.size B zs) (hzl : zs.length ≤ maxLen) (hzw : ∀ n ∈ zs, 0 ≤ n ∧ n ≤ 65535) (hf : 0 ≤ F ∧ F ≤ 65535)
    (hok : k.Ok) (hi : i < k.st.length) (hg : (lifeS k i).1 ≤ (lifeS k i).2) (hF : ¬ k.new < (stG k.st i).2 + F) (hnx : i + 1 < k.st.length) (hm : ¬ (stG k.st (i + 1)).2 ≤ (stG k.st i).2 + F) :
    Calls Try.prog 7 #[kdV k A c, .int .i64 i, .agg #[v0, v1, .int .u16 F, .slice B zs.length nb]] W fun e w' => e = .returned (.bool true) ∧ Below W.heap.size W w' := by
  have hnd := (step_zero (hok.steps i hi)).2.1
  have hnew := hok.new
  have hls := lifeS_in hnd hok.new hg
  have hne := (needOk hok).need
  have hl8 := hok.len
  have hin : InvS (need k.st 1000) k.lo k.hi (lifeS k i).1 (lifeS k i).2 0 ((stG k.st i).2 + F) := inv_start (by have := hok.new; omega) (by show (stG k.st i).2 ≤ _; omega) (by unfold lifeS; simp only; rw [if_pos hnx]; omega)
  have q7 : (i : Int) + 1 < (k.st.length : Int) := by omega
  have q8 : decide ((stG k.st (i + 1)).2 ≤ (stG k.st i).2 + F) = false := by simpa using hm
  have qa : (0 : Int) ≤ (i : Int) + 1 := by omega
  have qt : ((i : Int) + 1).toNat = i + 1 := by omega
  have HIN := Lib.hid hin
  have HLE := Lib.hid (show k.lifeErr i = 0 by unfold Kd.lifeErr; rw [if_pos hok.err, if_pos (by omega), Int.toNat_natCast, if_pos hg])
  have HLV := Lib.hid (show k.lifeV i = failV k (lifeS k i) 0 by unfold Kd.lifeV; rw [HLE.out, if_pos rfl, Int.toNat_natCast])
  have HZ := Lib.hid hok.err
  have HNZ := Lib.hid (need_zero hok)
  have HEND := Lib.hid (fun (t : Nat) (s : Int) (h : InvS (need k.st 1000) k.lo k.hi (lifeS k i).1 (lifeS k i).2 t s) (hs : s < need k.st 1000) => inv_end ⟨hok.wear.1, hok.wear.2.1⟩ ⟨hls.1.1, hls.2.1⟩ hne.1 h hs)
  have HOUT := Lib.hid (fun (s : Int) (h : InvS (need k.st 1000) k.lo k.hi (lifeS k i).1 (lifeS k i).2 801 s) => inv_out ⟨hok.wear.1, hok.wear.2.1⟩ ⟨hls.1.1, hls.2.1⟩ hne.1 h)
  have HWR := Lib.hid hok.wear
  have HF0 := Lib.hid (show failV k (lifeS k i) 0 = (fb (need k.st 1000) (lifeS k i).1 k.hi 0, fb (need k.st 1000) (lifeS k i).2 k.lo 0) from rfl)
  have HK := Lib.hid hk
  have HZZ := Lib.hid hz
  have HZW := Lib.hid (show ∀ t, 0 ≤ wearV zs t ∧ wearV zs t ≤ 65535 from fun t => by
    unfold wearV
    split
    · omega
    · rename_i h0
      have hlt : t % zs.length < zs.length := Nat.mod_lt _ (by omega)
      rw [show zs.getD (t % zs.length) 0 = zs[t % zs.length] by simp [List.getD, hlt]]
      exact hzw _ (List.getElem_mem _))
  have w1 : IntKind.i64.wrap F = F := by rw [IntKind.wrap_i64]; omega
  have w2 : IntKind.i64.wrap ((stG k.st i).2 + F) = (stG k.st i).2 + F := by rw [IntKind.wrap_i64]; omega
  have P0 := (kdW_new W k A c 26).after ((Below.refl _ _).alloc (Nat.le_refl _) (.cells #[v0, v1, .int .u16 F, .slice B zs.length nb] 53))
  clear hk hz hzw hin hls hg hne
  go_enter Try.func7, Try.ntmps7
  go_wp2_with fail
  refine (life_any k A c i _ (P0.kind HK.out)).mono ?_; rintro e V1 ⟨rfl, hb⟩
  have M1 := msW_new W k A c v0 v1 F B nb zs HZZ.out (failV k (lifeS k i) 0) _ _ 34 hb
  rw [HLE.out, HLV.out]
  clear P0 hb
  rw [HF0.out] at *
  generalize fb (need k.st 1000) (lifeS k i).1 k.hi 0 = E at *
  generalize fb (need k.st 1000) (lifeS k i).2 k.lo 0 = L at *
  generalize need k.st 1000 = n at *
  clear HF0 HLV HLE
  generalize hVb : V1.heap.size = bf at *
  have M1' := M1
  obtain ⟨⟨_, c0, c1, c2, c3, hs⟩, l2, l3, e0, e1, lt1, lt2, _⟩ := M1'
  go_wp2_with fail
  generalize V1.alloc (.cells #[.int .i64 E, .int .i64 L] 34) = V at *
  clear hVb
  refine (rcheck_any k A c _ (M1.kd.kind HK.out)).mono ?_; rintro e V2 ⟨rfl, hb2⟩
  rw [HZ.out]
  have M2 := M1.after hb2
  clear M1 hb2 c0 c1 c2 c3 hs l2 l3 e0 e1 lt1 lt2
  have M2' := M2
  obtain ⟨⟨_, c0, c1, c2, c3, hs⟩, l2, l3, e0, e1, lt1, lt2, _⟩ := M2'
  obtain ⟨ad, eA, hab, d0, d1⟩ := (M2.kd.kind HK.out).at_.at_ hi
  subst eA
  obtain ⟨ad', eA', hab', n0, n1⟩ := (M2.kd.kind HK.out).at_.at_ hnx
  cases eA'
  have q4 : decide (k.st.length ≤ i) = false := by simp; omega
  have q4' : ¬ k.st.length ≤ i := by omega
  go_wp2
  go_quiet (fail)
  go_wp2
  clear c0 c1 c2 c3 hs l2 l3 e0 e1 lt1 lt2 d0 d1 hab n0 n1 hab'
  have MQ := M2.after (below_drewN (k := nq) (Below.refl _ _))
  go_loopw [9, 10] (fun s9 s10 wr => ∃ (j : Nat) (s : Int), j ≤ 801 ∧ s10 = .int .i64 j ∧ s9 = .int .i64 s ∧ Hid (InvS n k.lo k.hi (lifeS k i).1 (lifeS k i).2 j s) ∧ MsW W k (some ad) c F B nb zs bf (E, L) wr) (fun s9 s10 _ => 801 - (intOf s10).toNat)
  case atStart => exact ⟨0, _, by omega, rfl, rfl, HIN, MQ⟩
  case round =>
    clear MQ M2
    obtain ⟨j, s, hj, rfl, rfl, HI, M⟩ := hrel
    have HB := Lib.hid M.kd.below
    have M' := M
    obtain ⟨⟨_, c0, c1, c2, c3, hs⟩, l2, l3, e0, e1, lt1, lt2, _⟩ := M'
    obtain ⟨ad', eA, hab, d0, d1⟩ := (M.kd.kind HK.out).at_.at_ (show 0 < k.st.length by omega)
    cases eA
    replace d1 : wr.cell? ⟨ad.block, ad.off + 1, none⟩ = some (.int .i64 n) := by rw [HNZ.out]; simpa [Addr.add] using d1
    have hsr := HI.out.in_
    clear d0
    by_cases hj8 : j ≤ 800
    · have q8 : decide ((j : Int) ≤ 800) = true := by simp; omega
      by_cases hsn : s < n
      · obtain ⟨t1, t2, t3⟩ := HEND.out j s HI.out hsn
        have q1 : decide (0 ≤ E) = true := by simpa using t1
        have q2 : decide (E ≤ (j : Int)) = true := by simpa using t2
        by_cases hL : L < 0
        · clear t1 t2 t3 M
          go_wp2_with fail
          refine (awake_l _).mono ?_; rintro e w4 ⟨rfl, hb4⟩
          have hB2 := below_step HB.out hb4
          clear c0 c1 c2 c3 hs l2 l3 e0 e1 lt1 lt2 hab d1
          go_wp2
          go_ret
          exact ⟨rfl, hB2⟩
        · have q3 : decide ((j : Int) ≤ L) = true := by simp; omega
          clear t1 t2 t3 M
          go_wp2_with fail
          refine (awake_l _).mono ?_; rintro e w4 ⟨rfl, hb4⟩
          have hB2 := below_step HB.out hb4
          clear c0 c1 c2 c3 hs l2 l3 e0 e1 lt1 lt2 hab d1
          go_wp2
          go_ret
          exact ⟨rfl, hB2⟩
      · go_wp2
        clear d1 hab
        have hv := HZW.out j
        have hwv := wornV_in (k := k) (s := s) (n := wearV zs j) HWR.out hsr hv
        have HNX := Lib.hid (inv_next ⟨HWR.out.1, HWR.out.2.1⟩ HI.out (by omega) hwv.1 hwv.2.1 hwv.2.2)
        have k0 := cell_regrown c0
        have k1 := cell_regrown c1
        have k2 := cell_regrown c2
        have k3 := cell_regrown c3
        have k4 := cell_regrown l3
        have cW : ∀ d os, Calls Try.prog 21 #[.slice B zs.length nb, .int .i64 j] (grow (redrawn wr d) os) fun e w'' => e = .returned (.int .u16 (wearV zs j)) ∧ ∃ p : Regrown, w'' = grow (redrawn wr p.d) p.os := fun d os =>
          Calls.regrown_of ((wear_any B nb zs j (by omega) hzl _ ((M.ws.below (below_regrown wr d os)).more (below_regrown wr d os).size)).mono fun e w' h => ⟨h.1, by rw [h.2]; exact Below.refl _ _⟩)
        have cN : ∀ d os, Calls Try.prog 20 #[kdV k (some ad) c, .int .i64 s, .int .u16 (wearV zs j)] (grow (redrawn wr d) os) fun e w'' => e = .returned (.int .i64 (wornV k s (wearV zs j))) ∧ ∃ p : Regrown, w'' = grow (redrawn wr p.d) p.os := fun d os =>
          Calls.regrown_of (worn_any k (some ad) c s (wearV zs j) HWR.out hsr hv _)
        clear c0 c1 c2 c3 hs l2 l3 e0 e1 lt1 lt2 hv hwv
        generalize wornV k s (wearV zs j) = s' at *
        generalize wearV zs j = wv at *
        refine wp_region_quiet_below rfl (by kernel_rfl) ?_
        repeat (quiet_step (first | with_reducible exact cW _ _ | with_reducible exact cN _ _))
        refine wpQuiet_nil ?_
        intro _ hw'
        obtain ⟨⟨dq, osq⟩, hw''⟩ := hw'
        subst hw''
        have MR := M.after (below_regrown wr dq osq)
        generalize grow (redrawn wr dq) osq = X at *
        clear cW cN k0 k1 k2 k3 k4 M
        go_wp2
        go_roundw
        case rel => exact ⟨j + 1, s', by omega, by go_num, rfl, HNX, MR⟩
        case measure => simp [intOf]; omega
    · obtain rfl : j = 801 := by omega
      have t := HOUT.out s HI.out
      by_cases hL : L < 0
      · clear t M
        go_wp2_with fail
        refine (awake_l _).mono ?_; rintro e w4 ⟨rfl, hb4⟩
        have hB2 := below_step HB.out hb4
        clear c0 c1 c2 c3 hs l2 l3 e0 e1 lt1 lt2 hab d1
        go_wp2
        go_ret
        exact ⟨rfl, hB2⟩
      · have q3 : decide (800 < L) = true := by simp; omega
        clear t M
        go_wp2_with fail
        refine (awake_l _).mono ?_; rintro e w4 ⟨rfl, hb4⟩
        have hB2 := below_step HB.out hb4
        clear c0 c1 c2 c3 hs l2 l3 e0 e1 lt1 lt2 hab d1
        go_wp2
        go_ret
        exact ⟨rfl, hB2⟩

end Go.Proofs.Ytgbignkkieoffaa
