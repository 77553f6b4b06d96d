/-
  THE REFERENCE's Keeps. No statement is proved here.
-/
import Derived.Test.YtplipfcnjmgicaaHt15
namespace Go.Proofs.Ytplipfcnjmgicaa
open Go.RowKit Go.Maps Go.Sort
set_option linter.unusedVariables false
set_option linter.unusedSimpArgs false

theorem nat_less {k n : Nat} (h : k ≤ n) : n + 1 - (intOf (.int .i64 ((k : Int) + 1))).toNat < n + 1 - (intOf (.int .i64 (k : Int))).toNat := by simp [intOf]; omega
/-- What the reference's Keeps keeps. -/
structure KrW (w : World) (a0 a1 a2 a3 a4 a5 : Int) (o : Ov) (tl th : Int) (U : World) : Prop where
  l0 : U.cell? ⟨w.heap.size, 0, none⟩ = some (.int .i64 a0)
  l1 : U.cell? ⟨w.heap.size, 1, none⟩ = some (.int .i64 a1)
  l2 : U.cell? ⟨w.heap.size, 2, none⟩ = some (.int .i64 a2)
  l3 : U.cell? ⟨w.heap.size, 3, none⟩ = some (.int .i64 a3)
  l4 : U.cell? ⟨w.heap.size, 4, none⟩ = some (.int .i64 a4)
  l5 : U.cell? ⟨w.heap.size, 5, none⟩ = some (.int .i64 a5)
  o0 : U.cell? ⟨w.heap.size + 1, 0, none⟩ = some (.int .i64 o.low)
  o1 : U.cell? ⟨w.heap.size + 1, 1, none⟩ = some (.int .i64 o.high)
  o2 : U.cell? ⟨w.heap.size + 1, 2, none⟩ = some (.int .i64 o.wl)
  o3 : U.cell? ⟨w.heap.size + 1, 3, none⟩ = some (.int .i64 o.wh)
  o4 : U.cell? ⟨w.heap.size + 1, 4, none⟩ = some (.int .i64 o.cl)
  o5 : U.cell? ⟨w.heap.size + 1, 5, none⟩ = some (.int .i64 o.ch)
  t0 : U.cell? ⟨w.heap.size + 1 + 1, 0, none⟩ = some (.int .i64 tl)
  t1 : U.cell? ⟨w.heap.size + 1 + 1, 1, none⟩ = some (.int .i64 th)
  below : Below w.heap.size w U
  size : w.heap.size + 1 + 1 < U.heap.size
abbrev krX (w : World) (a0 a1 a2 a3 a4 a5 : Int) (o : Ov) (tl th : Int) : World := ((w.alloc (.cells #[.int .i64 a0, .int .i64 a1, .int .i64 a2, .int .i64 a3, .int .i64 a4, .int .i64 a5] 25)).alloc (ovC o)).alloc (.cells #[.int .i64 tl, .int .i64 th] 31)
theorem KrW.new (w : World) (a0 a1 a2 a3 a4 a5 : Int) (o : Ov) (tl th : Int) : KrW w a0 a1 a2 a3 a4 a5 o tl th (krX w a0 a1 a2 a3 a4 a5 o tl th) := by
  refine ⟨?_, ?_, ?_, ?_, ?_, ?_, ?_, ?_, ?_, ?_, ?_, ?_, ?_, ?_, by unfold krX; go_grown, by simp [krX]⟩ <;> simp [krX, go_sem]
theorem KrW.under {w : World} {a0 a1 a2 a3 a4 a5 : Int} {o : Ov} {tl th : Int} {U V : World} (h : KrW w a0 a1 a2 a3 a4 a5 o tl th U) (hb : Below U.heap.size U V) : KrW w a0 a1 a2 a3 a4 a5 o tl th V := by
  have hs := h.size
  have c : ∀ k j, k ≤ w.heap.size + 1 + 1 → V.cell? ⟨k, j, none⟩ = U.cell? ⟨k, j, none⟩ := fun k j hk => hb.cell (p := ⟨k, j, none⟩) (show k < U.heap.size by omega)
  exact ⟨(c _ _ (by omega)).trans h.l0, (c _ _ (by omega)).trans h.l1, (c _ _ (by omega)).trans h.l2, (c _ _ (by omega)).trans h.l3, (c _ _ (by omega)).trans h.l4, (c _ _ (by omega)).trans h.l5,
    (c _ _ (by omega)).trans h.o0, (c _ _ (by omega)).trans h.o1, (c _ _ (by omega)).trans h.o2, (c _ _ (by omega)).trans h.o3, (c _ _ (by omega)).trans h.o4, (c _ _ (by omega)).trans h.o5,
    (c _ _ (by omega)).trans h.t0, (c _ _ (by omega)).trans h.t1, h.below.trans (hb.mono (by omega)), Nat.lt_of_lt_of_le hs hb.size⟩

set_option maxRecDepth 100000 in
set_option maxHeartbeats 1000000 in
theorem rkeeps_badline (a0 a1 a2 a3 a4 a5 : Int) (hno : ¬ OkLine a0 a1 a2 a3 a4 a5) (o : Ov) (tl th : Int) (h : Bool) (mi : Int) (w : World) :
    Calls Try.prog 39 #[lineV a0 a1 a2 a3 a4 a5, ovV o, .agg #[.int .i64 tl, .int .i64 th], .bool h, .int .i64 mi] w fun e w' => e = .returned (.tuple #[.int .i64 0, .int .i64 7]) ∧ Below w.heap.size w w' := by
  have hX := KrW.new w a0 a1 a2 a3 a4 a5 o tl th
  unfold krX at hX
  have HX := Lib.hid hX
  have ⟨l0, l1, l2, l3, l4, l5, o0, o1, o2, o3, o4, o5, t0, t1, hb, hz⟩ := hX
  clear hX
  go_enter Try.func39, Try.ntmps39
  go_wp2_with fail
  refine (rcheck_bad a0 a1 a2 a3 a4 a5 hno _).mono ?_; rintro e U ⟨rfl, hU⟩
  have hB : Below w.heap.size w U := (HX.out.under (V := U) (by rw [hU]; exact (Below.refl _ _).alloc (Nat.le_refl _) _)).below
  clear hU l0 l1 l2 l3 l4 l5 o0 o1 o2 o3 o4 o5 t0 t1
  go_wp2
  refine bodyPost_ret (v := .tuple #[.int .i64 0, .int .i64 7]) (by simp [results, Try.results39, go_sem]) rfl ⟨rfl, hB⟩

set_option maxRecDepth 100000 in
set_option maxHeartbeats 1000000 in
theorem rkeeps_any (a0 a1 a2 a3 a4 a5 : Int) (hline : OkLine a0 a1 a2 a3 a4 a5) (f : Int → Bool)
    (HS : Hid (∀ T, -600 ≤ T ∧ T ≤ 1100 → ∀ w, Calls Try.prog 62 #[lineV a0 a1 a2 a3 a4 a5, .int .i64 T] w fun e w' => e = .returned (.bool (f T)) ∧ Below w.heap.size w w')) (o : Ov) (tl th : Int) (h : Bool) (mi : Int) (w : World) :
    Calls Try.prog 39 #[lineV a0 a1 a2 a3 a4 a5, ovV o, .agg #[.int .i64 tl, .int .i64 th], .bool h, .int .i64 mi] w (KeepsOutE (ovenErr o tl th mi) o tl th h mi f w) := by
  have KE := Lib.hid (fun w => roven_any o tl th mi w)
  have HO := Lib.hid (fun e => ovenErr_ok (o := o) (tl := tl) (th := th) (mi := mi) e)
  generalize hs : ovenErr o tl th mi = er at *
  clear hs
  have hX := KrW.new w a0 a1 a2 a3 a4 a5 o tl th
  unfold krX at hX
  have HX := Lib.hid hX
  have ⟨l0, l1, l2, l3, l4, l5, o0, o1, o2, o3, o4, o5, t0, t1, hb, hz⟩ := hX
  clear hX
  go_enter Try.func39, Try.ntmps39
  go_wp2_with fail
  refine (rcheck_ok a0 a1 a2 a3 a4 a5 hline _).mono ?_; rintro e U0 ⟨rfl, hU⟩
  have hX0 := HX.out.under (V := U0) (by rw [hU]; exact (Below.refl _ _).alloc (Nat.le_refl _) _)
  clear hU l0 l1 l2 l3 l4 l5 o0 o1 o2 o3 o4 o5 t0 t1 hb hz HX
  have ⟨l0, l1, l2, l3, l4, l5, o0, o1, o2, o3, o4, o5, t0, t1, hb, hz⟩ := hX0
  go_wp2_with fail
  refine (KE.out _).mono ?_; rintro e U ⟨rfl, hU⟩
  have hX1 := hX0.under hU
  clear hU l0 l1 l2 l3 l4 l5 o0 o1 o2 o3 o4 o5 t0 t1 hb hz hX0
  have ⟨l0, l1, l2, l3, l4, l5, o0, o1, o2, o3, o4, o5, t0, t1, hb, hz⟩ := hX1
  by_cases her : er = 0
  · subst her
    obtain ⟨ok, b1, b2, hs, m0, m1⟩ := HO.out rfl
    obtain ⟨n, rfl⟩ : ∃ n : Nat, mi = n := ⟨mi.toNat, by omega⟩
    have hn : n ≤ 200 := by omega
    have KB := Lib.hid (fun w => begin_any tl th h b1 b2 hs w)
    go_wp2_with fail
    refine (KB.out _).mono ?_; rintro e V ⟨v0, rfl, hMV, hfr, hbV⟩
    have hXV := hX1.under hbV
    clear l0 l1 l2 l3 l4 l5 o0 o1 o2 o3 o4 o5 t0 t1 hb hz hX1 hbV hfr KB
    go_wp2
    go_loopw [13, 14] (fun v i wr => ∃ k : Nat, k ≤ n + 1 ∧ i = .int .i64 k ∧ MoAt wr v (Pq.rlev o tl th h k) ∧ KrW w a0 a1 a2 a3 a4 a5 o tl th wr ∧ ∀ j, j < k → ∀ m ∈ Pq.rlev o tl th h j, f m.1 = true) (fun _ i _ => (n + 1 - (intOf i).toNat))
    case atStart => exact ⟨0, Nat.zero_le _, rfl, hMV, hXV, fun j hj => by omega⟩
    case round =>
      clear hMV hXV
      obtain ⟨k, hk, rfl, hM, hR, hall⟩ := hrel
      have HALL := Lib.hid hall
      clear hall
      have ⟨l0, l1, l2, l3, l4, l5, o0, o1, o2, o3, o4, o5, t0, t1, hb, hz⟩ := hR
      by_cases hlt : k ≤ n
      · have hbox : ∀ x ∈ Pq.rlev o tl th h k, -600 ≤ x.1 ∧ x.1 ≤ 1100 := Pq.rlev_box ok b1 b2 hs k
        have hlen := Pq.rlev_length (h := h) ok b1 b2 hs k
        have hmem := Lib.hid (Pq.rlev_mem (h := h) ok hs)
        have hlev : Hid (((Pq.mk [] []).minuteR o (Pq.rlev o tl th h k)).all = Pq.rlev o tl th h (k + 1)) := Lib.hid rfl
        obtain ⟨A, c, rfl, hrest⟩ := id hM
        clear hrest
        obtain ⟨l1', hl1⟩ : ∃ l1', l1' = Pq.rlev o tl th h k := ⟨_, rfl⟩
        rw [← hl1] at hM hbox hlen hlev
        have KM := Lib.hid (fun w hM => rminute_any o ok l1' hbox hlen A c w hM)
        rw [hlev.out] at KM
        rw [← hl1]
        have HL1 := Lib.hid hl1
        have HBX := Lib.hid hbox
        have HR := Lib.hid hR
        have HM := Lib.hid hM
        have HLEN := Lib.hid hlen
        clear hl1 hlev hbox hM hR hlen l0 l1 l2 l3 l4 l5 o0 o1 o2 o3 o4 o5 t0 t1 hb hz
        go_wp2
        go_loopw [15] (fun i wq => ∃ j : Nat, j ≤ l1'.length ∧ i = .int .i64 j ∧ MoAt wq (.slice A l1'.length c) l1' ∧ KrW w a0 a1 a2 a3 a4 a5 o tl th wq ∧ ∀ m ∈ l1'.take j, f m.1 = true) (fun i _ => (l1'.length - (intOf i).toNat))
        case atStart => exact ⟨0, Nat.zero_le _, rfl, HM.out, HR.out, by simp⟩
        case round =>
          clear HM HR
          obtain ⟨j, hj, rfl, hM3, hR3, hsafe⟩ := hrel
          have HSF := Lib.hid hsafe
          have HM3 := Lib.hid hM3
          have HR3 := Lib.hid hR3
          have ⟨l0, l1, l2, l3, l4, l5, o0, o1, o2, o3, o4, o5, t0, t1, hb, hz⟩ := hR3
          clear hsafe hR3
          by_cases hjl : j < l1'.length
          · obtain ⟨A3, c3, e3, hcl⟩ := hM3
            have e3' : A = A3 := by injection e3
            subst e3'
            obtain ⟨g, rfl, hgl, hcells⟩ := hcl (by omega)
            obtain ⟨⟨t, hh⟩, hm⟩ : ∃ m : Mo, m = l1'[j] := ⟨_, rfl⟩
            obtain ⟨x0, x1⟩ := hcells j hjl
            rw [← hm] at x0 x1
            have htk : Hid (l1'.take (j + 1) = l1'.take j ++ [(t, hh)]) := Lib.hid (by rw [List.take_succ_eq_append_getElem hjl, hm])
            have hmm : Hid ((t, hh) ∈ l1') := Lib.hid (by rw [hm]; exact List.getElem_mem hjl)
            have KS := Lib.hid (HS.out t (HBX.out _ hmm.out))
            clear hm e3 hcl hcells
            obtain ⟨s, hs0⟩ : ∃ s, s = f t := ⟨_, rfl⟩
            rw [← hs0] at KS
            have HFS := Lib.hid hs0
            clear hs0 x1
            have A5 := Lib.hid (part_less hjl HLEN.out)
            go_wp2_with fail
            have k0 := cell_regrown l0
            have k1 := cell_regrown l1
            have k2 := cell_regrown l2
            have k3 := cell_regrown l3
            have k4 := cell_regrown l4
            have k5 := cell_regrown l5
            have kT := cell_regrown x0
            have cA : ∀ d os, Calls Try.prog 62 #[.agg #[.int .i64 a0, .int .i64 a1, .int .i64 a2, .int .i64 a3, .int .i64 a4, .int .i64 a5], .int .i64 t] (grow (redrawn wr d) os) fun e w'' => e = .returned (.bool s) ∧ ∃ p : Regrown, w'' = grow (redrawn wr p.d) p.os := fun d os =>
              Calls.regrown_of (Calls.mono (KS.out _) fun e w' h => h)
            clear l0 l1 l2 l3 l4 l5 o0 o1 o2 o3 o4 o5 t0 t1 x0
            have hki : (j : Int) < (l1'.length : Int) := by omega
            have hk0 : (0 : Int) ≤ (j : Int) := by omega
            refine wp_region_quiet_below rfl (by kernel_rfl) ?_
            repeat (quiet_step (first | with_reducible exact cA _ _))
            refine wpQuiet_nil ?_
            intro _ hw'
            obtain ⟨⟨dq, osq⟩, hw''⟩ := hw'
            subst hw''
            have b3 := below_regrown wr dq osq
            obtain ⟨X, hX⟩ : ∃ X, X = grow (redrawn wr dq) osq := ⟨_, rfl⟩
            rw [← hX] at b3 ⊢
            clear hX cA k0 k1 k2 k3 k4 k5 kT
            have HMX := Lib.hid (HM3.out.below b3)
            have HRX := Lib.hid (HR3.out.under b3)
            have hbX := HRX.out.below
            clear b3 hb hz
            cases s with
            | true =>
              have HN : Hid (∀ m ∈ l1'.take (j + 1), f m.1 = true) := Lib.hid fun m hm => by
                rw [htk.out] at hm
                rcases List.mem_append.1 hm with hm | hm
                · exact HSF.out m hm
                · simp at hm
                  subst hm
                  exact HFS.out.symm
              go_wp2
              go_roundw
              case rel => exact ⟨j + 1, hjl, A5.out.1, HMX.out, HRX.out, HN.out⟩
              case measure => exact A5.out.2
            | false =>
              have HK : Hid (KeepsIs o tl th h n f k) := Lib.hid (.inr ⟨k, hlt, rfl, ⟨(t, hh), (hmem.out k _).1 (HL1.out ▸ hmm.out), HFS.out.symm⟩, fun i hi m hm => HALL.out i hi m ((hmem.out i m).2 hm)⟩)
              go_wp2
              refine bodyPost_ret (v := .tuple #[.int .i64 k, .int .i64 0]) (by simp [results, Try.results39, go_sem]) rfl ?_
              exact ⟨⟨k, fun _ => HK.out, fun e => (e rfl).elim, rfl⟩, hbX⟩
          · obtain rfl : j = l1'.length := by omega
            have ht : l1'.take l1'.length = l1' := List.take_length
            have hN : ∀ i, i < k + 1 → ∀ m ∈ Pq.rlev o tl th h i, f m.1 = true := fun i hi m hm => by
              by_cases e : i = k
              · subst e
                exact HSF.out m (by rw [ht, HL1.out]; exact hm)
              · exact HALL.out i (by omega) m hm
            have HN := Lib.hid hN
            have A6 := Lib.hid (minutes_less hlt hn)
            have A7 := Lib.hid (show k + 1 ≤ n + 1 by omega)
            clear hN ht hM3
            go_wp2_with fail
            refine (KM.out _ HM3.out).mono ?_; rintro e V2 ⟨v2, rfl, hMV2, hfr2, hbV2⟩
            have HR4 := Lib.hid (HR3.out.under hbV2)
            have HM4 := Lib.hid hMV2
            clear hMV2 hfr2 hbV2 l0 l1 l2 l3 l4 l5 o0 o1 o2 o3 o4 o5 t0 t1 hb hz HM3 HR3
            go_wp2
            go_roundw
            case rel => exact ⟨k + 1, A7.out, by first | exact A6.out.2.1 | rfl, HM4.out, HR4.out, HN.out⟩
            case measure => exact nat_less hlt
      · obtain rfl : k = n + 1 := by omega
        have HK := Lib.hid (show KeepsIs o tl th h n f (-1) from .inl ⟨rfl, fun j hj m hm => HALL.out j (by omega) m ((Pq.rlev_mem ok hs j m).2 hm)⟩)
        have d1 : decide (((n + 1 : Nat) : Int) ≤ (n : Int)) = false := by simp; omega
        clear hM hR
        go_wp2
        refine bodyPost_ret (v := .tuple #[.int .i64 (-1), .int .i64 0]) (by simp [results, Try.results39, go_sem]) rfl ?_
        exact ⟨⟨-1, fun _ => HK.out, fun e => (e rfl).elim, rfl⟩, hb⟩
  · have hs1 : (er == 0) = false := by simpa using her
    have HE := Lib.hid her
    clear her hX1
    go_wp2
    refine bodyPost_ret (v := .tuple #[.int .i64 0, .int .i64 er]) (by simp [results, Try.results39, go_sem]) rfl ?_
    exact ⟨⟨0, fun e => (HE.out e).elim, fun _ => rfl, rfl⟩, hb⟩
end Go.Proofs.Ytplipfcnjmgicaa
