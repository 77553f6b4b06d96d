/-
  THE REFERENCE's moments: minute, the walk. No statement is proved here.
-/
import Derived.Test.YtplipfcnjmgicaaHt13
namespace Go.Proofs.Ytplipfcnjmgicaa
open Go.RowKit Go.Maps
set_option linter.unusedVariables false
set_option linter.unusedSimpArgs false

theorem boolInfo : (Try.prog.info? 4).map (fun i => (i.zero, i.size, i.bytes)) = some (some (.bool false), 1, 1) := by kernel_rfl
def falses : Array Value := (List.replicate 4800 (Value.bool false)).toArray
theorem make4800 (w : World) : (Instr.makeSlice 88 (.int .i64 4800) (.int .i64 4800)).run Try.prog w = .ok (.slice (some ⟨w.heap.size, 0, none⟩) 4800 4800) (w.alloc (.cells falses 4)) := by
  obtain ⟨i, hi, h2, h3, h4⟩ := info_parts boolInfo
  have h := run_make (P := Try.prog) w 88 4 i _ Try.underlying88 hi h2 .i64 .i64 4800 4800 (by omega) (Int.le_refl _) (by rw [h4]; omega) (by omega)
  rw [h]
  have e : madeCells (Value.bool false).cells 4800 = (List.replicate 4800 (Value.bool false)).toArray := by
    apply Array.toList_inj.1
    exact toList_madeCells_one _ 4800
  rw [h3]
  simp only [Int.toNat, Nat.mul_one]
  rw [e]
  rfl
theorem there_new (W : World) : ThereAt (W.alloc (.cells falses 4)) W.heap.size [] := fun m hm => by
  have hl := idx_lt hm
  generalize idx m = k at *
  refine ⟨⟨false, ?_, by simp⟩, ?_⟩
  · have e : falses[k]? = some (.bool false) := by unfold falses; rw [List.getElem?_toArray, List.getElem?_replicate, if_pos hl]
    generalize falses = fs at *
    simp [go_sem, e]
  · generalize falses = fs at *
    simp [go_sem]
abbrev rmX (w : World) (o : Ov) : World := (w.alloc (ovC o)).alloc (.cells falses 4)
theorem rm_new (w : World) (o : Ov) : RmAt w o ⟨[], []⟩ (.slice none 0 0) (rmX w o) := by
  have h0 := there_new (w.alloc (ovC o))
  rw [World.size_alloc] at h0
  unfold rmX
  generalize falses = fs at *
  refine ⟨by go_grown, (OvenAt.new o w _).keep (Below.heap_alloc _ _ _ (by simp)), World.ownsRow_nil _ _ _ _, h0, by simp⟩

/-- What the first region of a round reads. -/
abbrev RmS (b g k : Nat) (o : Ov) (t : Int) (hh : Bool) (w' : World) : Prop :=
  w'.cell? ⟨b, 0, none⟩ = some (.int .i64 o.low) ∧ w'.cell? ⟨b, 1, none⟩ = some (.int .i64 o.high) ∧ w'.cell? ⟨b, 2, none⟩ = some (.int .i64 o.wl) ∧ w'.cell? ⟨b, 3, none⟩ = some (.int .i64 o.wh) ∧ w'.cell? ⟨b, 4, none⟩ = some (.int .i64 o.cl) ∧ w'.cell? ⟨b, 5, none⟩ = some (.int .i64 o.ch) ∧ w'.cell? ⟨g, k * 2, none⟩ = some (.int .i64 t) ∧ w'.cell? ⟨g, k * 2 + 1, none⟩ = some (.bool hh) ∧ b < w'.heap.size ∧ g < w'.heap.size
theorem RmS.keep {b g k : Nat} {o : Ov} {t : Int} {hh : Bool} {w w' : World} (h : RmS b g k o t hh w) (hb : Below w.heap.size w w') : RmS b g k o t hh w' := by
  obtain ⟨h0, h1, h2, h3, h4, h5, h6, h7, h8, h9⟩ := h
  have c : ∀ j, w'.cell? ⟨b, j, none⟩ = w.cell? ⟨b, j, none⟩ := fun j => hb.cell (p := ⟨b, j, none⟩) h8
  have d : ∀ j, w'.cell? ⟨g, j, none⟩ = w.cell? ⟨g, j, none⟩ := fun j => hb.cell (p := ⟨g, j, none⟩) h9
  exact ⟨(c _).trans h0, (c _).trans h1, (c _).trans h2, (c _).trans h3, (c _).trans h4, (c _).trans h5, (d _).trans h6, (d _).trans h7, Nat.lt_of_lt_of_le h8 hb.size, Nat.lt_of_lt_of_le h9 hb.size⟩
theorem RmS.alloc {b g k : Nat} {o : Ov} {t : Int} {hh : Bool} {w : World} (h : RmS b g k o t hh w) (x : Obj) : RmS b g k o t hh (w.alloc x) := h.keep ((Below.refl _ _).alloc (Nat.le_refl _) x)
theorem RmS.set2 {b g k n : Nat} {o : Ov} {t : Int} {hh : Bool} {w : World} {u v : Value} (h : RmS b g k o t hh w) (hb : b ≠ n) (hg : g ≠ n) : RmS b g k o t hh ((w.setCell ⟨n, 0, none⟩ u).setCell ⟨n, 1, none⟩ v) := by
  obtain ⟨h0, h1, h2, h3, h4, h5, h6, h7, h8, h9⟩ := h
  refine ⟨?_, ?_, ?_, ?_, ?_, ?_, ?_, ?_, by simpa [World.setCell] using h8, by simpa [World.setCell] using h9⟩ <;> simp [go_sem, hb, hg, h0, h1, h2, h3, h4, h5, h6, h7]

set_option maxRecDepth 100000 in
set_option maxHeartbeats 1000000 in
theorem rminute_any (o : Ov) (ok : o.Ok) (l : List Mo) (hl : ∀ x ∈ l, -600 ≤ x.1 ∧ x.1 ≤ 1100) (hlen : l.length ≤ 3402) (A : Option Addr) (c : Nat) (w : World) (hM : MoAt w (.slice A l.length c) l) :
    Calls Try.prog 80 #[ovV o, .slice A l.length c] w fun e w' => ∃ v, e = .returned v ∧ MoAt w' v ((Pq.mk [] []).minuteR o l).all ∧ (∀ j, v.ownBlock = some j → w.heap.size ≤ j) ∧ Below w.heap.size w w' := by
  have hmk := make4800 (w.alloc (ovC o))
  have hN := rm_new w o
  have hM0 : ∀ U, Below w.heap.size w U → MoAt U (.slice A l.length c) l := fun U hb => hM.below hb
  have HM := Lib.hid hM0
  have HN := Lib.hid hN
  have HL := Lib.hid hl
  clear hM0 hN hM hl
  unfold rmX at HN
  generalize falses = fs at *
  go_enter Try.func80, Try.ntmps80
  go_wp2
  go_loopw [7, 8] (fun v i wr => ∃ k : Nat, k ≤ l.length ∧ i = .int .i64 k ∧ RmAt w o ((Pq.mk [] []).minuteR o (l.take k)) v wr) (fun _ i _ => (l.length - (intOf i).toNat))
  case atStart => exact ⟨0, Nat.zero_le _, rfl, by simpa [Pq.minuteR] using HN.out⟩
  case round =>
    obtain ⟨k, hk, rfl, hR⟩ := hrel
    by_cases hlt : k < l.length
    · obtain ⟨A', c', e1, hcl⟩ := HM.out _ hR.below
      have e1' : A = A' := by injection e1
      subst e1'
      obtain ⟨g, rfl, hgl, hcells⟩ := hcl (by omega)
      obtain ⟨⟨t, hh⟩, hm⟩ : ∃ m : Mo, m = l[k] := ⟨_, rfl⟩
      obtain ⟨x0, x1⟩ := hcells k hlt
      rw [← hm] at x0 x1
      have hbx := HL.out _ (List.getElem_mem hlt)
      rw [← hm] at hbx
      have htk : l.take (k + 1) = l.take k ++ [(t, hh)] := by rw [List.take_succ_eq_append_getElem hlt, hm]
      have hst : Hid ((Pq.mk [] []).minuteR o (l.take (k + 1)) = ((Pq.mk [] []).minuteR o (l.take k)).stepR o (t, hh)) := Lib.hid (by rw [htk]; exact Pq.minuteR_snoc _ _ _ _)
      have hfi : Hid ((Pq.mk [] []).minuteR o (l.take k)).Fine := Lib.hid (Pq.Fine.minuteR ok _ ⟨by simp, by simp, by simp⟩ fun x hx => HL.out x (List.mem_of_mem_take hx))
      have HX0 : Hid (∀ U, Below w.heap.size w U → U.cell? ⟨g, k * 2, none⟩ = some (.int .i64 t)) := by
        obtain ⟨A2, c2, e2, hcl2⟩ := HM.out _ (Below.refl _ _)
        have e2' : some ⟨g, 0, none⟩ = A2 := by injection e2
        subst e2'
        obtain ⟨g', e3, hgl', hcells'⟩ := hcl2 (by omega)
        cases e3
        have h0 := (hcells' k hlt).1
        rw [← hm] at h0
        exact Lib.hid fun U hU => (hU.cell (p := ⟨g, k * 2, none⟩) hgl').trans h0
      clear hm htk e1 hcells hcl
      generalize (Pq.mk [] []).minuteR o (l.take k) = p at *
      have ⟨o0, o1, o2, o3, o4, o5⟩ := hR.ov
      have hsz := hR.size
      have HR := Lib.hid hR
      have KH := Lib.hid (fun w => rheats_any o t hh w)
      clear hR
      go_wp2_with fail
      go_cut [9, 10, 11, 12] (fun s9 s10 s11 s12 wx => ∃ kb, s9 = .bool (o.heats (t, hh)) ∧ s10 = .pointer (some ⟨kb, 0, none⟩) ∧ s11 = .int .i64 (-1) ∧ s12 = .int .i64 0 ∧ Below wr.heap.size wr wx ∧ wr.heap.size ≤ kb ∧ wx.cell? ⟨kb, 0, none⟩ = some (.int .i64 o.cl) ∧ wx.cell? ⟨kb, 1, none⟩ = some (.int .i64 o.ch) ∧ wx.frozen? ⟨kb, 0, none⟩ = false ∧ wx.frozen? ⟨kb, 1, none⟩ = false)
      case first J K hJ hK =>
        have hS0 : RmS w.heap.size g k o t hh wr := ⟨o0, o1, o2, o3, o4, o5, x0, x1, by omega, hgl⟩
        have hSd : RmS w.heap.size g k o t hh wr.drew := hS0
        have hSa : ∀ x, RmS w.heap.size g k o t hh (wr.alloc x).drew := fun x => hS0.alloc x
        have hSx : ∀ x, RmS w.heap.size g k o t hh (wr.alloc x) := fun x => hS0.alloc x
        have hSaa : ∀ x y, RmS w.heap.size g k o t hh ((wr.alloc x).alloc y) := fun x y => (hS0.alloc x).alloc y
        have hSaad : ∀ x y, RmS w.heap.size g k o t hh ((wr.alloc x).alloc y).drew := fun x y => (hS0.alloc x).alloc y
        have hSd1 : ∀ x y, RmS w.heap.size g k o t hh ((wr.alloc x).drew.alloc y) := fun x y => (hS0.alloc x).alloc y
        have hst1 : ∀ x y n u v, w.heap.size ≠ n → g ≠ n → RmS w.heap.size g k o t hh ((((wr.alloc x).alloc y).setCell ⟨n, 0, none⟩ u).setCell ⟨n, 1, none⟩ v) := fun x y n u v a b => (hSaa x y).set2 a b
        have hst2 : ∀ x y n u v, w.heap.size ≠ n → g ≠ n → RmS w.heap.size g k o t hh ((((wr.alloc x).alloc y).setCell ⟨n, 0, none⟩ u).setCell ⟨n, 1, none⟩ v).drew := fun x y n u v a b => (hSaa x y).set2 a b
        have hst3 : ∀ x y n u v, w.heap.size ≠ n → g ≠ n → RmS w.heap.size g k o t hh ((((wr.alloc x).alloc y).drew.setCell ⟨n, 0, none⟩ u).setCell ⟨n, 1, none⟩ v) := fun x y n u v a b => (hSaa x y).set2 a b
        have hgs : w.heap.size < wr.heap.size := by omega
        have KH' := Lib.hid (fun w' (hs : RmS w.heap.size g k o t hh w') => (KH.out w').mono (fun e V (h : _ ∧ _) => And.intro h.1 (And.intro (show RmS w.heap.size g k o t hh V from h.2 ▸ hs.alloc _) h.2)))
        clear KH
        go_region_held3 (fun w' => w'.cell? ⟨w.heap.size, 0, none⟩ = some (.int .i64 o.low) ∧ w'.cell? ⟨w.heap.size, 1, none⟩ = some (.int .i64 o.high) ∧ w'.cell? ⟨w.heap.size, 2, none⟩ = some (.int .i64 o.wl) ∧ w'.cell? ⟨w.heap.size, 3, none⟩ = some (.int .i64 o.wh) ∧ w'.cell? ⟨w.heap.size, 4, none⟩ = some (.int .i64 o.cl) ∧ w'.cell? ⟨w.heap.size, 5, none⟩ = some (.int .i64 o.ch) ∧ w'.cell? ⟨g, k * 2, none⟩ = some (.int .i64 t) ∧ w'.cell? ⟨g, k * 2 + 1, none⟩ = some (.bool hh) ∧ w.heap.size < w'.heap.size ∧ g < w'.heap.size)
          (first | with_reducible exact hSd | with_reducible exact hS0 | with_reducible exact hSa _ | with_reducible exact hSx _ | with_reducible exact hSaa _ _ | with_reducible exact hSaad _ _ | with_reducible exact hSd1 _ _ | (with_reducible refine hst1 _ _ _ _ _ ?_ ?_ <;> omega) | (with_reducible refine hst2 _ _ _ _ _ ?_ ?_ <;> omega) | (with_reducible refine hst3 _ _ _ _ _ ?_ ?_ <;> omega))
          (first
            | (go_at_call 94; refine (KH'.out _ hSd).mono ?_; rintro e X ⟨rfl, hsX, rfl⟩)
            | (go_at_call 94; refine (KH'.out _ (hSa _)).mono ?_; rintro e X ⟨rfl, hsX, rfl⟩))
        all_goals (refine hK _ _ (Met.intro (hJ _ _ ?_)); (repeat apply Exists.intro); refine ⟨?_, rfl⟩)
        · exact ⟨_, rfl, rfl, rfl, rfl, by go_grown, by omega, by simp [go_sem], by simp [go_sem], by simp [go_sem], by simp [go_sem]⟩
        · exact ⟨_, rfl, rfl, rfl, rfl, by go_grown, by omega, by simp [go_sem], by simp [go_sem], by simp [go_sem], by simp [go_sem]⟩
      case rest =>
        obtain ⟨kb, rfl, rfl, rfl, rfl, hb1, hkb, y0, y1, g0, g1⟩ := hcut
        have hRc := HR.out.under hb1
        have hrl := HR.out.row
        have hvk : u7.ownBlock ≠ some kb := fun e => by have := (hrl.lt _ e).2; omega
        have hx0c := HX0.out _ hRc.below
        have ⟨o0, o1, o2, o3, o4, o5⟩ := hRc.ov
        have hkl : kb < wc.heap.size := World.block_lt_of_cell? wc _ y0
        clear hb1 hrl x0 x1 KH HR
        cases hhv : o.heats (t, hh) with
        | true =>
        · have hbo := ok.w
          obtain ⟨n, hn⟩ : ∃ n, (o.wh - o.wl + 1).toNat = n := ⟨_, rfl⟩
          have hnR : Hid (Pq.nR o (t, hh) = n) := Lib.hid (by unfold Pq.nR; rw [hhv]; exact hn)
          have hfR : Hid (∀ j : Nat, Pq.fR o (t, hh) j = (t + (o.wl + (j : Int)), true)) := Lib.hid fun j => by unfold Pq.fR; rw [hhv]; rfl
          have hN2 : Hid (o.wl + n = o.wh + 1) := Lib.hid (by omega)
          clear hn hhv
          go_wp2
          go_loopw [7, 13] (fun v i wq => ∃ j : Nat, j ≤ n ∧ i = .int .i64 (o.wl + j) ∧ RmAt w o (p.pushN (Pq.fR o (t, hh)) j) v wq ∧ wq.cell? ⟨kb, 0, none⟩ = some (.int .i64 o.wl) ∧ wq.cell? ⟨kb, 1, none⟩ = some (.int .i64 o.wh) ∧ v.ownBlock ≠ some kb) (fun _ i _ => (o.wh + 1 - intOf i).toNat)
          case atStart => exact ⟨0, Nat.zero_le _, by simp, (hRc.far (by omega) hvk).far (by omega) hvk, (two_set y0 y1).1, (two_set y0 y1).2, hvk⟩
          case round =>
            clear y0 y1 g0 g1 hRc o0 o1 o2 o3 o4 o5 hx0c hkl hvk
            obtain ⟨j, hj, rfl, hRj, z0, z1, hvk2⟩ := hrel
            obtain ⟨N, hNe⟩ : ∃ N, N = o.wl + (j : Int) := ⟨_, rfl⟩
            have HNN := Lib.hid hNe
            rw [← hNe]
            clear hNe
            by_cases hjn : j < n
            · have hNb : o.wl ≤ N ∧ N ≤ o.wh := by have := HNN.out; have := hN2.out; omega
              obtain ⟨X, hXe⟩ : ∃ X, X = t + N := ⟨_, rfl⟩
              have HXX := Lib.hid hXe
              have hfj : Pq.fR o (t, hh) j = (X, true) := by rw [hfR.out j, HXX.out, HNN.out]
              have hXb := Pq.fR_box ok hbx (show j < Pq.nR o (t, hh) by rw [hnR.out]; exact hjn)
              rw [hfj] at hXb
              have hXb1 : -600 ≤ X ∧ X ≤ 1100 := hXb
              clear hXe hXb
              obtain ⟨I, hIe⟩ : ∃ I, I = idx (X, true) := ⟨_, rfl⟩
              have hI2 : (I : Int) = 2400 + X + 1200 := by rw [hIe]; unfold idx; simp; omega
              have HI := Lib.hid hI2
              have hIl : I < 4800 := by rw [hIe]; exact idx_lt hXb1
              have hIl' : (I : Int) < 4800 := by omega
              have HIE := Lib.hid hIe
              clear hIe hI2
              have e3 : wrap64 N = N := wrap_in (by omega) (by omega)
              have e4 : wrap64 (t + N) = X := by rw [wrap_in (by omega) (by omega)]; exact HXX.out.symm
              have e5 : wrap64 (2400 + X) = 2400 + X := wrap_in (by omega) (by omega)
              have e6 : wrap64 (2400 + X + 1200) = (I : Int) := by rw [wrap_in (by omega) (by omega)]; exact HI.out.symm

              have e7 : wrap64 (N + 1) = N + 1 := wrap_in (by omega) (by omega)
              have hsn : Hid (p.pushN (Pq.fR o (t, hh)) (j + 1) = (p.pushN (Pq.fR o (t, hh)) j).push (X, true)) := Lib.hid (by rw [← hfj]; rfl)
              have hfine : (p.pushN (Pq.fR o (t, hh)) j).Fine := hfi.out.pushN _ _ fun i hi => Pq.fR_box ok hbx (by rw [hnR.out]; omega)
              have hal := hfine.all_length
              clear hfj hfine
              generalize p.pushN (Pq.fR o (t, hh)) j = q at *
              have hx0r := HX0.out _ hRj.below
              obtain ⟨⟨r, q0, q1⟩, qf⟩ := hRj.there (X, true) hXb1
              rw [← HIE.out] at q0 qf
              have ⟨o0, o1, o2, o3, o4, o5⟩ := hRj.ov
              have hkl2 : kb < wr.heap.size := World.block_lt_of_cell? wr _ z0
              have HRj := Lib.hid hRj
              have HXB := Lib.hid hXb1
              have HNB := Lib.hid hNb
              have HBO := Lib.hid hbo
              have HBX := Lib.hid hbx
              have hle := hNb.2
              clear hXb1 hNb hbo hbx
              cases r with
              | true =>
                have hpu : q.push (X, true) = q := by unfold Pq.push; rw [if_pos (q1.1 rfl)]
                have HQ : Hid (p.pushN (Pq.fR o (t, hh)) (j + 1) = q) := Lib.hid (hsn.out.trans hpu)
                clear q1 hpu hsn hRj
                go_wp2
                go_roundw
                case rel => exact ⟨j + 1, by omega, by (try rw [e7]); have := HNN.out; simp; omega, by rw [HQ.out]; exact HRj.out, z0, z1, hvk2⟩
                case measure => (try rw [e7]); simp [intOf]; omega
              | false =>
                have hm : (X, true) ∉ q.all := fun e => by have := q1.2 e; cases this
                have HMM := Lib.hid hm
                obtain ⟨i0, hi0, hz0, hzz, hzb⟩ := info_parts stInfo
                have hU1 : (wr.setCell ⟨w.heap.size + 1, I, none⟩ (.bool true)).heap.size = wr.heap.size := by simp [World.setCell]
                have hrow1 : (wr.setCell ⟨w.heap.size + 1, I, none⟩ (.bool true)).ownsRow (w.heap.size + 1 + 1) 112 2 u7 q.all.length (moC q.all) := ownsRow_setCell_other hRj.row (fun e => by have := (hRj.row.lt _ e).1; simp at this; omega) _
                have hbz : w.heap.size + 1 + 1 ≤ ((wr.setCell ⟨w.heap.size + 1, I, none⟩ (.bool true)).alloc (.cells #[.int .i64 X, .bool true] 112)).heap.size := by simp [World.setCell]; have := hRj.size; omega
                have hl1 : q.all.length + 1 ≤ maxLen := by unfold maxLen; omega
                have hl2 : (q.all.length + 1) * 16 ≤ 140737488355328 := by omega
                clear q1 hm hRj hal
                have hnews := two_new (wr.setCell ⟨w.heap.size + 1, I, none⟩ (.bool true)) (.int .i64 X) (.bool true) 112
                rw [hU1] at hnews
                go_wp2_with (at_builtin; refine wpList_append_own_at _ rfl _ _ 108 rfl (w.heap.size + 1 + 1) 112 i0 _ 2 16 Try.underlying108 hi0 hz0 hzz hzb rfl (by decide) _ _ _ rfl (hrow1.alloc _) ⟨wr.heap.size, 0, none⟩ 1 1 [.int .i64 X, .bool true] rfl rfl hnews (by simp [Value.oneCell']) hl1 hl2 hbz ?_; intro v2 V2 hown2 hgrow2 hnil hat)
                have hpush := HRj.out.pushed (V1 := (wr.setCell ⟨w.heap.size + 1, idx (X, true), none⟩ (.bool true)).alloc (.cells #[.int .i64 X, .bool true] 112)) HMM.out HXB.out ((Below.refl _ _).alloc (Nat.le_refl _) _) hown2 (by rw [← HIE.out]; exact hgrow2)
                obtain ⟨hR2, hsz2, hold⟩ := hpush
                have hkb2 : V2.heap[kb]? = wr.heap[kb]? := hold kb hkl2 (by omega) hvk2
                have z0' := (World.cell?_of_block (a := ⟨kb, 0, none⟩) hkb2).trans z0
                have z1' := (World.cell?_of_block (a := ⟨kb, 1, none⟩) hkb2).trans z1
                have hvk3 : v2.ownBlock ≠ some kb := by
                  rcases hat with e | e
                  · rw [e]; exact hvk2
                  · rw [e]; intro e2; simp [World.setCell] at e2; omega
                go_roundw
                case rel => exact ⟨j + 1, by omega, by (try rw [e7]); have := HNN.out; simp; omega, by rw [hsn.out]; exact hR2, z0', z1', hvk3⟩
                case measure => (try rw [e7]); simp [intOf]; omega
            · obtain rfl : j = n := by omega
              have hNx : ¬ N ≤ o.wh := by have := HNN.out; have := hN2.out; omega
              have hsR : Hid (((Pq.mk [] []).minuteR o (l.take (k + 1))) = p.pushN (Pq.fR o (t, hh)) j) := Lib.hid (by rw [hst.out]; unfold Pq.stepR; rw [hnR.out])
              have HRj := Lib.hid hRj
              clear hRj
              go_wp2
              go_roundw
              case rel => exact ⟨k + 1, by omega, by go_num, by rw [hsR.out]; exact HRj.out⟩
              case measure => simp [intOf]; omega
        | false =>
        · have hbo := ok.c
          obtain ⟨n, hn⟩ : ∃ n, (o.ch - o.cl + 1).toNat = n := ⟨_, rfl⟩
          have hnR : Hid (Pq.nR o (t, hh) = n) := Lib.hid (by unfold Pq.nR; rw [hhv]; exact hn)
          have hfR : Hid (∀ j : Nat, Pq.fR o (t, hh) j = (t - (o.cl + (j : Int)), false)) := Lib.hid fun j => by unfold Pq.fR; rw [hhv]; rfl
          have hN2 : Hid (o.cl + n = o.ch + 1) := Lib.hid (by omega)
          clear hn hhv
          go_wp2
          go_loopw [7, 13] (fun v i wq => ∃ j : Nat, j ≤ n ∧ i = .int .i64 (o.cl + j) ∧ RmAt w o (p.pushN (Pq.fR o (t, hh)) j) v wq ∧ wq.cell? ⟨kb, 0, none⟩ = some (.int .i64 o.cl) ∧ wq.cell? ⟨kb, 1, none⟩ = some (.int .i64 o.ch) ∧ v.ownBlock ≠ some kb) (fun _ i _ => (o.ch + 1 - intOf i).toNat)
          case atStart => exact ⟨0, Nat.zero_le _, by simp, hRc, y0, y1, hvk⟩
          case round =>
            clear y0 y1 g0 g1 hRc o0 o1 o2 o3 o4 o5 hx0c hkl hvk
            obtain ⟨j, hj, rfl, hRj, z0, z1, hvk2⟩ := hrel
            obtain ⟨N, hNe⟩ : ∃ N, N = o.cl + (j : Int) := ⟨_, rfl⟩
            have HNN := Lib.hid hNe
            rw [← hNe]
            clear hNe
            by_cases hjn : j < n
            · have hNb : o.cl ≤ N ∧ N ≤ o.ch := by have := HNN.out; have := hN2.out; omega
              obtain ⟨X, hXe⟩ : ∃ X, X = t - N := ⟨_, rfl⟩
              have HXX := Lib.hid hXe
              have hfj : Pq.fR o (t, hh) j = (X, false) := by rw [hfR.out j, HXX.out, HNN.out]
              have hXb := Pq.fR_box ok hbx (show j < Pq.nR o (t, hh) by rw [hnR.out]; exact hjn)
              rw [hfj] at hXb
              have hXb1 : -600 ≤ X ∧ X ≤ 1100 := hXb
              clear hXe hXb
              obtain ⟨I, hIe⟩ : ∃ I, I = idx (X, false) := ⟨_, rfl⟩
              have hI2 : (I : Int) = X + 1200 := by rw [hIe]; unfold idx; simp; omega
              have HI := Lib.hid hI2
              have hIl : I < 4800 := by rw [hIe]; exact idx_lt hXb1
              have hIl' : (I : Int) < 4800 := by omega
              have HIE := Lib.hid hIe
              clear hIe hI2
              have e3 : wrap64 (-N) = -N := wrap_in (by omega) (by omega)
              have e4 : wrap64 (t + -N) = X := by rw [wrap_in (by omega) (by omega)]; have := HXX.out; omega
              have e5 : wrap64 X = X := wrap_in (by omega) (by omega)
              have e6 : wrap64 (X + 1200) = (I : Int) := by rw [wrap_in (by omega) (by omega)]; exact HI.out.symm

              have e7 : wrap64 (N + 1) = N + 1 := wrap_in (by omega) (by omega)
              have hsn : Hid (p.pushN (Pq.fR o (t, hh)) (j + 1) = (p.pushN (Pq.fR o (t, hh)) j).push (X, false)) := Lib.hid (by rw [← hfj]; rfl)
              have hfine : (p.pushN (Pq.fR o (t, hh)) j).Fine := hfi.out.pushN _ _ fun i hi => Pq.fR_box ok hbx (by rw [hnR.out]; omega)
              have hal := hfine.all_length
              clear hfj hfine
              generalize p.pushN (Pq.fR o (t, hh)) j = q at *
              have hx0r := HX0.out _ hRj.below
              obtain ⟨⟨r, q0, q1⟩, qf⟩ := hRj.there (X, false) hXb1
              rw [← HIE.out] at q0 qf
              have ⟨o0, o1, o2, o3, o4, o5⟩ := hRj.ov
              have hkl2 : kb < wr.heap.size := World.block_lt_of_cell? wr _ z0
              have HRj := Lib.hid hRj
              have HXB := Lib.hid hXb1
              have HNB := Lib.hid hNb
              have HBO := Lib.hid hbo
              have HBX := Lib.hid hbx
              have hle := hNb.2
              clear hXb1 hNb hbo hbx
              cases r with
              | true =>
                have hpu : q.push (X, false) = q := by unfold Pq.push; rw [if_pos (q1.1 rfl)]
                have HQ : Hid (p.pushN (Pq.fR o (t, hh)) (j + 1) = q) := Lib.hid (hsn.out.trans hpu)
                clear q1 hpu hsn hRj
                go_wp2
                go_roundw
                case rel => exact ⟨j + 1, by omega, by (try rw [e7]); have := HNN.out; simp; omega, by rw [HQ.out]; exact HRj.out, z0, z1, hvk2⟩
                case measure => (try rw [e7]); simp [intOf]; omega
              | false =>
                have hm : (X, false) ∉ q.all := fun e => by have := q1.2 e; cases this
                have HMM := Lib.hid hm
                obtain ⟨i0, hi0, hz0, hzz, hzb⟩ := info_parts stInfo
                have hU1 : (wr.setCell ⟨w.heap.size + 1, I, none⟩ (.bool true)).heap.size = wr.heap.size := by simp [World.setCell]
                have hrow1 : (wr.setCell ⟨w.heap.size + 1, I, none⟩ (.bool true)).ownsRow (w.heap.size + 1 + 1) 112 2 u7 q.all.length (moC q.all) := ownsRow_setCell_other hRj.row (fun e => by have := (hRj.row.lt _ e).1; simp at this; omega) _
                have hbz : w.heap.size + 1 + 1 ≤ ((wr.setCell ⟨w.heap.size + 1, I, none⟩ (.bool true)).alloc (.cells #[.int .i64 X, .bool false] 112)).heap.size := by simp [World.setCell]; have := hRj.size; omega
                have hl1 : q.all.length + 1 ≤ maxLen := by unfold maxLen; omega
                have hl2 : (q.all.length + 1) * 16 ≤ 140737488355328 := by omega
                clear q1 hm hRj hal
                have hnews := two_new (wr.setCell ⟨w.heap.size + 1, I, none⟩ (.bool true)) (.int .i64 X) (.bool false) 112
                rw [hU1] at hnews
                go_wp2_with (at_builtin; refine wpList_append_own_at _ rfl _ _ 108 rfl (w.heap.size + 1 + 1) 112 i0 _ 2 16 Try.underlying108 hi0 hz0 hzz hzb rfl (by decide) _ _ _ rfl (hrow1.alloc _) ⟨wr.heap.size, 0, none⟩ 1 1 [.int .i64 X, .bool false] rfl rfl hnews (by simp [Value.oneCell']) hl1 hl2 hbz ?_; intro v2 V2 hown2 hgrow2 hnil hat)
                have hpush := HRj.out.pushed (V1 := (wr.setCell ⟨w.heap.size + 1, idx (X, false), none⟩ (.bool true)).alloc (.cells #[.int .i64 X, .bool false] 112)) HMM.out HXB.out ((Below.refl _ _).alloc (Nat.le_refl _) _) hown2 (by rw [← HIE.out]; exact hgrow2)
                obtain ⟨hR2, hsz2, hold⟩ := hpush
                have hkb2 : V2.heap[kb]? = wr.heap[kb]? := hold kb hkl2 (by omega) hvk2
                have z0' := (World.cell?_of_block (a := ⟨kb, 0, none⟩) hkb2).trans z0
                have z1' := (World.cell?_of_block (a := ⟨kb, 1, none⟩) hkb2).trans z1
                have hvk3 : v2.ownBlock ≠ some kb := by
                  rcases hat with e | e
                  · rw [e]; exact hvk2
                  · rw [e]; intro e2; simp [World.setCell] at e2; omega
                go_roundw
                case rel => exact ⟨j + 1, by omega, by (try rw [e7]); have := HNN.out; simp; omega, by rw [hsn.out]; exact hR2, z0', z1', hvk3⟩
                case measure => (try rw [e7]); simp [intOf]; omega
            · obtain rfl : j = n := by omega
              have hNx : ¬ N ≤ o.ch := by have := HNN.out; have := hN2.out; omega
              have hsR : Hid (((Pq.mk [] []).minuteR o (l.take (k + 1))) = p.pushN (Pq.fR o (t, hh)) j) := Lib.hid (by rw [hst.out]; unfold Pq.stepR; rw [hnR.out])
              have HRj := Lib.hid hRj
              clear hRj
              go_wp2
              go_roundw
              case rel => exact ⟨k + 1, by omega, by go_num, by rw [hsR.out]; exact HRj.out⟩
              case measure => simp [intOf]; omega
    · obtain rfl : k = l.length := by omega
      have ht : l.take l.length = l := List.take_length
      rw [ht] at hR
      have hMo : MoAt wr u7 ((Pq.mk [] []).minuteR o l).all := moAt_of_owns hR.row
      have hb := hR.below
      have hfr : ∀ j, u7.ownBlock = some j → w.heap.size ≤ j := fun j e => by have := (hR.row.lt j e).1; omega
      clear hR
      go_wp2
      go_ret
      exact ⟨_, rfl, hMo, hfr, hb⟩
end Go.Proofs.Ytplipfcnjmgicaa
