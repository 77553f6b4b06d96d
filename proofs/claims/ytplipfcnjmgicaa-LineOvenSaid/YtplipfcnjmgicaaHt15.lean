/-
  THE REFERENCE's Oven. No statement is proved here.
-/
import Derived.Test.YtplipfcnjmgicaaHt14
import Derived.Test.YtplipfcnjmgicaaShW
import Derived.Test.YtplipfcnjmgicaaHt6
import Derived.StillTailTactics
namespace Go.Proofs.Ytplipfcnjmgicaa
open Go.RowKit Go.Maps
set_option linter.unusedVariables false
set_option linter.unusedSimpArgs false

namespace Pq
/-- The moments after so many minutes, as the reference lists them. -/
def rlev (o : Ov) (tl th : Int) (h : Bool) : Nat → List Mo
  | 0 => beginL tl h (th - tl + 1).toNat
  | k + 1 => ((Pq.mk [] []).minuteR o (rlev o tl th h k)).all
section
variable {o : Ov} {tl th : Int} {h : Bool}
theorem rlev_mem (ok : o.Ok) (hs : tl ≤ th) : ∀ (k : Nat) (m : Mo), m ∈ rlev o tl th h k ↔ o.At tl th h k m
  | 0, m => beginL_mem o h hs m
  | k + 1, m => by
    unfold rlev
    rw [minuteR_all ok]
    simp only [List.not_mem_nil, false_or]
    constructor
    · rintro ⟨q, hq, ht⟩
      exact ⟨q, (rlev_mem ok hs k q).1 hq, ht⟩
    · rintro ⟨q, hq, ht⟩
      exact ⟨q, (rlev_mem ok hs k q).2 hq, ht⟩
theorem rlev_box (ok : o.Ok) (b1 : -500 ≤ tl) (b2 : th ≤ 1000) (hs : tl ≤ th) (k : Nat) : ∀ x ∈ rlev o tl th h k, -600 ≤ x.1 ∧ x.1 ≤ 1100 := fun x hx => Ov.at_in ok b1 b2 ((rlev_mem ok hs k x).1 hx)
theorem rlev_length (ok : o.Ok) (b1 : -500 ≤ tl) (b2 : th ≤ 1000) (hs : tl ≤ th) : ∀ k, (rlev o tl th h k).length ≤ 3402
  | 0 => by unfold rlev; rw [beginL_length]; omega
  | k + 1 => (Fine.minuteR ok _ ⟨by simp, by simp, by simp⟩ (rlev_box ok b1 b2 hs k)).all_length
end
end Pq
/-- The least and the greatest, with a further one. -/
def mmS (p : Int × Int) (m : Mo) : Int × Int := (if m.1 < p.1 then m.1 else p.1, if p.2 < m.1 then m.1 else p.2)
def mm (p : Int × Int) (l : List Mo) : Int × Int := l.foldl mmS p
theorem mm_snoc (p : Int × Int) (l : List Mo) (m : Mo) : mm p (l ++ [m]) = mmS (mm p l) m := by simp [mm]
theorem mm_spec : ∀ (l : List Mo) (p : Int × Int), ((mm p l).1 = p.1 ∨ ∃ b, ((mm p l).1, b) ∈ l) ∧ ((mm p l).2 = p.2 ∨ ∃ b, ((mm p l).2, b) ∈ l) ∧ (mm p l).1 ≤ p.1 ∧ p.2 ≤ (mm p l).2 ∧ ∀ x ∈ l, (mm p l).1 ≤ x.1 ∧ x.1 ≤ (mm p l).2
  | [], p => by simp [mm]
  | m :: l, p => by
    have ih := mm_spec l (mmS p m)
    have e : mm p (m :: l) = mm (mmS p m) l := rfl
    rw [e]
    obtain ⟨t, b⟩ := m
    obtain ⟨i1, i2, i3, i4, i5⟩ := ih
    have s1 : (mmS p (t, b)).1 = p.1 ∨ (mmS p (t, b)).1 = t := by unfold mmS; dsimp only; split; exact .inr rfl; exact .inl rfl
    have s2 : (mmS p (t, b)).2 = p.2 ∨ (mmS p (t, b)).2 = t := by unfold mmS; dsimp only; split; exact .inr rfl; exact .inl rfl
    have s3 : (mmS p (t, b)).1 ≤ p.1 ∧ (mmS p (t, b)).1 ≤ t := by unfold mmS; dsimp only; split <;> omega
    have s4 : p.2 ≤ (mmS p (t, b)).2 ∧ t ≤ (mmS p (t, b)).2 := by unfold mmS; dsimp only; split <;> omega
    refine ⟨?_, ?_, by omega, by omega, ?_⟩
    · rcases i1 with i1 | ⟨b', i1⟩
      · rcases s1 with s1 | s1
        · exact .inl (i1.trans s1)
        · exact .inr ⟨b, by rw [i1, s1]; simp⟩
      · exact .inr ⟨b', List.mem_cons_of_mem _ i1⟩
    · rcases i2 with i2 | ⟨b', i2⟩
      · rcases s2 with s2 | s2
        · exact .inl (i2.trans s2)
        · exact .inr ⟨b, by rw [i2, s2]; simp⟩
      · exact .inr ⟨b', List.mem_cons_of_mem _ i2⟩
    · intro x hx
      rcases List.mem_cons.1 hx with rfl | hx
      · dsimp only; omega
      · exact i5 x hx
theorem oven_next {o : Ov} (ok : o.Ok) {tl th : Int} {h : Bool} (hs : tl ≤ th) {k : Nat} {lo hi : Int} (hO : OvenIs o tl th h k lo hi) : OvenIs o tl th h (k + 1) (mm (lo, hi) (Pq.rlev o tl th h (k + 1))).1 (mm (lo, hi) (Pq.rlev o tl th h (k + 1))).2 := by
  obtain ⟨s1, s2, s3, s4, s5⟩ := mm_spec (Pq.rlev o tl th h (k + 1)) (lo, hi)
  have hm := Pq.rlev_mem (h := h) ok hs (k + 1)
  generalize mm (lo, hi) (Pq.rlev o tl th h (k + 1)) = p at *
  obtain ⟨⟨k1, q1, b1, a1⟩, ⟨k2, q2, b2, a2⟩, a3⟩ := hO
  refine ⟨?_, ?_, ?_⟩
  · rcases s1 with s1 | ⟨b, s1⟩
    · rw [s1]; exact ⟨k1, by omega, b1, a1⟩
    · exact ⟨k + 1, Nat.le_refl _, b, (hm _).1 s1⟩
  · rcases s2 with s2 | ⟨b, s2⟩
    · rw [s2]; exact ⟨k2, by omega, b2, a2⟩
    · exact ⟨k + 1, Nat.le_refl _, b, (hm _).1 s2⟩
  · intro j hj m hmj
    by_cases e : j = k + 1
    · subst e
      exact s5 m ((hm m).2 hmj)
    · have := a3 j (by omega) m hmj
      dsimp only at s3 s4
      omega
theorem oven_first (o : Ov) {tl th : Int} (h : Bool) (hs : tl ≤ th) : OvenIs o tl th h 0 tl th := by
  refine ⟨⟨0, Nat.le_refl _, h, Int.le_refl _, hs, rfl⟩, ⟨0, Nat.le_refl _, h, hs, Int.le_refl _, rfl⟩, fun k hk m hm => ?_⟩
  obtain rfl : k = 0 := by omega
  exact ⟨hm.1, hm.2.1⟩
/-- What the reference's Oven keeps. -/
structure RoW (w : World) (o : Ov) (tl th : Int) (U : World) : Prop where
  ov : OvenAt w.heap.size o U
  t0 : U.cell? ⟨w.heap.size + 1, 0, none⟩ = some (.int .i64 tl)
  t1 : U.cell? ⟨w.heap.size + 1, 1, none⟩ = some (.int .i64 th)
  r0 : U.cell? ⟨w.heap.size + 1 + 1, 0, none⟩ = some (.int .i64 0)
  r1 : U.cell? ⟨w.heap.size + 1 + 1, 1, none⟩ = some (.int .i64 0)
  f0 : U.frozen? ⟨w.heap.size + 1 + 1, 0, none⟩ = false
  f1 : U.frozen? ⟨w.heap.size + 1 + 1, 1, none⟩ = false
  below : Below w.heap.size w U
  size : w.heap.size + 1 + 1 < U.heap.size
abbrev roX (w : World) (o : Ov) (tl th : Int) : World := ((w.alloc (ovC o)).alloc (.cells #[.int .i64 tl, .int .i64 th] 31)).alloc (.cells #[.int .i64 0, .int .i64 0] 31)
theorem RoW.new (w : World) (o : Ov) (tl th : Int) : RoW w o tl th (roX w o tl th) := by
  refine ⟨⟨?_, ?_, ?_, ?_, ?_, ?_⟩, ?_, ?_, ?_, ?_, ?_, ?_, by unfold roX; go_grown, by simp [roX]⟩ <;> simp [roX, go_sem]
theorem RoW.keep {w : World} {o : Ov} {tl th : Int} {U V : World} (h : RoW w o tl th U) (hb : Below (w.heap.size + 1 + 1 + 1) U V) : RoW w o tl th V := by
  have c : ∀ k j, k ≤ w.heap.size + 1 + 1 → V.cell? ⟨k, j, none⟩ = U.cell? ⟨k, j, none⟩ := fun k j hk => hb.cell (p := ⟨k, j, none⟩) (show k < w.heap.size + 1 + 1 + 1 by omega)
  have f : ∀ k j, k ≤ w.heap.size + 1 + 1 → V.frozen? ⟨k, j, none⟩ = U.frozen? ⟨k, j, none⟩ := fun k j hk => hb.frozen (p := ⟨k, j, none⟩) (show k < w.heap.size + 1 + 1 + 1 by omega)
  exact ⟨h.ov.keep (hb.block _ (by omega)), (c _ _ (by omega)).trans h.t0, (c _ _ (by omega)).trans h.t1, (c _ _ (by omega)).trans h.r0, (c _ _ (by omega)).trans h.r1, (f _ _ (by omega)).trans h.f0, (f _ _ (by omega)).trans h.f1, h.below.trans (hb.mono (by omega)), Nat.lt_of_lt_of_le h.size hb.size⟩
theorem RoW.under {w : World} {o : Ov} {tl th : Int} {U V : World} (h : RoW w o tl th U) (hb : Below U.heap.size U V) : RoW w o tl th V := h.keep (hb.mono h.size)
theorem bcellR {W w1 : World} (hb : Below W.heap.size W w1) : (∀ b o, b < W.heap.size → w1.cell? ⟨b, o, none⟩ = W.cell? ⟨b, o, none⟩) ∧ (∀ b o, b < W.heap.size → w1.frozen? ⟨b, o, none⟩ = W.frozen? ⟨b, o, none⟩) :=
  ⟨fun b o h => hb.cell (p := ⟨b, o, none⟩) h, fun b o h => hb.frozen (p := ⟨b, o, none⟩) h⟩
theorem below_ltR {W w1 : World} (hb : Below W.heap.size W w1) : ∀ b, b < W.heap.size → b < w1.heap.size := fun b h => Nat.lt_of_lt_of_le h hb.size
theorem below_undrewR {n : Nat} {U X : World} (h : Below n U.drew X) : Below n U X := ⟨h.os, h.tape, h.output, h.size, h.block⟩
/-- What the drawn region reads. -/
abbrev RoS (b : Nat) (tl th : Int) (w' : World) : Prop := w'.cell? ⟨b, 0, none⟩ = some (.int .i64 tl) ∧ w'.cell? ⟨b, 1, none⟩ = some (.int .i64 th) ∧ b < w'.heap.size
theorem RoS.keep {b : Nat} {tl th : Int} {w w' : World} (h : RoS b tl th w) (hb : Below w.heap.size w w') : RoS b tl th w' :=
  ⟨(hb.cell (p := ⟨b, 0, none⟩) h.2.2).trans h.1, (hb.cell (p := ⟨b, 1, none⟩) h.2.2).trans h.2.1, Nat.lt_of_lt_of_le h.2.2 hb.size⟩
theorem RoS.alloc {b : Nat} {tl th : Int} {w : World} (h : RoS b tl th w) (x : Obj) : RoS b tl th (w.alloc x) := h.keep ((Below.refl _ _).alloc (Nat.le_refl _) x)
theorem RoS.set2 {b n : Nat} {tl th : Int} {w : World} {u v : Value} (h : RoS b tl th w) (hb : b ≠ n) : RoS b tl th ((w.setCell ⟨n, 0, none⟩ u).setCell ⟨n, 1, none⟩ v) := by
  obtain ⟨h0, h1, h2⟩ := h
  refine ⟨?_, ?_, by simpa [World.setCell] using h2⟩ <;> simp [go_sem, hb, h0, h1]
theorem MoAt.own_lt {U : World} {v : Value} {l : List Mo} (h : MoAt U v l) (hl : 0 < l.length) : ∀ j, v.ownBlock = some j → j < U.heap.size := by
  obtain ⟨A, c, h1, h2⟩ := h
  obtain ⟨g, h3, h4, _⟩ := h2 hl
  intro j e
  rw [h1, h3] at e
  have : g = j := by simpa [Value.ownBlock] using e
  omega
/-- What the drawn region leaves: the span in block kb, the list v. -/
structure RoC (wr : World) (tl th : Int) (l : List Mo) (kb : Nat) (v : Value) (wx : World) : Prop where
  c0 : wx.cell? ⟨kb, 0, none⟩ = some (.int .i64 tl)
  c1 : wx.cell? ⟨kb, 1, none⟩ = some (.int .i64 th)
  f0 : wx.frozen? ⟨kb, 0, none⟩ = false
  f1 : wx.frozen? ⟨kb, 1, none⟩ = false
  mo : MoAt wx v l
  own : v.ownBlock ≠ some kb
  below : Below wr.heap.size wr wx
  lo : wr.heap.size ≤ kb

set_option maxRecDepth 100000 in
set_option maxHeartbeats 1000000 in
theorem roven_run (o : Ov) (tl th : Int) (h : Bool) (mi : Int) (w : World) :
    Calls Try.prog 37 #[ovV o, .agg #[.int .i64 tl, .int .i64 th], .bool h, .int .i64 mi] w (OvenOut o tl th h mi w) := by
  change Calls _ _ _ _ (OvenOutE (ovenErr o tl th mi) o tl th h mi w)
  have KE := Lib.hid (fun w => roven_any o tl th mi w)
  have HO := Lib.hid (fun e => ovenErr_ok (o := o) (tl := tl) (th := th) (mi := mi) e)
  generalize hs : ovenErr o tl th mi = er at *
  clear hs
  have hX0 := RoW.new w o tl th
  unfold roX at hX0
  go_enter Try.func37, Try.ntmps37
  go_wp2_with fail
  refine (KE.out _).mono ?_; rintro e U ⟨rfl, hU⟩
  have hX := hX0.under hU
  clear hU hX0 KE
  by_cases her : er = 0
  · subst her
    obtain ⟨ok, b1, b2, hs, m0, m1⟩ := HO.out rfl
    obtain ⟨n, rfl⟩ : ∃ n : Nat, mi = n := ⟨mi.toNat, by omega⟩
    have hn : n ≤ 200 := by omega
    have KB := Lib.hid (fun w => begin_any tl th h b1 b2 hs w)
    have HX := Lib.hid hX
    have ⟨⟨o0, o1, o2, o3, o4, o5⟩, t0, t1, r0, r1, f0, f1, hbU, hsz⟩ := hX
    have hb0 : w.heap.size + 1 < U.heap.size := by omega
    clear hX
    go_wp2_with fail
    go_cut [11, 12] (fun s11 s12 wx => ∃ kb, s11 = .pointer (some ⟨kb, 0, none⟩) ∧ RoC U tl th (Pq.rlev o tl th h 0) kb s12 wx)
    case first J K hJ hK =>
      have hS0 : RoS (w.heap.size + 1) tl th U := ⟨t0, t1, hb0⟩
      have hSd : RoS (w.heap.size + 1) tl th U.drew := hS0
      have hSa : ∀ x, RoS (w.heap.size + 1) tl th (U.alloc x) := fun x => hS0.alloc x
      have hSad : ∀ x, RoS (w.heap.size + 1) tl th (U.alloc x).drew := fun x => hS0.alloc x
      have hst1 : ∀ x n u v, w.heap.size + 1 ≠ n → RoS (w.heap.size + 1) tl th (((U.alloc x).setCell ⟨n, 0, none⟩ u).setCell ⟨n, 1, none⟩ v) := fun x n u v a => (hSa x).set2 a
      have hst2 : ∀ x n u v, w.heap.size + 1 ≠ n → RoS (w.heap.size + 1) tl th (((U.alloc x).setCell ⟨n, 0, none⟩ u).setCell ⟨n, 1, none⟩ v).drew := fun x n u v a => (hSa x).set2 a
      have KB' : Hid (∀ w', RoS (w.heap.size + 1) tl th w' → Calls Try.prog 79 #[.agg #[.int .i64 tl, .int .i64 th], .bool h] w' fun e V => ∃ v, e = .returned v ∧ MoAt V v (beginL tl h (th - tl + 1).toNat) ∧ (∀ j, v.ownBlock = some j → w'.heap.size ≤ j) ∧ Below w'.heap.size w' V ∧ RoS (w.heap.size + 1) tl th V) :=
        Lib.hid fun w' hs => (KB.out w').mono fun e V ⟨v, h1, h2, h3, h4⟩ => ⟨v, h1, h2, h3, h4, hs.keep h4⟩
      clear KB
      go_region_held3 (fun w' => w'.cell? ⟨w.heap.size + 1, 0, none⟩ = some (.int .i64 tl) ∧ w'.cell? ⟨w.heap.size + 1, 1, none⟩ = some (.int .i64 th) ∧ w.heap.size + 1 < w'.heap.size)
        (first | with_reducible exact hSd | with_reducible exact hS0 | with_reducible exact hSa _ | with_reducible exact hSad _ | (with_reducible refine hst1 _ _ _ _ ?_ <;> omega) | (with_reducible refine hst2 _ _ _ _ ?_ <;> omega) | with_reducible exact hsX | with_reducible exact RoS.alloc hsX _ | (with_reducible refine RoS.set2 (RoS.alloc hsX _) ?_ <;> (have := hsX.2.2; omega)) | (with_reducible refine RoS.set2 hsX ?_ <;> omega))
        (first
          | (go_at_call 79; refine (KB'.out _ hSd).mono ?_; rintro e X ⟨v, rfl, hM, hfr, hbX, hsX⟩; obtain ⟨qcX, qfX⟩ := bcellR hbX; have hlX := below_ltR hbX)
          | (go_at_call 79; refine (KB'.out _ (hSad _)).mono ?_; rintro e X ⟨v, rfl, hM, hfr, hbX, hsX⟩; obtain ⟨qcX, qfX⟩ := bcellR hbX; have hlX := below_ltR hbX))
      all_goals (refine hK _ _ (Met.intro (hJ _ _ ?_)); (repeat apply Exists.intro); refine ⟨?_, rfl⟩)
      · have hlb : 0 < (beginL tl h (th - tl + 1).toNat).length := by rw [beginL_length]; omega
        have hown : v.ownBlock ≠ some X.heap.size := fun e => by have := hM.own_lt hlb _ e; omega
        have hbX' : Below U.heap.size U X := below_undrewR hbX
        exact ⟨_, rfl, by simp [go_sem], by simp [go_sem], by simp [go_sem], by simp [go_sem], hM.below ((Below.refl _ _).alloc (Nat.le_refl _) _), hown, hbX'.trans (((Below.refl _ _).alloc (Nat.le_refl _) _).mono hbX'.size), hbX'.size⟩
      · have hbX' := below_undrewR hbX
        have e0 : X.cell? ⟨U.heap.size, 0, none⟩ = some (.int .i64 0) := (hbX'.cell (p := ⟨U.heap.size, 0, none⟩) (by simp)).trans (by simp [go_sem])
        have e1 : X.cell? ⟨U.heap.size, 1, none⟩ = some (.int .i64 0) := (hbX'.cell (p := ⟨U.heap.size, 1, none⟩) (by simp)).trans (by simp [go_sem])
        have e2 : X.frozen? ⟨U.heap.size, 0, none⟩ = false := (hbX'.frozen (p := ⟨U.heap.size, 0, none⟩) (by simp)).trans (by simp [go_sem])
        have e3 : X.frozen? ⟨U.heap.size, 1, none⟩ = false := (hbX'.frozen (p := ⟨U.heap.size, 1, none⟩) (by simp)).trans (by simp [go_sem])
        have hown : v.ownBlock ≠ some U.heap.size := fun e => by have := hfr _ e; simp at this; omega
        have hbu : Below U.heap.size U X := ((Below.refl _ U).alloc (Nat.le_refl _) _).trans (hbX'.mono (by simp))
        obtain ⟨y0, y1⟩ := two_set (x := .int .i64 tl) (y := .int .i64 th) e0 e1
        exact ⟨_, rfl, y0, y1, by simpa using e2, by simpa using e3, (hM.set hown).set hown, hown, two_below hbu (Nat.le_refl _), Nat.le_refl _⟩
    case rest =>
      obtain ⟨kb, rfl, hC⟩ := hcut
      have hXc := HX.out.under hC.below
      have hkb : w.heap.size + 1 + 1 < kb := Nat.lt_of_lt_of_le hsz hC.lo
      clear HX t0 t1 r0 r1 f0 f1 hbU o0 o1 o2 o3 o4 o5 KB
      go_wp2
      go_loopw [12, 13] (fun v i wr => ∃ k : Nat, k ≤ n ∧ i = .int .i64 k ∧ MoAt wr v (Pq.rlev o tl th h k) ∧ RoW w o tl th wr ∧ ∃ lo hi, OvenIs o tl th h k lo hi ∧ wr.cell? ⟨kb, 0, none⟩ = some (.int .i64 lo) ∧ wr.cell? ⟨kb, 1, none⟩ = some (.int .i64 hi) ∧ wr.frozen? ⟨kb, 0, none⟩ = false ∧ wr.frozen? ⟨kb, 1, none⟩ = false) (fun _ i _ => (n - (intOf i).toNat))
      case atStart => exact ⟨0, Nat.zero_le _, rfl, hC.mo, hXc, tl, th, oven_first o h hs, hC.c0, hC.c1, hC.f0, hC.f1⟩
      case round =>
        clear hC hXc
        obtain ⟨k, hk, rfl, hM, hR, lo, hi, hOv, c0, c1, g0, g1⟩ := hrel
        have hkl : kb < wr.heap.size := World.block_lt_of_cell? wr _ c0
        have ⟨⟨o0, o1, o2, o3, o4, o5⟩, t0, t1, r0, r1, f0, f1, hbU, hsz2⟩ := hR
        by_cases hlt : k < n
        · have hbox : ∀ x ∈ Pq.rlev o tl th h k, -600 ≤ x.1 ∧ x.1 ≤ 1100 := Pq.rlev_box ok b1 b2 hs k
          have hlen := Pq.rlev_length (h := h) ok b1 b2 hs k
          have hlen2 := Pq.rlev_length (h := h) ok b1 b2 hs (k + 1)
          have hlev : Hid (((Pq.mk [] []).minuteR o (Pq.rlev o tl th h k)).all = Pq.rlev o tl th h (k + 1)) := Lib.hid rfl
          have HNX := Lib.hid (oven_next ok hs hOv)
          obtain ⟨A, c, rfl, hrest⟩ := id hM
          clear hrest
          have KM := Lib.hid (rminute_any o ok (Pq.rlev o tl th h k) hbox hlen A c wr hM)
          rw [hlev.out] at KM
          generalize Pq.rlev o tl th h k = l0 at *
          obtain ⟨l1, hl1⟩ : ∃ l1, l1 = Pq.rlev o tl th h (k + 1) := ⟨_, rfl⟩
          rw [← hl1] at KM HNX hlen2
          have HL1 := Lib.hid hl1
          clear hl1 hlev
          have HR := Lib.hid hR
          clear hR hM hbox hOv
          go_wp2_with fail
          refine KM.out.mono ?_; rintro e V ⟨v, rfl, hMV, hfr, hbV⟩
          have hRV := HR.out.under hbV
          have hvk : v.ownBlock ≠ some kb := fun e => by have := hfr _ e; omega
          have d0 := (hbV.cell (p := ⟨kb, 0, none⟩) hkl).trans c0
          have d1 := (hbV.cell (p := ⟨kb, 1, none⟩) hkl).trans c1
          have k0 := (hbV.frozen (p := ⟨kb, 0, none⟩) hkl).trans g0
          have k1 := (hbV.frozen (p := ⟨kb, 1, none⟩) hkl).trans g1
          clear o0 o1 o2 o3 o4 o5 t0 t1 r0 r1 f0 f1 hbU c0 c1 g0 g1 hbV HR hsz2 hkl hfr
          obtain ⟨A2, c2, rfl, hrest2⟩ := id hMV
          clear hrest2
          go_wp2
          go_loopw [14] (fun i wq => ∃ j : Nat, j ≤ l1.length ∧ i = .int .i64 j ∧ MoAt wq (.slice A2 l1.length c2) l1 ∧ RoW w o tl th wq ∧ wq.cell? ⟨kb, 0, none⟩ = some (.int .i64 (mm (lo, hi) (l1.take j)).1) ∧ wq.cell? ⟨kb, 1, none⟩ = some (.int .i64 (mm (lo, hi) (l1.take j)).2) ∧ wq.frozen? ⟨kb, 0, none⟩ = false ∧ wq.frozen? ⟨kb, 1, none⟩ = false) (fun i _ => (l1.length - (intOf i).toNat))
          case atStart => exact ⟨0, Nat.zero_le _, rfl, hMV, hRV, d0, d1, k0, k1⟩
          case round =>
            clear d0 d1 k0 k1 hMV hRV
            obtain ⟨j, hj, rfl, hM3, hR3, d0, d1, k0, k1⟩ := hrel
            by_cases hjl : j < l1.length
            · obtain ⟨A3, c3, e3, hcl⟩ := id hM3
              have e3' : A2 = A3 := by injection e3
              subst e3'
              obtain ⟨g, rfl, hgl, hcells⟩ := hcl (by omega)
              obtain ⟨⟨t, hh⟩, hm⟩ : ∃ m : Mo, m = l1[j] := ⟨_, rfl⟩
              obtain ⟨x0, x1⟩ := hcells j hjl
              rw [← hm] at x0 x1
              have htk : l1.take (j + 1) = l1.take j ++ [(t, hh)] := by rw [List.take_succ_eq_append_getElem hjl, hm]
              have hmm : Hid (mm (lo, hi) (l1.take (j + 1)) = mmS (mm (lo, hi) (l1.take j)) (t, hh)) := Lib.hid (by rw [htk]; exact mm_snoc _ _ _)
              clear hm htk e3 hcl hcells
              generalize mm (lo, hi) (l1.take j) = p at *
              obtain ⟨a, b⟩ := p
              have HM3 := Lib.hid hM3
              have HR3 := Lib.hid hR3
              dsimp only at d0 d1
              have hjw : wrap64 ((j : Int) + 1) = (j : Int) + 1 := wrap_in (by omega) (by omega)
              clear hM3 hR3
              have hmx : Try.prog.follows .mixedOrders = true := by kernel_rfl
              go_wp2_with fail
              go_still_tail 17, hmx
              have HJW := Lib.hid (And.intro hjw hlen2)
              clear hmx hlen hlen2 hjw
              go_wp2_with fail
              obtain ⟨y0, y1⟩ := two_set (x := .int .i64 (if t < a then t else a)) (y := .int .i64 (if b < t then t else b)) d0 d1
              have hRs : RoW w o tl th ((wr.setCell ⟨kb, 0, none⟩ (.int .i64 (if t < a then t else a))).setCell ⟨kb, 1, none⟩ (.int .i64 (if b < t then t else b))).drew :=
                HR3.out.keep (((Below.refl _ wr).setCell (p := ⟨kb, 0, none⟩) hkb _).setCell (p := ⟨kb, 1, none⟩) hkb _).drew
              have hMs : MoAt ((wr.setCell ⟨kb, 0, none⟩ (.int .i64 (if t < a then t else a))).setCell ⟨kb, 1, none⟩ (.int .i64 (if b < t then t else b))).drew (.slice (some ⟨g, 0, none⟩) l1.length c2) l1 := (HM3.out.set hvk).set hvk
              have P := part_less hjl HJW.out.2
              refine ⟨⟨j + 1, hjl, P.1, hMs, hRs, ?_, ?_, by simpa using k0, by simpa using k1⟩, P.2⟩
              · rw [hmm.out]; exact y0
              · rw [hmm.out]; exact y1
            · obtain rfl : j = l1.length := by omega
              have ht : l1.take l1.length = l1 := List.take_length
              rw [ht] at d0 d1
              have hkw : wrap64 ((k : Int) + 1) = (k : Int) + 1 := wrap_in (by omega) (by omega)
              have HM3 := Lib.hid hM3
              have HR3 := Lib.hid hR3
              clear hM3 hR3
              go_wp2
              go_roundw
              case rel => exact ⟨k + 1, by omega, by go_num, by rw [← HL1.out]; exact HM3.out, HR3.out, _, _, HNX.out, d0, d1, k0, k1⟩
              case measure => simp [intOf]; omega
        · obtain rfl : k = n := by omega
          have HOv := Lib.hid hOv
          have hnk : ¬ w.heap.size + 1 + 1 = kb := by omega
          clear hOv hM
          go_wp2
          obtain ⟨x0, x1⟩ := two_set (x := .int .i64 lo) (y := .int .i64 hi) r0 r1
          refine bodyPost_ret (v := .tuple #[.agg #[.int .i64 lo, .int .i64 hi], .int .i64 0]) (by simp [results, Try.results37, x0, x1, go_sem]) rfl ?_
          exact ⟨⟨lo, hi, fun _ => by simpa using HOv.out, fun e => (e rfl).elim, rfl⟩, two_below hbU (by omega)⟩
  · have hs1 : (er == 0) = false := by simpa using her
    have HE := Lib.hid her
    clear her
    have ⟨⟨o0, o1, o2, o3, o4, o5⟩, t0, t1, r0, r1, f0, f1, hbU, hsz⟩ := hX
    go_wp2
    obtain ⟨x0, x1⟩ := two_set (x := .int .i64 0) (y := .int .i64 0) r0 r1
    refine bodyPost_ret (v := .tuple #[.agg #[.int .i64 0, .int .i64 0], .int .i64 er]) (by simp [results, Try.results37, x0, x1, go_sem]) rfl ?_
    exact ⟨⟨0, 0, fun e => (HE.out e).elim, fun _ => ⟨rfl, rfl⟩, rfl⟩, two_below hbU (by omega)⟩
end Go.Proofs.Ytplipfcnjmgicaa
