/-
  CONTRACT OF Life of the reference. No statement is proved here.
-/
import Derived.Test.YtgbignkkieoffaaMg12
namespace Go.Proofs.Ytgbignkkieoffaa
open Go.RowKit Mg Go.Sort
set_option linter.unusedVariables false
set_option linter.unusedSimpArgs false

set_option maxRecDepth 100000 in
set_option maxHeartbeats 4000000 in
theorem rlife_err (k : Kd) (A : Option Addr) (c : Nat) (step : Int) (he : k.err ≠ 0) (w : World) (hk : KindAt w A k) : Calls Try.prog 14 #[kdV k A c, .int .i64 step] w (LifeOut w k step) := by
  have q : (k.err == 0) = false := by simpa using he
  have q' : (k.err != 0) = true := by simpa using he
  have HE := Lib.hid (show k.lifeErr step = k.err by unfold Kd.lifeErr; rw [if_neg he])
  have HV := Lib.hid (show k.lifeV step = (0, 0) by unfold Kd.lifeV; rw [HE.out, if_neg he])
  have P0 := (kdW_new w k A c 26).after ((Below.refl _ _).alloc (Nat.le_refl _) (.cells #[.int .i64 0, .int .i64 0] 34))
  have R0 := prW_new (w.alloc (.cells #[.int .i64 k.new, .int .i64 k.lo, .int .i64 k.hi, .slice A k.st.length c] 26)) 0 0 34
  rw [World.size_alloc] at R0
  clear he
  go_enter Try.func14, Try.ntmps14
  go_wp2_with fail
  refine (rcheck_any k A c _ (P0.kind hk)).mono ?_; rintro e w1 ⟨rfl, hb⟩
  have HB := Lib.hid (P0.after hb).below
  have R1 := R0.next hb
  clear P0 R0 hb
  obtain ⟨⟨x0, r0⟩, ⟨x1, r1⟩, f0, f1, hlt⟩ := R1
  generalize k.err = r at *
  go_wp2
  refine bodyPost_ret (v := .tuple #[pairV (0, 0), .int .i64 r]) (by simp [results, Try.results14, cFl, go_sem, r0, r1]) rfl ⟨by rw [HE.out, HV.out], ?_⟩
  exact (HB.out.setCell (p := ⟨w.heap.size + 1, 0, none⟩) (by show w.heap.size ≤ w.heap.size + 1; omega) _).setCell (p := ⟨w.heap.size + 1, 1, none⟩) (by show w.heap.size ≤ w.heap.size + 1; omega) _
set_option maxRecDepth 100000 in
set_option maxHeartbeats 4000000 in
theorem rlife_out (k : Kd) (A : Option Addr) (c : Nat) (step : Int) (he : k.err = 0) (hs : ¬ (0 ≤ step ∧ step < k.st.length)) (w : World) (hk : KindAt w A k) : Calls Try.prog 14 #[kdV k A c, .int .i64 step] w (LifeOut w k step) := by
  have HZ := Lib.hid he
  have hl8 := (Kd.ok_of he).len
  have HI := Lib.hid (show inS 0 ((k.st.length : Int) - 1) step = false from inS_not.2 (by omega))
  have HE := Lib.hid (show k.lifeErr step = 4 by unfold Kd.lifeErr; rw [if_pos he, if_neg hs])
  have HV := Lib.hid (show k.lifeV step = (0, 0) by unfold Kd.lifeV; rw [HE.out]; rfl)
  have P0 := (kdW_new w k A c 26).after ((Below.refl _ _).alloc (Nat.le_refl _) (.cells #[.int .i64 0, .int .i64 0] 34))
  have R0 := prW_new (w.alloc (.cells #[.int .i64 k.new, .int .i64 k.lo, .int .i64 k.hi, .slice A k.st.length c] 26)) 0 0 34
  rw [World.size_alloc] at R0
  clear he hs
  go_enter Try.func14, Try.ntmps14
  go_wp2_with fail
  refine (rcheck_any k A c _ (P0.kind hk)).mono ?_; rintro e w1 ⟨rfl, hb⟩
  rw [HZ.out]
  have P1 := P0.after hb
  have HB := Lib.hid P1.below
  have R1 := R0.next hb
  clear P0 R0 hb
  obtain ⟨_, c0, c1, c2, c3, hs⟩ := P1
  obtain ⟨⟨x0, r0⟩, ⟨x1, r1⟩, f0, f1, hlt⟩ := R1
  go_wp2_with fail
  refine (rin_any step 0 ((k.st.length : Int) - 1) _).mono ?_; rintro e w2 ⟨rfl, rfl⟩
  rw [HI.out]
  go_wp2
  refine bodyPost_ret (v := .tuple #[pairV (0, 0), .int .i64 4]) (by simp [results, Try.results14, cFl, go_sem, r0, r1]) rfl ⟨by rw [HE.out, HV.out], ?_⟩
  exact (HB.out.setCell (p := ⟨w.heap.size + 1, 0, none⟩) (by show w.heap.size ≤ w.heap.size + 1; omega) _).setCell (p := ⟨w.heap.size + 1, 1, none⟩) (by show w.heap.size ≤ w.heap.size + 1; omega) _
/-- What stands in the reference's blocks. -/
structure LrW (w : World) (k : Kd) (A : Option Addr) (c : Nat) (b : Nat) (s : Int × Int) (U : World) : Prop where
  kd : KdW w k A c U
  res : PrW (w.heap.size + 1) U
  s0 : U.cell? ⟨b, 0, none⟩ = some (.int .i64 s.1)
  s1 : U.cell? ⟨b, 1, none⟩ = some (.int .i64 s.2)
  g1 : U.frozen? ⟨b, 1, none⟩ = false
  lt : b < U.heap.size
  ge : w.heap.size + 1 < b
theorem LrW.after {w U V : World} {k : Kd} {A : Option Addr} {c b : Nat} {s : Int × Int} (h : LrW w k A c b s U) (hb : Below U.heap.size U V) : LrW w k A c b s V :=
  have hl := h.lt
  ⟨h.kd.after hb, h.res.next hb, (hb.cell (p := ⟨b, 0, none⟩) hl).trans h.s0, (hb.cell (p := ⟨b, 1, none⟩) hl).trans h.s1, (hb.frozen (p := ⟨b, 1, none⟩) hl).trans h.g1, Nat.lt_of_lt_of_le hl hb.size, h.ge⟩
theorem LrW.set {w U : World} {k : Kd} {A : Option Addr} {c b : Nat} {s : Int × Int} (h : LrW w k A c b s U) (y : Int) : LrW w k A c b (s.1, y) (U.setCell ⟨b, 1, none⟩ (.int .i64 y)) :=
  have hg := h.ge
  ⟨h.kd.setFar ⟨b, 1, none⟩ (by show w.heap.size < b; omega) _, h.res.setFar ⟨b, 1, none⟩ (by show w.heap.size + 1 ≠ b; omega) _, by rw [cell_set_ne _ _ _ _ _ (by decide)]; exact h.s0, World.cell?_setCell_same _ _ _ (by rw [h.s1]), by simp [go_sem, h.g1], by simp [go_sem, h.lt], hg⟩

set_option maxRecDepth 100000 in
set_option maxHeartbeats 8000000 in
theorem rlife_last_no (k : Kd) (A : Option Addr) (c i : Nat) (hok : k.Ok) (hi : i < k.st.length) (hnx : ¬ i + 1 < k.st.length) (hg : ¬ (lifeS k i).1 ≤ (lifeS k i).2) (w : World) (hk : KindAt w A k) : Calls Try.prog 14 #[kdV k A c, .int .i64 i] w (LifeOut w k i) := by
    have HK := Lib.hid hk
    have HG := Lib.hid hg
    have HZ := Lib.hid hok.err
    have hnd := (step_zero (hok.steps i hi)).2.1
    have hl8 := hok.len
    have HI := Lib.hid (show inS 0 ((k.st.length : Int) - 1) (i : Int) = true from inS_iff.2 (by omega))
    have HNO := Lib.hid (needOk hok)
    have HE := Lib.hid (show k.lifeErr i = 9 by unfold Kd.lifeErr; rw [if_pos hok.err, if_pos (by omega), Int.toNat_natCast, if_neg hg])
    have HV := Lib.hid (show k.lifeV i = (0, 0) by unfold Kd.lifeV; rw [HE.out]; try rfl)
    have HS := Lib.hid (show ((stG k.st i).2, k.new) = lifeS k i by unfold lifeS; rw [if_neg hnx])
    have q2 : ¬ ((i : Int) + 1 < (k.st.length : Int)) := by omega
    have P0 := (kdW_new w k A c 26).after ((Below.refl _ _).alloc (Nat.le_refl _) (.cells #[.int .i64 0, .int .i64 0] 34))
    have R0 := prW_new (w.alloc (.cells #[.int .i64 k.new, .int .i64 k.lo, .int .i64 k.hi, .slice A k.st.length c] 26)) 0 0 34
    rw [World.size_alloc] at R0
    clear hk hok hnd hg
    go_enter Try.func14, Try.ntmps14
    go_wp2_with fail
    refine (rcheck_any k A c _ (P0.kind HK.out)).mono ?_; rintro e V ⟨rfl, hb⟩
    rw [HZ.out]
    have P1 := P0.after hb
    have R1 := R0.next hb
    clear P0 R0 hb
    have P1' := P1
    obtain ⟨_, c0, c1, c2, c3, hs⟩ := P1'
    go_wp2_with fail
    refine (rin_any (i : Int) 0 ((k.st.length : Int) - 1) _).mono ?_; rintro e w2 ⟨rfl, rfl⟩
    rw [HI.out]
    go_wp2
    obtain ⟨ad, eA, hab, d0, d1⟩ := (P1.kind HK.out).at_.at_ hi
    subst eA
    have hS : w2.cell? ⟨w.heap.size, 0, none⟩ = some (.int .i64 k.new) ∧ w2.cell? ⟨w.heap.size, 3, none⟩ = some (.slice (some ad) k.st.length c) ∧ w2.cell? ⟨(ad.add (i * 2)).block, (ad.add (i * 2)).off + 1, none⟩ = some (.int .i64 (stG k.st i).2) := ⟨c0, c3, d1⟩
    have hSd : w2.drew.cell? ⟨w.heap.size, 0, none⟩ = some (.int .i64 k.new) ∧ w2.drew.cell? ⟨w.heap.size, 3, none⟩ = some (.slice (some ad) k.st.length c) ∧ w2.drew.cell? ⟨(ad.add (i * 2)).block, (ad.add (i * 2)).off + 1, none⟩ = some (.int .i64 (stG k.st i).2) := ⟨c0, c3, d1⟩
    have hSa : ∀ o, (w2.alloc o).drew.cell? ⟨w.heap.size, 0, none⟩ = some (.int .i64 k.new) ∧ (w2.alloc o).drew.cell? ⟨w.heap.size, 3, none⟩ = some (.slice (some ad) k.st.length c) ∧ (w2.alloc o).drew.cell? ⟨(ad.add (i * 2)).block, (ad.add (i * 2)).off + 1, none⟩ = some (.int .i64 (stG k.st i).2) := fun o =>
      have hb : Below w2.heap.size w2 (w2.alloc o) := (Below.refl _ _).alloc (Nat.le_refl _) o
      ⟨(hb.cell (p := ⟨w.heap.size, 0, none⟩) hs).trans c0, (hb.cell (p := ⟨w.heap.size, 3, none⟩) hs).trans c3, (hb.cell (p := ⟨(ad.add (i * 2)).block, (ad.add (i * 2)).off + 1, none⟩) (by show (ad.add (i * 2)).block < _; rw [add_block]; exact hab)).trans d1⟩
    have L1 : LrW w k (some ad) c w2.heap.size ((stG k.st i).2, k.new) ((w2.alloc (.cells #[.int .i64 (stG k.st i).2, .int .i64 k.new] 23)).drew) :=
      ⟨P1.after (((Below.refl _ _).alloc (Nat.le_refl _) _).drew), R1.next (((Below.refl _ _).alloc (Nat.le_refl _) _).drew), by simp [go_sem], by simp [go_sem], by simp [go_sem], by simp [go_sem], R1.lt⟩
    go_region_held3 (fun w' => w'.cell? ⟨w.heap.size, 0, none⟩ = some (.int .i64 k.new) ∧ w'.cell? ⟨w.heap.size, 3, none⟩ = some (.slice (some ad) k.st.length c) ∧ w'.cell? ⟨(ad.add (i * 2)).block, (ad.add (i * 2)).off + 1, none⟩ = some (.int .i64 (stG k.st i).2))
      (first | with_reducible exact hSd | with_reducible exact hSa _ | with_reducible exact hS) (first | fail | fail)
    generalize (w2.alloc (.cells #[.int .i64 (stG k.st i).2, .int .i64 k.new] 23)).drew = Y at *
    have hge := L1.ge
    generalize w2.heap.size = b at *
    clear hS hSd hSa P1 R1 c0 c1 c2 c3 d0 d1 hs hab
    have L5 := L1
    generalize Y = Z at *
    clear L1
    rw [HS.out] at L5
    have hgd := HG.out
    have HB := Lib.hid L5.kd.below
    obtain ⟨⟨x0, r0⟩, ⟨x1, r1⟩, f0, f1, hlt⟩ := L5.res
    obtain ⟨kdw, _, e0, e1, _, _, _⟩ := L5
    obtain ⟨_, c0, c1, c2, c3, hs⟩ := kdw
    have q9 : decide ((lifeS k i).2 < (lifeS k i).1) = true := by simp; omega
    clear hgd
    go_wp2
    refine bodyPost_ret (v := .tuple #[pairV (0, 0), .int .i64 9]) (by simp [results, Try.results14, cFl, go_sem, r0, r1]) rfl ⟨by rw [HE.out, HV.out], ?_⟩
    exact (HB.out.setCell (p := ⟨w.heap.size + 1, 0, none⟩) (by show w.heap.size ≤ w.heap.size + 1; omega) _).setCell (p := ⟨w.heap.size + 1, 1, none⟩) (by show w.heap.size ≤ w.heap.size + 1; omega) _

set_option maxRecDepth 100000 in
set_option maxHeartbeats 8000000 in
theorem rlife_last_ok (k : Kd) (A : Option Addr) (c i : Nat) (hok : k.Ok) (hi : i < k.st.length) (hnx : ¬ i + 1 < k.st.length) (hg : (lifeS k i).1 ≤ (lifeS k i).2) (w : World) (hk : KindAt w A k) : Calls Try.prog 14 #[kdV k A c, .int .i64 i] w (LifeOut w k i) := by
    have HK := Lib.hid hk
    have HG := Lib.hid hg
    have HZ := Lib.hid hok.err
    have hnd := (step_zero (hok.steps i hi)).2.1
    have hl8 := hok.len
    have HI := Lib.hid (show inS 0 ((k.st.length : Int) - 1) (i : Int) = true from inS_iff.2 (by omega))
    have HNO := Lib.hid (needOk hok)
    have HE := Lib.hid (show k.lifeErr i = 0 by unfold Kd.lifeErr; rw [if_pos hok.err, if_pos (by omega), Int.toNat_natCast, if_pos hg])
    have HV := Lib.hid (show k.lifeV i = failV k (lifeS k i) 0 by unfold Kd.lifeV; rw [HE.out, if_pos rfl, Int.toNat_natCast]; try rfl)
    have HS1 := Lib.hid (lifeS_in hnd hok.new hg).1
    have HS2 := Lib.hid (lifeS_in hnd hok.new hg).2
    have HS := Lib.hid (show ((stG k.st i).2, k.new) = lifeS k i by unfold lifeS; rw [if_neg hnx])
    have q2 : ¬ ((i : Int) + 1 < (k.st.length : Int)) := by omega
    have P0 := (kdW_new w k A c 26).after ((Below.refl _ _).alloc (Nat.le_refl _) (.cells #[.int .i64 0, .int .i64 0] 34))
    have R0 := prW_new (w.alloc (.cells #[.int .i64 k.new, .int .i64 k.lo, .int .i64 k.hi, .slice A k.st.length c] 26)) 0 0 34
    rw [World.size_alloc] at R0
    clear hk hok hnd hg
    go_enter Try.func14, Try.ntmps14
    go_wp2_with fail
    refine (rcheck_any k A c _ (P0.kind HK.out)).mono ?_; rintro e V ⟨rfl, hb⟩
    rw [HZ.out]
    have P1 := P0.after hb
    have R1 := R0.next hb
    clear P0 R0 hb
    have P1' := P1
    obtain ⟨_, c0, c1, c2, c3, hs⟩ := P1'
    go_wp2_with fail
    refine (rin_any (i : Int) 0 ((k.st.length : Int) - 1) _).mono ?_; rintro e w2 ⟨rfl, rfl⟩
    rw [HI.out]
    go_wp2
    obtain ⟨ad, eA, hab, d0, d1⟩ := (P1.kind HK.out).at_.at_ hi
    subst eA
    have hS : w2.cell? ⟨w.heap.size, 0, none⟩ = some (.int .i64 k.new) ∧ w2.cell? ⟨w.heap.size, 3, none⟩ = some (.slice (some ad) k.st.length c) ∧ w2.cell? ⟨(ad.add (i * 2)).block, (ad.add (i * 2)).off + 1, none⟩ = some (.int .i64 (stG k.st i).2) := ⟨c0, c3, d1⟩
    have hSd : w2.drew.cell? ⟨w.heap.size, 0, none⟩ = some (.int .i64 k.new) ∧ w2.drew.cell? ⟨w.heap.size, 3, none⟩ = some (.slice (some ad) k.st.length c) ∧ w2.drew.cell? ⟨(ad.add (i * 2)).block, (ad.add (i * 2)).off + 1, none⟩ = some (.int .i64 (stG k.st i).2) := ⟨c0, c3, d1⟩
    have hSa : ∀ o, (w2.alloc o).drew.cell? ⟨w.heap.size, 0, none⟩ = some (.int .i64 k.new) ∧ (w2.alloc o).drew.cell? ⟨w.heap.size, 3, none⟩ = some (.slice (some ad) k.st.length c) ∧ (w2.alloc o).drew.cell? ⟨(ad.add (i * 2)).block, (ad.add (i * 2)).off + 1, none⟩ = some (.int .i64 (stG k.st i).2) := fun o =>
      have hb : Below w2.heap.size w2 (w2.alloc o) := (Below.refl _ _).alloc (Nat.le_refl _) o
      ⟨(hb.cell (p := ⟨w.heap.size, 0, none⟩) hs).trans c0, (hb.cell (p := ⟨w.heap.size, 3, none⟩) hs).trans c3, (hb.cell (p := ⟨(ad.add (i * 2)).block, (ad.add (i * 2)).off + 1, none⟩) (by show (ad.add (i * 2)).block < _; rw [add_block]; exact hab)).trans d1⟩
    have L1 : LrW w k (some ad) c w2.heap.size ((stG k.st i).2, k.new) ((w2.alloc (.cells #[.int .i64 (stG k.st i).2, .int .i64 k.new] 23)).drew) :=
      ⟨P1.after (((Below.refl _ _).alloc (Nat.le_refl _) _).drew), R1.next (((Below.refl _ _).alloc (Nat.le_refl _) _).drew), by simp [go_sem], by simp [go_sem], by simp [go_sem], by simp [go_sem], R1.lt⟩
    go_region_held3 (fun w' => w'.cell? ⟨w.heap.size, 0, none⟩ = some (.int .i64 k.new) ∧ w'.cell? ⟨w.heap.size, 3, none⟩ = some (.slice (some ad) k.st.length c) ∧ w'.cell? ⟨(ad.add (i * 2)).block, (ad.add (i * 2)).off + 1, none⟩ = some (.int .i64 (stG k.st i).2))
      (first | with_reducible exact hSd | with_reducible exact hSa _ | with_reducible exact hS) (first | fail | fail)
    generalize (w2.alloc (.cells #[.int .i64 (stG k.st i).2, .int .i64 k.new] 23)).drew = Y at *
    have hge := L1.ge
    generalize w2.heap.size = b at *
    clear hS hSd hSa P1 R1 c0 c1 c2 c3 d0 d1 hs hab
    have L5 := L1
    generalize Y = Z at *
    clear L1
    rw [HS.out] at L5
    have hgd := HG.out
    have L5' := L5
    obtain ⟨kdw, _, e0, e1, _, _, _⟩ := L5'
    obtain ⟨_, c0, c1, c2, c3, hs⟩ := kdw
    have q9 : decide ((lifeS k i).2 < (lifeS k i).1) = false := by simp; omega
    clear hgd
    go_wp2_with fail
    refine (rfails_any k _ c 0 (lifeS k i) HNO.out HS1.out HS2.out (by omega) _ (L5.kd.kind HK.out)).mono ?_; rintro e w7 ⟨rfl, hb7⟩
    have R7 := L5.res.next hb7
    have HB7 := Lib.hid (L5.kd.after hb7).below
    clear L5 hb7 c0 c1 c2 c3 e0 e1 hs
    obtain ⟨⟨x0, r0⟩, ⟨x1, r1⟩, f0, f1, hlt⟩ := R7
    go_wp2
    refine bodyPost_ret (v := .tuple #[pairV (failV k (lifeS k i) 0), .int .i64 0]) (by simp [results, Try.results14, cFl, go_sem, r0, r1]) rfl ⟨by rw [HE.out, HV.out], ?_⟩
    exact (HB7.out.setCell (p := ⟨w.heap.size + 1, 0, none⟩) (by show w.heap.size ≤ w.heap.size + 1; omega) _).setCell (p := ⟨w.heap.size + 1, 1, none⟩) (by show w.heap.size ≤ w.heap.size + 1; omega) _

set_option maxRecDepth 100000 in
set_option maxHeartbeats 8000000 in
theorem rlife_next_no (k : Kd) (A : Option Addr) (c i : Nat) (hok : k.Ok) (hi : i < k.st.length) (hnx : i + 1 < k.st.length) (hg : ¬ (lifeS k i).1 ≤ (lifeS k i).2) (w : World) (hk : KindAt w A k) : Calls Try.prog 14 #[kdV k A c, .int .i64 i] w (LifeOut w k i) := by
    have HK := Lib.hid hk
    have HG := Lib.hid hg
    have HZ := Lib.hid hok.err
    have hnd := (step_zero (hok.steps i hi)).2.1
    have hl8 := hok.len
    have HI := Lib.hid (show inS 0 ((k.st.length : Int) - 1) (i : Int) = true from inS_iff.2 (by omega))
    have HM := Lib.hid (step_zero (hok.steps (i + 1) hnx)).2.1
    have HNO := Lib.hid (needOk hok)
    have HE := Lib.hid (show k.lifeErr i = 9 by unfold Kd.lifeErr; rw [if_pos hok.err, if_pos (by omega), Int.toNat_natCast, if_neg hg])
    have HV := Lib.hid (show k.lifeV i = (0, 0) by unfold Kd.lifeV; rw [HE.out]; try rfl)
    have q2 : ((i : Int) + 1 < (k.st.length : Int)) := by omega
    have P0 := (kdW_new w k A c 26).after ((Below.refl _ _).alloc (Nat.le_refl _) (.cells #[.int .i64 0, .int .i64 0] 34))
    have R0 := prW_new (w.alloc (.cells #[.int .i64 k.new, .int .i64 k.lo, .int .i64 k.hi, .slice A k.st.length c] 26)) 0 0 34
    rw [World.size_alloc] at R0
    clear hk hok hnd hg
    go_enter Try.func14, Try.ntmps14
    go_wp2_with fail
    refine (rcheck_any k A c _ (P0.kind HK.out)).mono ?_; rintro e V ⟨rfl, hb⟩
    rw [HZ.out]
    have P1 := P0.after hb
    have R1 := R0.next hb
    clear P0 R0 hb
    have P1' := P1
    obtain ⟨_, c0, c1, c2, c3, hs⟩ := P1'
    go_wp2_with fail
    refine (rin_any (i : Int) 0 ((k.st.length : Int) - 1) _).mono ?_; rintro e w2 ⟨rfl, rfl⟩
    rw [HI.out]
    go_wp2
    obtain ⟨ad, eA, hab, d0, d1⟩ := (P1.kind HK.out).at_.at_ hi
    subst eA
    have hS : w2.cell? ⟨w.heap.size, 0, none⟩ = some (.int .i64 k.new) ∧ w2.cell? ⟨w.heap.size, 3, none⟩ = some (.slice (some ad) k.st.length c) ∧ w2.cell? ⟨(ad.add (i * 2)).block, (ad.add (i * 2)).off + 1, none⟩ = some (.int .i64 (stG k.st i).2) := ⟨c0, c3, d1⟩
    have hSd : w2.drew.cell? ⟨w.heap.size, 0, none⟩ = some (.int .i64 k.new) ∧ w2.drew.cell? ⟨w.heap.size, 3, none⟩ = some (.slice (some ad) k.st.length c) ∧ w2.drew.cell? ⟨(ad.add (i * 2)).block, (ad.add (i * 2)).off + 1, none⟩ = some (.int .i64 (stG k.st i).2) := ⟨c0, c3, d1⟩
    have hSa : ∀ o, (w2.alloc o).drew.cell? ⟨w.heap.size, 0, none⟩ = some (.int .i64 k.new) ∧ (w2.alloc o).drew.cell? ⟨w.heap.size, 3, none⟩ = some (.slice (some ad) k.st.length c) ∧ (w2.alloc o).drew.cell? ⟨(ad.add (i * 2)).block, (ad.add (i * 2)).off + 1, none⟩ = some (.int .i64 (stG k.st i).2) := fun o =>
      have hb : Below w2.heap.size w2 (w2.alloc o) := (Below.refl _ _).alloc (Nat.le_refl _) o
      ⟨(hb.cell (p := ⟨w.heap.size, 0, none⟩) hs).trans c0, (hb.cell (p := ⟨w.heap.size, 3, none⟩) hs).trans c3, (hb.cell (p := ⟨(ad.add (i * 2)).block, (ad.add (i * 2)).off + 1, none⟩) (by show (ad.add (i * 2)).block < _; rw [add_block]; exact hab)).trans d1⟩
    have L1 : LrW w k (some ad) c w2.heap.size ((stG k.st i).2, k.new) ((w2.alloc (.cells #[.int .i64 (stG k.st i).2, .int .i64 k.new] 23)).drew) :=
      ⟨P1.after (((Below.refl _ _).alloc (Nat.le_refl _) _).drew), R1.next (((Below.refl _ _).alloc (Nat.le_refl _) _).drew), by simp [go_sem], by simp [go_sem], by simp [go_sem], by simp [go_sem], R1.lt⟩
    go_region_held3 (fun w' => w'.cell? ⟨w.heap.size, 0, none⟩ = some (.int .i64 k.new) ∧ w'.cell? ⟨w.heap.size, 3, none⟩ = some (.slice (some ad) k.st.length c) ∧ w'.cell? ⟨(ad.add (i * 2)).block, (ad.add (i * 2)).off + 1, none⟩ = some (.int .i64 (stG k.st i).2))
      (first | with_reducible exact hSd | with_reducible exact hSa _ | with_reducible exact hS) (first | fail | fail)
    generalize (w2.alloc (.cells #[.int .i64 (stG k.st i).2, .int .i64 k.new] 23)).drew = Y at *
    have hge := L1.ge
    generalize w2.heap.size = b at *
    clear hS hSd hSa P1 R1 c0 c1 c2 c3 d0 d1 hs hab
    have c3 := L1.kd.c3
    go_wp2
    have hcl := L1.kd.c0
    obtain ⟨ad', eA, hab, g0, g1⟩ := (L1.kd.kind HK.out).at_.at_ hnx
    cases eA
    have k0 := cell_regrown L1.kd.c0
    have k3 := cell_regrown L1.kd.c3
    have kd := cell_regrown g1
    have qa : (0 : Int) ≤ (i : Int) + 1 := by omega
    have qt : ((i : Int) + 1).toNat = i + 1 := by omega
    have qw : IntKind.i64.wrap ((i : Int) + 1) = (i : Int) + 1 := by rw [IntKind.wrap_i64]; omega
    have qm : IntKind.i64.wrap ((stG k.st (i + 1)).2 - 1) = (stG k.st (i + 1)).2 - 1 := by have := HM.out; rw [IntKind.wrap_i64]; omega
    have HMM := Lib.hid (show lifeS k i = ((stG k.st i).2, min k.new ((stG k.st (i + 1)).2 - 1)) by unfold lifeS; rw [if_pos hnx])
    generalize hmm : min k.new ((stG k.st (i + 1)).2 - 1) = mm at *
    have hmin : (if (stG k.st (i + 1)).2 - 1 < k.new then (stG k.st (i + 1)).2 - 1 else k.new) = mm := by rw [← hmm]; split <;> omega
    clear g0 g1 hcl c3 hmm
    refine region_below_tail 11 rfl (by kernel_rfl) ?_
    simp only [List.take_succ_cons, List.take_zero, List.drop_succ_cons, List.drop_zero]
    repeat (quiet_step (first | fail | fail))
    refine wpQuiet_nil ?_
    intro _ hw'
    obtain ⟨⟨dq, osq⟩, hw''⟩ := hw'
    subst hw''
    have L4 := L1.after (below_regrown Y dq osq)
    generalize grow (redrawn Y dq) osq = X2 at *
    clear k0 k3 kd L1
    have L5 := L4.set mm
    have HGE := Lib.hid L4.ge
    have HB4 := Lib.hid L4.kd.below
    obtain ⟨kdw, rs, e0, e1, f1, hlt, _⟩ := L4
    clear hmin
    have hgd := HG.out
    have q9 : decide (mm < (stG k.st i).2) = true := by rw [HMM.out] at hgd; simp; simp at hgd; omega
    obtain ⟨⟨x0, r0⟩, ⟨x1, r1⟩, g0, g1, hlt1⟩ := rs
    have hne : b ≠ w.heap.size + 1 := by have := HGE.out; omega
    have hge := HGE.out
    clear hgd kdw L5
    go_wp2
    refine bodyPost_ret (v := .tuple #[pairV (0, 0), .int .i64 9]) (by simp [results, Try.results14, cFl, go_sem, r0, r1, hlt1, hne]) rfl ⟨by rw [HE.out, HV.out], ?_⟩
    exact ((HB4.out.setCell (p := ⟨b, 1, none⟩) (by show w.heap.size ≤ b; omega) _).setCell (p := ⟨w.heap.size + 1, 0, none⟩) (by show w.heap.size ≤ w.heap.size + 1; omega) _).setCell (p := ⟨w.heap.size + 1, 1, none⟩) (by show w.heap.size ≤ w.heap.size + 1; omega) _

set_option maxRecDepth 100000 in
set_option maxHeartbeats 8000000 in
theorem rlife_next_ok (k : Kd) (A : Option Addr) (c i : Nat) (hok : k.Ok) (hi : i < k.st.length) (hnx : i + 1 < k.st.length) (hg : (lifeS k i).1 ≤ (lifeS k i).2) (w : World) (hk : KindAt w A k) : Calls Try.prog 14 #[kdV k A c, .int .i64 i] w (LifeOut w k i) := by
    have HK := Lib.hid hk
    have HG := Lib.hid hg
    have HZ := Lib.hid hok.err
    have hnd := (step_zero (hok.steps i hi)).2.1
    have hl8 := hok.len
    have HI := Lib.hid (show inS 0 ((k.st.length : Int) - 1) (i : Int) = true from inS_iff.2 (by omega))
    have HM := Lib.hid (step_zero (hok.steps (i + 1) hnx)).2.1
    have HNO := Lib.hid (needOk hok)
    have HE := Lib.hid (show k.lifeErr i = 0 by unfold Kd.lifeErr; rw [if_pos hok.err, if_pos (by omega), Int.toNat_natCast, if_pos hg])
    have HV := Lib.hid (show k.lifeV i = failV k (lifeS k i) 0 by unfold Kd.lifeV; rw [HE.out, if_pos rfl, Int.toNat_natCast]; try rfl)
    have HS1 := Lib.hid (lifeS_in hnd hok.new hg).1
    have HS2 := Lib.hid (lifeS_in hnd hok.new hg).2
    have q2 : ((i : Int) + 1 < (k.st.length : Int)) := by omega
    have P0 := (kdW_new w k A c 26).after ((Below.refl _ _).alloc (Nat.le_refl _) (.cells #[.int .i64 0, .int .i64 0] 34))
    have R0 := prW_new (w.alloc (.cells #[.int .i64 k.new, .int .i64 k.lo, .int .i64 k.hi, .slice A k.st.length c] 26)) 0 0 34
    rw [World.size_alloc] at R0
    clear hk hok hnd hg
    go_enter Try.func14, Try.ntmps14
    go_wp2_with fail
    refine (rcheck_any k A c _ (P0.kind HK.out)).mono ?_; rintro e V ⟨rfl, hb⟩
    rw [HZ.out]
    have P1 := P0.after hb
    have R1 := R0.next hb
    clear P0 R0 hb
    have P1' := P1
    obtain ⟨_, c0, c1, c2, c3, hs⟩ := P1'
    go_wp2_with fail
    refine (rin_any (i : Int) 0 ((k.st.length : Int) - 1) _).mono ?_; rintro e w2 ⟨rfl, rfl⟩
    rw [HI.out]
    go_wp2
    obtain ⟨ad, eA, hab, d0, d1⟩ := (P1.kind HK.out).at_.at_ hi
    subst eA
    have hS : w2.cell? ⟨w.heap.size, 0, none⟩ = some (.int .i64 k.new) ∧ w2.cell? ⟨w.heap.size, 3, none⟩ = some (.slice (some ad) k.st.length c) ∧ w2.cell? ⟨(ad.add (i * 2)).block, (ad.add (i * 2)).off + 1, none⟩ = some (.int .i64 (stG k.st i).2) := ⟨c0, c3, d1⟩
    have hSd : w2.drew.cell? ⟨w.heap.size, 0, none⟩ = some (.int .i64 k.new) ∧ w2.drew.cell? ⟨w.heap.size, 3, none⟩ = some (.slice (some ad) k.st.length c) ∧ w2.drew.cell? ⟨(ad.add (i * 2)).block, (ad.add (i * 2)).off + 1, none⟩ = some (.int .i64 (stG k.st i).2) := ⟨c0, c3, d1⟩
    have hSa : ∀ o, (w2.alloc o).drew.cell? ⟨w.heap.size, 0, none⟩ = some (.int .i64 k.new) ∧ (w2.alloc o).drew.cell? ⟨w.heap.size, 3, none⟩ = some (.slice (some ad) k.st.length c) ∧ (w2.alloc o).drew.cell? ⟨(ad.add (i * 2)).block, (ad.add (i * 2)).off + 1, none⟩ = some (.int .i64 (stG k.st i).2) := fun o =>
      have hb : Below w2.heap.size w2 (w2.alloc o) := (Below.refl _ _).alloc (Nat.le_refl _) o
      ⟨(hb.cell (p := ⟨w.heap.size, 0, none⟩) hs).trans c0, (hb.cell (p := ⟨w.heap.size, 3, none⟩) hs).trans c3, (hb.cell (p := ⟨(ad.add (i * 2)).block, (ad.add (i * 2)).off + 1, none⟩) (by show (ad.add (i * 2)).block < _; rw [add_block]; exact hab)).trans d1⟩
    have L1 : LrW w k (some ad) c w2.heap.size ((stG k.st i).2, k.new) ((w2.alloc (.cells #[.int .i64 (stG k.st i).2, .int .i64 k.new] 23)).drew) :=
      ⟨P1.after (((Below.refl _ _).alloc (Nat.le_refl _) _).drew), R1.next (((Below.refl _ _).alloc (Nat.le_refl _) _).drew), by simp [go_sem], by simp [go_sem], by simp [go_sem], by simp [go_sem], R1.lt⟩
    go_region_held3 (fun w' => w'.cell? ⟨w.heap.size, 0, none⟩ = some (.int .i64 k.new) ∧ w'.cell? ⟨w.heap.size, 3, none⟩ = some (.slice (some ad) k.st.length c) ∧ w'.cell? ⟨(ad.add (i * 2)).block, (ad.add (i * 2)).off + 1, none⟩ = some (.int .i64 (stG k.st i).2))
      (first | with_reducible exact hSd | with_reducible exact hSa _ | with_reducible exact hS) (first | fail | fail)
    generalize (w2.alloc (.cells #[.int .i64 (stG k.st i).2, .int .i64 k.new] 23)).drew = Y at *
    have hge := L1.ge
    generalize w2.heap.size = b at *
    clear hS hSd hSa P1 R1 c0 c1 c2 c3 d0 d1 hs hab
    have c3 := L1.kd.c3
    go_wp2
    have hcl := L1.kd.c0
    obtain ⟨ad', eA, hab, g0, g1⟩ := (L1.kd.kind HK.out).at_.at_ hnx
    cases eA
    have k0 := cell_regrown L1.kd.c0
    have k3 := cell_regrown L1.kd.c3
    have kd := cell_regrown g1
    have qa : (0 : Int) ≤ (i : Int) + 1 := by omega
    have qt : ((i : Int) + 1).toNat = i + 1 := by omega
    have qw : IntKind.i64.wrap ((i : Int) + 1) = (i : Int) + 1 := by rw [IntKind.wrap_i64]; omega
    have qm : IntKind.i64.wrap ((stG k.st (i + 1)).2 - 1) = (stG k.st (i + 1)).2 - 1 := by have := HM.out; rw [IntKind.wrap_i64]; omega
    have HMM := Lib.hid (show lifeS k i = ((stG k.st i).2, min k.new ((stG k.st (i + 1)).2 - 1)) by unfold lifeS; rw [if_pos hnx])
    generalize hmm : min k.new ((stG k.st (i + 1)).2 - 1) = mm at *
    have hmin : (if (stG k.st (i + 1)).2 - 1 < k.new then (stG k.st (i + 1)).2 - 1 else k.new) = mm := by rw [← hmm]; split <;> omega
    clear g0 g1 hcl c3 hmm
    refine region_below_tail 11 rfl (by kernel_rfl) ?_
    simp only [List.take_succ_cons, List.take_zero, List.drop_succ_cons, List.drop_zero]
    repeat (quiet_step (first | fail | fail))
    refine wpQuiet_nil ?_
    intro _ hw'
    obtain ⟨⟨dq, osq⟩, hw''⟩ := hw'
    subst hw''
    have L4 := L1.after (below_regrown Y dq osq)
    generalize grow (redrawn Y dq) osq = X2 at *
    clear k0 k3 kd L1
    have L5 := L4.set mm
    have HGE := Lib.hid L4.ge
    have HB4 := Lib.hid L4.kd.below
    obtain ⟨kdw, rs, e0, e1, f1, hlt, _⟩ := L4
    clear hmin
    rw [show (((stG k.st i).2, k.new).1, mm) = lifeS k i from HMM.out.symm] at L5
    have hgd := HG.out
    have q9 : decide (mm < (stG k.st i).2) = false := by rw [HMM.out] at hgd; simp; simp at hgd; omega
    obtain ⟨_, c0, c1, c2, c3, hs⟩ := kdw
    have hne : w.heap.size ≠ b := by have := HGE.out; omega
    clear hgd rs
    go_wp2_with fail
    generalize (X2.setCell ⟨b, 1, none⟩ (.int .i64 mm)) = Z at *
    have RF := rfails_any k _ c 0 (lifeS k i) HNO.out HS1.out HS2.out (by omega) Z (L5.kd.kind HK.out)
    rw [HMM.out] at RF
    refine RF.mono ?_; rintro e w7 ⟨rfl, hb7⟩
    rw [← HMM.out] at *
    have R7 := L5.res.next hb7
    have HB7 := Lib.hid (L5.kd.after hb7).below
    clear L5 hb7 c0 c1 c2 c3 e0 e1 hs RF f1 hlt
    obtain ⟨⟨x0, r0⟩, ⟨x1, r1⟩, f0, f1, hlt⟩ := R7
    go_wp2
    refine bodyPost_ret (v := .tuple #[pairV (failV k (lifeS k i) 0), .int .i64 0]) (by simp [results, Try.results14, cFl, go_sem, r0, r1]) rfl ⟨by rw [HE.out, HV.out], ?_⟩
    exact (HB7.out.setCell (p := ⟨w.heap.size + 1, 0, none⟩) (by show w.heap.size ≤ w.heap.size + 1; omega) _).setCell (p := ⟨w.heap.size + 1, 1, none⟩) (by show w.heap.size ≤ w.heap.size + 1; omega) _

theorem life_any (k : Kd) (A : Option Addr) (c : Nat) (step : Int) (w : World) (hk : KindAt w A k) : Calls Try.prog 13 #[kdV k A c, .int .i64 step] w (LifeOut w k step) := by
  by_cases he : k.err = 0
  · by_cases hs : 0 ≤ step ∧ step < k.st.length
    · obtain ⟨i, rfl⟩ : ∃ i : Nat, step = i := ⟨step.toNat, by omega⟩
      have hi : i < k.st.length := by omega
      by_cases hnx : i + 1 < k.st.length <;> by_cases hg : (lifeS k i).1 ≤ (lifeS k i).2
      · exact life_next_ok k A c i (Kd.ok_of he) hi hnx hg w hk
      · exact life_next_no k A c i (Kd.ok_of he) hi hnx hg w hk
      · exact life_last_ok k A c i (Kd.ok_of he) hi hnx hg w hk
      · exact life_last_no k A c i (Kd.ok_of he) hi hnx hg w hk
    · exact life_out k A c step he hs w hk
  · exact life_err k A c step he w hk
theorem rlife_any (k : Kd) (A : Option Addr) (c : Nat) (step : Int) (w : World) (hk : KindAt w A k) : Calls Try.prog 14 #[kdV k A c, .int .i64 step] w (LifeOut w k step) := by
  by_cases he : k.err = 0
  · by_cases hs : 0 ≤ step ∧ step < k.st.length
    · obtain ⟨i, rfl⟩ : ∃ i : Nat, step = i := ⟨step.toNat, by omega⟩
      have hi : i < k.st.length := by omega
      by_cases hnx : i + 1 < k.st.length <;> by_cases hg : (lifeS k i).1 ≤ (lifeS k i).2
      · exact rlife_next_ok k A c i (Kd.ok_of he) hi hnx hg w hk
      · exact rlife_next_no k A c i (Kd.ok_of he) hi hnx hg w hk
      · exact rlife_last_ok k A c i (Kd.ok_of he) hi hnx hg w hk
      · exact rlife_last_no k A c i (Kd.ok_of he) hi hnx hg w hk
    · exact rlife_out k A c step he hs w hk
  · exact rlife_err k A c step he w hk
end Go.Proofs.Ytgbignkkieoffaa
