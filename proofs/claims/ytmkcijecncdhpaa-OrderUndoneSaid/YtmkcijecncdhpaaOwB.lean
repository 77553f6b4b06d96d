/-
  Begin OF THE PROGRAM, for every list and address. No statement is proved here.
-/
import Derived.Test.YtmkcijecncdhpaaOw16
import Derived.Deep.RegionHeld3
import Derived.Deep.RegionWith
import Derived.Deep.DeepCutAuto
namespace Go.Proofs.Ytmkcijecncdhpaa
open Go.RowKit
set_option linter.unusedVariables false
set_option linter.unusedSimpArgs false

theorem bcell {W w1 : World} (hb : Below W.heap.size W w1) : (∀ b o, b < W.heap.size → w1.cell? ⟨b, o, none⟩ = W.cell? ⟨b, o, none⟩) ∧ (∀ b o, b < W.heap.size → w1.frozen? ⟨b, o, none⟩ = W.frozen? ⟨b, o, none⟩) :=
  ⟨fun b o h => hb.cell (p := ⟨b, o, none⟩) h, fun b o h => hb.frozen (p := ⟨b, o, none⟩) h⟩
theorem wl_here {P : Program} {w : World} {ops : Array Oper} {rest : List Oper} {o : Oper} {a : Act} {Q : Exit → Act → World → Prop} (h : wpList P ops Q (o :: rest) a w) : wpList P ops Q (o :: rest) a w := h
theorem below_undrew {n : Nat} {U X : World} (h : Below n U.drew X) : Below n U X := ⟨h.os, h.tape, h.output, h.size, h.block⟩
theorem below_lt {W w1 : World} (hb : Below W.heap.size W w1) : ∀ b, b < W.heap.size → b < w1.heap.size := fun b h => Nat.lt_of_lt_of_le h hb.size
theorem begP_new (w : World) (st : Int) : BegP w ((w.alloc zeroC).alloc (.cells #[.int .i64 st] 3)) :=
  ⟨by go_grown, (StAt.new w _ _ _ _ _ _ _ _ _).alloc (by simp) _, fun j => by simp [go_sem], by simp only [World.size_alloc]; omega⟩
theorem pad_row (z : List Int) (h : z.length ≤ 128) : z.map (Value.int .i64) ++ zeroL.drop z.length = (padL z).map (Value.int .i64) := by
  unfold padL zeroL
  rw [List.map_append, List.map_replicate, List.drop_replicate]

theorem int_size : (Try.prog.info? 3).map (·.size) = some 1 := by kernel_rfl
theorem bfroz {U V : World} {b : Nat} (h : V.heap[b]? = U.heap[b]?) (j : Nat) : V.frozen? ⟨b, j, none⟩ = U.frozen? ⟨b, j, none⟩ := World.frozen?_of_block h
set_option maxRecDepth 100000 in
set_option maxHeartbeats 8000000 in
theorem begin_ok (A0 A1 : Option Addr) (n0 n1 : Nat) (z0 z1 : List Int) (st : Int) (l0 : z0.length ≤ 128) (l1 : z1.length ≤ 200) (q0 : z0.all (inB 16777215) = true) (q1 : z1.all (inB 16777215) = true) (hs : 0 ≤ st ∧ st ≤ 127) (w : World)
    (i0 : IntsAt w w.heap.size A0 z0) (i1 : IntsAt w w.heap.size A1 z1) :
    Calls Try.prog 17 #[.slice A0 z0.length n0, .slice A1 z1.length n1, .int .i64 st] w (BeginOk w z0 z1 st) := by
  have K0 := areWords_any A0 n0 z0 (by unfold maxLen; omega) w.heap.size
  rw [q0] at K0
  have K1 := areWords_any A1 n1 z1 (by unfold maxLen; omega) w.heap.size
  rw [q1] at K1
  have K2 := areAddr_1 st
  rw [inB_t hs] at K2
  have H0 := Lib.hid K0
  have H1 := Lib.hid K1
  have H2 := Lib.hid K2
  have HC := Lib.hid (clone_any A1 n1 z1 (by omega))
  have e0 : ¬ (128 : Int) < z0.length := by omega
  have e1 : ¬ (200 : Int) < z1.length := by omega
  clear K0 K1 K2 q0 q1
  go_enter Try.func17, Try.ntmps17
  go_wp2_with fail
  refine (H0.out _ (i0.below (by go_grown))).mono ?_; rintro e w' ⟨rfl, rfl⟩
  go_wp2_with fail
  refine (H1.out _ (i1.below (by go_grown))).mono ?_; rintro e w' ⟨rfl, rfl⟩
  go_wp2_with fail
  refine (H2.out _ _ _ _ (by simp [go_sem])).mono ?_; rintro e w' ⟨rfl, rfl⟩
  go_upto_region 5 with fail
  have hmk := make128
  have P0 := begP_new w st
  have hs0 : ((w.alloc zeroC).alloc (.cells #[.int .i64 st] 3)).heap.size = w.heap.size + 1 + 1 := by simp
  have HP := Lib.hid P0
  have HS := Lib.hid hs0
  clear P0 hs0
  go_cut [8] (fun s8 wx => ∃ b g A c, s8 = .pointer (some ⟨b, 0, none⟩) ∧ BegW w b g A c z1 st wx)
  case first J K hJ hK =>
    go_region_with (first
      | (go_at_call 42; refine (HC.out _ ?_).mono ?_; (exact (i1.below (by go_grown)).more (by simp <;> omega)); rintro e X ⟨A2, c2, rfl, hc2, hnew, hi2, hbX⟩; obtain ⟨qcX, qfX⟩ := bcell hbX; have hlX := below_lt hbX)
      | (go_at_call 43; refine (placeOf_any st _).mono ?_; rintro e X2 ⟨rfl, rfl⟩))
    all_goals (refine hK _ _ (Met.intro (hJ _ _ ?_)); (repeat apply Exists.intro); refine ⟨?_, rfl⟩)
    · exact ⟨_, _, _, _, rfl, beg1 (X := X2) HP.out HS.out (fun ad e => (hnew ad e).1) hi2 (below_undrew hbX)⟩
    · exact ⟨_, _, _, _, rfl, beg1 (X := X) HP.out HS.out (fun ad e => (hnew ad e).1) hi2 (below_undrew hbX)⟩
    · exact ⟨_, _, _, _, rfl, beg2 (X := X2) HP.out HS.out (fun ad e => (hnew ad e).1) hi2 (below_undrew hbX)⟩
    · exact ⟨_, _, _, _, rfl, beg3 (X := X) HP.out HS.out (fun ad e => (hnew ad e).1) hi2 (fun ad e _ => (hnew ad e).2) (below_undrew hbX) (fun ad e => (hnew ad e).2)⟩
    · exact ⟨_, _, _, _, rfl, beg3 (X := X) HP.out HS.out (fun ad e => (hnew ad e).1) hi2 (fun ad e _ => (hnew ad e).2) (below_undrew hbX) (fun ad e => (hnew ad e).2)⟩
    · exact ⟨_, _, _, _, rfl, beg3 (X := X2) HP.out HS.out (fun ad e => (hnew ad e).1) hi2 (fun ad e _ => (hnew ad e).2) (below_undrew hbX) (fun ad e => (hnew ad e).2)⟩
    · exact ⟨_, _, _, _, rfl, beg4 (X := X2) HP.out HS.out (fun ad e => (hnew ad e).1) hi2 (below_undrew hbX) (fun ad e => (hnew ad e).2)⟩
    · exact ⟨_, _, _, _, rfl, beg4 (X := X) HP.out HS.out (fun ad e => (hnew ad e).1) hi2 (below_undrew hbX) (fun ad e => (hnew ad e).2)⟩
    · exact ⟨_, _, _, _, rfl, beg4 (X := X) HP.out HS.out (fun ad e => (hnew ad e).1) hi2 (below_undrew hbX) (fun ad e => (hnew ad e).2)⟩
    · exact ⟨_, _, _, _, rfl, beg5 (X := X2) HP.out HS.out (fun ad e => (hnew ad e).1) hi2 (below_undrew hbX)⟩
    · exact ⟨_, _, _, _, rfl, beg6 (X := X) HP.out HS.out (fun ad e => (hnew ad e).1) hi2 (below_undrew hbX) (fun ad e => (hnew ad e).2)⟩
    · exact ⟨_, _, _, _, rfl, beg6 (X := X2) HP.out HS.out (fun ad e => (hnew ad e).1) hi2 (below_undrew hbX) (fun ad e => (hnew ad e).2)⟩
  case rest =>
    obtain ⟨b, g, A, c, rfl, P⟩ := hcut
    have HW := Lib.hid P
    obtain ⟨c0, c1, c2, c3, c4, c5, c6, c7⟩ := P.s
    clear P
    have hi0 := Lib.hid (i0.below HW.out.p.below)
    go_wp2_with (with_reducible (refine wl_here ?_); refine wp_copy_ints rfl _ _ 22 22 rfl 3 Try.underlying22 int_size g 128 128 zeroL 3 HW.out.row (by unfold zeroL; simp only [List.length_replicate]) A0 z0 n0 w.heap.size rfl rfl hi0.out l0 ?_)
    intro w2 hrow2 honly
    rw [pad_row z0 l0] at hrow2
    have S2 := HW.out.s.only honly HW.out.hbg
    have hne : w.heap.size ≠ g := by have := HW.out.hg; omega
    have R2 := HW.out.p.res.only honly hne
    have F2 : ∀ j, w2.frozen? ⟨w.heap.size, j, none⟩ = false := fun j => ((bfroz (honly.block w.heap.size hne)) j).trans (HW.out.p.fr j)
    have I2 : IntsAt w2 w2.heap.size A z1 := by rw [honly.size]; exact HW.out.i1.only honly (fun ad e => (HW.out.hA ad e).1)
    have B2 : Below w.heap.size w w2 := HW.out.p.below.trans (below_lower (by have := HW.out.hg; omega) honly.below)
    have L2 : w.heap.size < w2.heap.size := by have := HW.out.p.lt; rw [honly.size]; exact this
    have hrow3 := Lib.hid (hrow2.setSt (b := w.heap.size) (v0 := .slice (some ⟨g, 0, none⟩) 128 128) (v1 := .slice A z1.length c) (v3 := .slice none 0 0) (a2 := 0) (a4 := st % 16) (a5 := st) (a6 := 0) (a7 := 0) (by omega))
    have hlist := Lib.hid (I2.setSt (b := w.heap.size) (v0 := .slice (some ⟨g, 0, none⟩) 128 128) (v1 := .slice A z1.length c) (v3 := .slice none 0 0) (a2 := 0) (a4 := st % 16) (a5 := st) (a6 := 0) (a7 := 0) (fun ad e => by have := (HW.out.hA ad e).2; omega))
    have hstate := R2.put (v0 := .slice (some ⟨g, 0, none⟩) 128 128) (v1 := .slice A z1.length c) (v3 := .slice none 0 0) (a2 := 0) (a4 := st % 16) (a5 := st) (a6 := 0) (a7 := 0)
    have hbelow := Lib.hid (B2.trans (setSt_below (U := w2) (b := w.heap.size) (v0 := .slice (some ⟨g, 0, none⟩) 128 128) (v1 := .slice A z1.length c) (v3 := .slice none 0 0) (a2 := 0) (a4 := st % 16) (a5 := st) (a6 := 0) (a7 := 0) (Nat.le_refl _)))
    have HST := Lib.hid hstate
    clear c0 c1 c2 c3 c4 c5 c6 c7 hstate hrow2 honly I2 B2
    obtain ⟨c0, c1, c2, c3, c4, c5, c6, c7⟩ := S2
    obtain ⟨d0, d1, d2, d3, d4, d5, d6, d7⟩ := R2
    go_wp2
    obtain ⟨f0, f1, f2, f3, f4, f5, f6, f7⟩ := HST.out
    unfold setSt at f0 f1 f2 f3 f4 f5 f6 f7
    refine bodyPost_ret (v := .tuple #[.agg #[.slice (some ⟨g, 0, none⟩) 128 128, .slice A z1.length c, .int .i64 0, .slice none 0 0, .int .i64 (st % 16), .int .i64 st, .int .i64 0, .int .i64 0], .int .i64 0]) (by simp [results, Try.results17, go_sem, f0, f1, f2, f3, f4, f5, f6, f7]) rfl ⟨some ⟨g, 0, none⟩, 128, A, c, rfl, ?_, ?_, hbelow.out⟩
    · have h1 := ListAt.row (f := Value.int .i64) hrow3.out
      exact h1
    · have h1 := hlist.out
      rw [← setSt_size (U := w2) (b := w.heap.size) (v0 := .slice (some ⟨g, 0, none⟩) 128 128) (v1 := .slice A z1.length c) (v3 := .slice none 0 0) (a2 := 0) (a4 := st % 16) (a5 := st) (a6 := 0) (a7 := 0)] at h1
      exact h1
end Go.Proofs.Ytmkcijecncdhpaa
namespace Go.Proofs.Ytmkcijecncdhpaa
open Go.RowKit
set_option linter.unusedVariables false
set_option linter.unusedSimpArgs false

/-- Begin refuses. -/
def BeginNo (w : World) (k : Int) (e : Ending) (w' : World) : Prop :=
  e = .returned (.tuple #[zeroV, .int .i64 k]) ∧ Below w.heap.size w w'
/-- Both lists and the start are good. -/
def begGood (z0 z1 : List Int) (st : Int) : Bool := z0.all (inB 16777215) && z1.all (inB 16777215) && inB 127 st
set_option maxHeartbeats 2000000 in
theorem begin_long0 (A0 A1 : Option Addr) (n0 n1 : Nat) (z0 z1 : List Int) (st : Int) (l0 : z0.length ≤ maxLen) (l1 : z1.length ≤ maxLen) (h : 128 < z0.length) (w : World) :
    Calls Try.prog 17 #[.slice A0 z0.length n0, .slice A1 z1.length n1, .int .i64 st] w (BeginNo w 3) := by
  unfold maxLen at l0 l1
  have e0 : (128 : Int) < z0.length := by omega
  go_enter Try.func17, Try.ntmps17
  go_wp2
  refine bodyPost_ret (v := .tuple #[zeroV, .int .i64 3]) (by simp [results, Try.results17, go_sem]) rfl ⟨rfl, by go_grown⟩
set_option maxHeartbeats 2000000 in
theorem begin_long1 (A0 A1 : Option Addr) (n0 n1 : Nat) (z0 z1 : List Int) (st : Int) (l1 : z1.length ≤ maxLen) (h0 : z0.length ≤ 128) (h : 200 < z1.length) (w : World) :
    Calls Try.prog 17 #[.slice A0 z0.length n0, .slice A1 z1.length n1, .int .i64 st] w (BeginNo w 3) := by
  unfold maxLen at l1
  have e0 : ¬ (128 : Int) < z0.length := by omega
  have e1 : (200 : Int) < z1.length := by omega
  go_enter Try.func17, Try.ntmps17
  go_wp2
  refine bodyPost_ret (v := .tuple #[zeroV, .int .i64 3]) (by simp [results, Try.results17, go_sem]) rfl ⟨rfl, by go_grown⟩
set_option maxHeartbeats 2000000 in
theorem rbegin_long0 (A0 A1 : Option Addr) (n0 n1 : Nat) (z0 z1 : List Int) (st : Int) (l0 : z0.length ≤ maxLen) (l1 : z1.length ≤ maxLen) (h : 128 < z0.length) (w : World) :
    Calls Try.prog 34 #[.slice A0 z0.length n0, .slice A1 z1.length n1, .int .i64 st] w (BeginNo w 3) := by
  unfold maxLen at l0 l1
  have e0 : (128 : Int) < z0.length := by omega
  go_enter Try.func34, Try.ntmps34
  go_wp2
  refine bodyPost_ret (v := .tuple #[zeroV, .int .i64 3]) (by simp [results, Try.results34, go_sem]) rfl ⟨rfl, by go_grown⟩
set_option maxHeartbeats 2000000 in
theorem rbegin_long1 (A0 A1 : Option Addr) (n0 n1 : Nat) (z0 z1 : List Int) (st : Int) (l1 : z1.length ≤ maxLen) (h0 : z0.length ≤ 128) (h : 200 < z1.length) (w : World) :
    Calls Try.prog 34 #[.slice A0 z0.length n0, .slice A1 z1.length n1, .int .i64 st] w (BeginNo w 3) := by
  unfold maxLen at l1
  have e0 : ¬ (128 : Int) < z0.length := by omega
  have e1 : (200 : Int) < z1.length := by omega
  go_enter Try.func34, Try.ntmps34
  go_wp2
  refine bodyPost_ret (v := .tuple #[zeroV, .int .i64 3]) (by simp [results, Try.results34, go_sem]) rfl ⟨rfl, by go_grown⟩
theorem no_in {g x : Int} (h : inB g x = false) : inB g x = false := h
set_option maxHeartbeats 4000000 in
theorem begin_bad (A0 A1 : Option Addr) (n0 n1 : Nat) (z0 z1 : List Int) (st : Int) (l0 : z0.length ≤ 128) (l1 : z1.length ≤ 200) (q : begGood z0 z1 st = false) (w : World)
    (i0 : IntsAt w w.heap.size A0 z0) (i1 : IntsAt w w.heap.size A1 z1) :
    Calls Try.prog 17 #[.slice A0 z0.length n0, .slice A1 z1.length n1, .int .i64 st] w (BeginNo w 7) := by
  have H0 := Lib.hid (areWords_any A0 n0 z0 (by unfold maxLen; omega) w.heap.size)
  have H1 := Lib.hid (areWords_any A1 n1 z1 (by unfold maxLen; omega) w.heap.size)
  have H2 := Lib.hid (areAddr_1 st)
  have e0 : ¬ (128 : Int) < z0.length := by omega
  have e1 : ¬ (200 : Int) < z1.length := by omega
  have Q := Lib.hid q
  clear q
  by_cases b0 : z0.all (inB 16777215) = true
  · by_cases b1 : z1.all (inB 16777215) = true
    · have b2 : inB 127 st = false := by have := Q.out; unfold begGood at this; rw [b0, b1] at this; simpa using this
      rw [b0] at H0; rw [b1] at H1; rw [b2] at H2
      clear b0 b1 b2 Q
      go_enter Try.func17, Try.ntmps17
      go_wp2_with fail
      refine (H0.out _ (i0.below (by go_grown))).mono ?_; rintro e w' ⟨rfl, rfl⟩
      go_wp2_with fail
      refine (H1.out _ (i1.below (by go_grown))).mono ?_; rintro e w' ⟨rfl, rfl⟩
      go_wp2_with fail
      refine (H2.out _ _ _ _ (by simp [go_sem])).mono ?_; rintro e w' ⟨rfl, rfl⟩
      go_wp2
      refine bodyPost_ret (v := .tuple #[zeroV, .int .i64 7]) (by simp [results, Try.results17, go_sem]) rfl ⟨rfl, by go_grown⟩
    · rw [Bool.not_eq_true] at b1
      rw [b0] at H0; rw [b1] at H1
      clear b0 b1 Q H2
      go_enter Try.func17, Try.ntmps17
      go_wp2_with fail
      refine (H0.out _ (i0.below (by go_grown))).mono ?_; rintro e w' ⟨rfl, rfl⟩
      go_wp2_with fail
      refine (H1.out _ (i1.below (by go_grown))).mono ?_; rintro e w' ⟨rfl, rfl⟩
      go_wp2
      refine bodyPost_ret (v := .tuple #[zeroV, .int .i64 7]) (by simp [results, Try.results17, go_sem]) rfl ⟨rfl, by go_grown⟩
  · rw [Bool.not_eq_true] at b0
    rw [b0] at H0
    clear b0 Q H2 H1
    go_enter Try.func17, Try.ntmps17
    go_wp2_with fail
    refine (H0.out _ (i0.below (by go_grown))).mono ?_; rintro e w' ⟨rfl, rfl⟩
    go_wp2
    refine bodyPost_ret (v := .tuple #[zeroV, .int .i64 7]) (by simp [results, Try.results17, go_sem]) rfl ⟨rfl, by go_grown⟩
end Go.Proofs.Ytmkcijecncdhpaa
