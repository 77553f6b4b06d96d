/-
  CONTRACT OF the reference's Begin where all is well. No statement is proved here.
-/
import Derived.Test.YtmkcijecncdhpaaOw20
namespace Go.Proofs.Ytmkcijecncdhpaa
open Go.RowKit
set_option linter.unusedVariables false
set_option linter.unusedSimpArgs false

theorem butcell {k : Nat} {V X : World} (h : But k V X) : (∀ b o, b < k → b < V.heap.size → X.cell? ⟨b, o, none⟩ = V.cell? ⟨b, o, none⟩) ∧ (∀ b o, k < b → b < V.heap.size → X.cell? ⟨b, o, none⟩ = V.cell? ⟨b, o, none⟩) ∧ (∀ b o, b < k → b < V.heap.size → X.frozen? ⟨b, o, none⟩ = V.frozen? ⟨b, o, none⟩) ∧ (∀ b o, k < b → b < V.heap.size → X.frozen? ⟨b, o, none⟩ = V.frozen? ⟨b, o, none⟩) :=
  ⟨fun b o h2 h1 => World.cell?_of_block (a := ⟨b, o, none⟩) (h.block b h1 (by omega)), fun b o h2 h1 => World.cell?_of_block (a := ⟨b, o, none⟩) (h.block b h1 (by omega)), fun b o h2 h1 => World.frozen?_of_block (a := ⟨b, o, none⟩) (h.block b h1 (by omega)), fun b o h2 h1 => World.frozen?_of_block (a := ⟨b, o, none⟩) (h.block b h1 (by omega))⟩
theorem but_lt {k : Nat} {V X : World} (h : But k V X) : ∀ b, b < V.heap.size → b < X.heap.size := fun b hb => Nat.lt_of_lt_of_le hb h.size
theorem AppNew.undrew {k : Nat} {V X : World} {zs : List Int} {A : Option Addr} (h : AppNew k V.drew zs A X) : AppNew k V zs A X := ⟨h.new, h.i1, h.but.undrew⟩
theorem BegP.alloc {w U : World} (h : BegP w U) (o : Obj) : BegP w (U.alloc o) := h.keep (below_lower (by have := h.lt; omega) (alloc_below U o))
theorem row_z {U : World} {k : Nat} (h : U.heap.size = k) : RowIs (U.alloc rowC) k 3 zeroL := h ▸ row_zero U
theorem st_z {U : World} {k : Nat} (h : U.heap.size = k) : StAt (U.alloc zeroC) k (.slice none 0 0) (.slice none 0 0) (.slice none 0 0) 0 0 0 0 0 := h ▸ StAt.new U _ _ _ _ _ _ _ _ _
theorem row_at {U : World} {k : Nat} (h : U.heap.size = k) : RowIs (U.alloc (.cells #[] 3)) k 3 [] := h ▸ RowIs.new U 3 []
theorem row_drew {U : World} {k : Nat} {e : TypeId} {xs : List Value} (h : RowIs U k e xs) : RowIs U.drew k e xs := h
theorem rbegP_new (w : World) : BegP w (w.alloc zeroC) :=
  ⟨by go_grown, StAt.new w _ _ _ _ _ _ _ _ _, fun j => by simp [go_sem], by simp⟩
/-- The first k numbers are copied. -/
def putL (z : List Int) (k : Nat) : List Value := (z.take k).map (Value.int .i64) ++ zeroL.drop k
theorem zeroL_drop {k : Nat} (h : k < 128) : zeroL.drop k = .int .i64 0 :: zeroL.drop (k + 1) := by
  rw [List.drop_eq_getElem_cons (by unfold zeroL; rw [List.length_replicate]; exact h)]
  congr 1
  unfold zeroL
  rw [List.getElem_replicate]
theorem putL_zero (z : List Int) : putL z 0 = zeroL := by unfold putL; simp
theorem putL_all {z : List Int} (h : z.length ≤ 128) : putL z z.length = (padL z).map (Value.int .i64) := by
  unfold putL
  rw [List.take_length]
  exact pad_row z h
theorem putL_set {z : List Int} {k : Nat} (h : k < z.length) (hl : z.length ≤ 128) : (putL z k).set k (.int .i64 z[k]) = putL z (k + 1) := by
  have hn : ((z.take k).map (Value.int .i64)).length = k := by rw [List.length_map, List.length_take]; omega
  unfold putL
  rw [zeroL_drop (by omega), List.set_append_right _ _ (by omega), hn, Nat.sub_self, List.set_cons_zero, List.take_succ_eq_append_getElem h, List.map_append, List.append_assoc]
  rfl
theorem putL_at {z : List Int} {k : Nat} (h : k < z.length) (hl : z.length ≤ 128) : (putL z k)[k]? = some (.int .i64 0) := by
  have hn : ((z.take k).map (Value.int .i64)).length = k := by rw [List.length_map, List.length_take]; omega
  unfold putL
  rw [zeroL_drop (by omega), List.getElem?_append_right (by omega), hn, Nat.sub_self]
  rfl
theorem OnlyRow.drew {g : Nat} {U V : World} (h : OnlyRow g U V) : OnlyRow g U V.drew := ⟨h.below.drew, h.size, h.block⟩
theorem OnlyRow.set {g : Nat} {U V : World} (h : OnlyRow g U V) (j : Nat) (u : Value) : OnlyRow g U (V.setCell ⟨g, j, none⟩ u) :=
  ⟨h.below.setCell (p := ⟨g, j, none⟩) (Nat.le_refl _) u, by rw [← h.size]; simp [World.setCell], fun k hk => (Below.heap_setCell V ⟨g, j, none⟩ u k hk).trans (h.block k hk)⟩
set_option maxRecDepth 100000 in
set_option maxHeartbeats 8000000 in
theorem rbegin_ok (A0 A1 : Option Addr) (n0 n1 : Nat) (z0 z1 : List Int) (st : Int) (l0 : z0.length ≤ 128) (l1 : z1.length ≤ 200) (q0 : z0.all (inB 16777215) = true) (q1 : z1.all (inB 16777215) = true) (hs : 0 ≤ st ∧ st ≤ 127) (w : World)
    (i0 : IntsAt w w.heap.size A0 z0) (i1 : IntsAt w w.heap.size A1 z1) :
    Calls Try.prog 34 #[.slice A0 z0.length n0, .slice A1 z1.length n1, .int .i64 st] w (BeginOk w z0 z1 st) := by
  have K0 := rodd_any A0 n0 z0 (by unfold maxLen; omega) w.heap.size
  rw [oddI_none q0] at K0
  have K1 := rodd_any A1 n1 z1 (by unfold maxLen; omega) w.heap.size
  rw [oddI_none q1] at K1
  have K2 := raddr_any st
  rw [inB_t hs] at K2
  have H0 := Lib.hid K0
  have H1 := Lib.hid K1
  have H2 := Lib.hid K2
  have e0 : ¬ (128 : Int) < z0.length := by omega
  have e1 : ¬ (200 : Int) < z1.length := by omega
  have hmod : st.tmod 16 = st % 16 := Int.tmod_eq_emod_of_nonneg hs.1
  clear K0 K1 K2 q0 q1
  go_enter Try.func34, Try.ntmps34
  go_wp2_with fail
  refine (H0.out _ (i0.below (by go_grown))).mono ?_; rintro e w' ⟨rfl, rfl⟩
  go_wp2_with fail
  refine (H1.out _ (i1.below (by go_grown))).mono ?_; rintro e w' ⟨rfl, rfl⟩
  go_wp2_with fail
  refine (H2.out _).mono ?_; rintro e w' ⟨rfl, rfl⟩
  go_upto_region 5 with fail
  have hmk := make128
  have HP := Lib.hid (rbegP_new w)
  go_cut [8] (fun s8 wx => ∃ b g A c, s8 = .pointer (some ⟨b, 0, none⟩) ∧ BegW w b g A c z1 st wx)
  case first J K hJ hK =>
    go_region_law (refine step_app_new (by rfl) (.tmp 34) (.tmp 35) (by rfl) _ (by rfl) (by (try refine row_drew ?_); first | exact row_at (by simp) | exact (row_at (by simp)).alloc _ | exact ((row_at (by simp)).alloc _).alloc _) (by simp <;> omega) A1 n1 z1 (by rfl) (by omega) w.heap.size (i1.below (by go_grown)) ?_; intro A2 c2 X hX; have hlX := but_lt hX.but; obtain ⟨qcX, qdX, qfX, qgX⟩ := butcell hX.but)
    all_goals (refine hK _ _ (Met.intro (hJ _ _ ?_)); (repeat apply Exists.intro); refine ⟨?_, rfl⟩)
    · exact ⟨_, _, _, _, rfl, app1 ((HP.out.alloc _).alloc _) (by omega) ((row_z (by simp)).alloc _) (by omega) (by simp only [World.size_alloc]; omega) (by omega) hX.undrew⟩
    · exact ⟨_, _, _, _, rfl, app2 (((HP.out.alloc _).alloc _).alloc _) (by omega) (((row_z (by simp)).alloc _).alloc _) (by omega) (by simp only [World.size_alloc]; omega) (by omega) (st_z (by simp)) (by omega) (by simp only [World.size_alloc]; omega) (by omega) (by omega) hX.undrew⟩
    · exact ⟨_, _, _, _, rfl, app2 (((HP.out.alloc _).alloc _).alloc _) (by omega) (((row_z (by simp)).alloc _).alloc _) (by omega) (by simp only [World.size_alloc]; omega) (by omega) ((st_z (by simp)).alloc (by simp only [World.size_alloc]; omega) _) (by omega) (by simp only [World.size_alloc]; omega) (by omega) (by omega) hX.undrew⟩
    · exact ⟨_, _, _, _, rfl, app1 ((HP.out.alloc _).alloc _) (by omega) (row_z (by simp)) (by omega) (by simp only [World.size_alloc]; omega) (by omega) hX.undrew⟩
    · exact ⟨_, _, _, _, rfl, app2 (((HP.out.alloc _).alloc _).alloc _) (by omega) ((row_z (by simp)).alloc _) (by omega) (by simp only [World.size_alloc]; omega) (by omega) (st_z (by simp)) (by omega) (by simp only [World.size_alloc]; omega) (by omega) (by omega) hX.undrew⟩
    · exact ⟨_, _, _, _, rfl, app3 (HP.out.alloc _) (by omega) (by simp only [World.size_alloc]; omega) hX.undrew⟩
    · exact ⟨_, _, _, _, rfl, app4 (HP.out.alloc _) (by omega) (by simp only [World.size_alloc]; omega) hX.undrew⟩
    · exact ⟨_, _, _, _, rfl, app2 (((HP.out.alloc _).alloc _).alloc _) (by omega) (row_z (by simp)) (by omega) (by simp only [World.size_alloc]; omega) (by omega) ((st_z (by simp)).alloc (by simp only [World.size_alloc]; omega) _) (by omega) (by simp only [World.size_alloc]; omega) (by omega) (by omega) hX.undrew⟩
    · exact ⟨_, _, _, _, rfl, app5 ((HP.out.alloc _).alloc _) (by omega) (by simp only [World.size_alloc]; omega) (st_z (by simp)) (by omega) (by simp only [World.size_alloc]; omega) (by omega) hX.undrew⟩
    · exact ⟨_, _, _, _, rfl, app2 (((HP.out.alloc _).alloc _).alloc _) (by omega) ((row_z (by simp)).alloc _) (by omega) (by simp only [World.size_alloc]; omega) (by omega) (((st_z (by simp)).alloc (by simp only [World.size_alloc]; omega) _).alloc (by simp only [World.size_alloc]; omega) _) (by omega) (by simp only [World.size_alloc]; omega) (by omega) (by omega) hX.undrew⟩
    · exact ⟨_, _, _, _, rfl, app2 (((HP.out.alloc _).alloc _).alloc _) (by omega) (row_z (by simp)) (by omega) (by simp only [World.size_alloc]; omega) (by omega) (((st_z (by simp)).alloc (by simp only [World.size_alloc]; omega) _).alloc (by simp only [World.size_alloc]; omega) _) (by omega) (by simp only [World.size_alloc]; omega) (by omega) (by omega) hX.undrew⟩
    · exact ⟨_, _, _, _, rfl, app5 ((HP.out.alloc _).alloc _) (by omega) (by simp only [World.size_alloc]; omega) ((st_z (by simp)).alloc (by simp only [World.size_alloc]; omega) _) (by omega) (by simp only [World.size_alloc]; omega) (by omega) hX.undrew⟩
  case rest =>
    obtain ⟨b, g, A, c, rfl, P⟩ := hcut
    have HW := Lib.hid P
    clear P
    have hi0 := Lib.hid (i0.below HW.out.p.below)
    have hne : w.heap.size ≠ g := by have := HW.out.hg; omega
    go_wp2_with fail
    go_loopw [9] (fun i wr => ∃ k : Nat, k ≤ z0.length ∧ i = .int .i64 k ∧ RowIs wr g 3 (putL z0 k) ∧ OnlyRow g wc wr) (fun i _ => z0.length - (intOf i).toNat)
    case atStart => exact ⟨0, Nat.zero_le _, rfl, by rw [putL_zero]; exact HW.out.row, OnlyRow.refl _ _⟩
    case round =>
      obtain ⟨k, hk, rfl, hrow, ho⟩ := hrel
      have HR := Lib.hid hrow
      have HO := Lib.hid ho
      by_cases hlt : k < z0.length
      · obtain ⟨ad, rfl, hlb, hc⟩ := hi0.out.at_ hlt
        have hc1 := (World.cell?_of_block (a := ad.add k) (ho.block _ (by rw [add_block]; have := HW.out.hg; omega))).trans hc
        have hc2 := (ho.cell (p := ⟨b, 0, none⟩) HW.out.hbg).trans HW.out.s.c0
        have hc3 := (hrow.cell k).trans (putL_at hlt l0)
        have hf3 := hrow.frozen k
        have HS := Lib.hid (putL_set hlt l0)
        clear hrow ho hc
        generalize z0[k] = x at *
        have hk1 : (k : Int) < 128 := by omega
        have hk2 : (k : Int) < z0.length := by omega
        go_wp2_with fail
        go_region
        all_goals go_wp2
        all_goals go_roundw
        case rel => exact ⟨k + 1, by omega, by go_num, by rw [← HS.out]; exact (HR.out.drew).set k (.int .i64 x), (HO.out.drew).set k (.int .i64 x)⟩
        case measure => simp [intOf]; omega
      · obtain rfl : k = z0.length := by omega
        have hrow2 := hrow
        rw [putL_all l0] at hrow2
        have honly := ho
        have S2 := HW.out.s.only honly HW.out.hbg
        have R2 := HW.out.p.res.only honly hne
        have F2 : ∀ j, wr.frozen? ⟨w.heap.size, j, none⟩ = false := fun j => ((bfroz (honly.block w.heap.size hne)) j).trans (HW.out.p.fr j)
        have I2 : IntsAt wr wr.heap.size A z1 := by rw [honly.size]; exact HW.out.i1.only honly (fun ad e => (HW.out.hA ad e).1)
        have B2 : Below w.heap.size w wr := HW.out.p.below.trans (below_lower (by have := HW.out.hg; omega) honly.below)
        have L2 : w.heap.size < wr.heap.size := by have := HW.out.p.lt; rw [honly.size]; exact this
        have hrow3 := Lib.hid (hrow2.setSt (b := w.heap.size) (v0 := .slice (some ⟨g, 0, none⟩) 128 128) (v1 := .slice A z1.length c) (v3 := .slice none 0 0) (a2 := 0) (a4 := st % 16) (a5 := st) (a6 := 0) (a7 := 0) (by omega))
        have hlist := Lib.hid (I2.setSt (b := w.heap.size) (v0 := .slice (some ⟨g, 0, none⟩) 128 128) (v1 := .slice A z1.length c) (v3 := .slice none 0 0) (a2 := 0) (a4 := st % 16) (a5 := st) (a6 := 0) (a7 := 0) (fun ad e => by have := (HW.out.hA ad e).2; omega))
        have hstate := R2.put (v0 := .slice (some ⟨g, 0, none⟩) 128 128) (v1 := .slice A z1.length c) (v3 := .slice none 0 0) (a2 := 0) (a4 := st % 16) (a5 := st) (a6 := 0) (a7 := 0)
        have hbelow := Lib.hid (B2.trans (setSt_below (U := wr) (b := w.heap.size) (v0 := .slice (some ⟨g, 0, none⟩) 128 128) (v1 := .slice A z1.length c) (v3 := .slice none 0 0) (a2 := 0) (a4 := st % 16) (a5 := st) (a6 := 0) (a7 := 0) (Nat.le_refl _)))
        have HST := Lib.hid hstate
        clear hstate hrow2 hrow ho honly I2 B2 HR HO
        obtain ⟨c0, c1, c2, c3, c4, c5, c6, c7⟩ := S2
        obtain ⟨d0, d1, d2, d3, d4, d5, d6, d7⟩ := R2
        go_wp2
        obtain ⟨f0, f1, f2, f3, f4, f5, f6, f7⟩ := HST.out
        unfold setSt at f0 f1 f2 f3 f4 f5 f6 f7
        refine bodyPost_ret (v := .tuple #[.agg #[.slice (some ⟨g, 0, none⟩) 128 128, .slice A z1.length c, .int .i64 0, .slice none 0 0, .int .i64 (st % 16), .int .i64 st, .int .i64 0, .int .i64 0], .int .i64 0]) (by simp [results, Try.results34, go_sem, f0, f1, f2, f3, f4, f5, f6, f7]) rfl ⟨some ⟨g, 0, none⟩, 128, A, c, rfl, ?_, ?_, hbelow.out⟩
        · have h1 := ListAt.row (f := Value.int .i64) hrow3.out
          exact h1
        · have h1 := hlist.out
          rw [← setSt_size (U := wr) (b := w.heap.size) (v0 := .slice (some ⟨g, 0, none⟩) 128 128) (v1 := .slice A z1.length c) (v3 := .slice none 0 0) (a2 := 0) (a4 := st % 16) (a5 := st) (a6 := 0) (a7 := 0)] at h1
          exact h1
end Go.Proofs.Ytmkcijecncdhpaa
