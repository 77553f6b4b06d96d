/-
  CONTRACTS OF the reference's fails. No statement is proved here.
-/
import Derived.Test.YtgbignkkieoffaaMg11
import Derived.Deep.RegionHeld3
namespace Go.Proofs.Ytgbignkkieoffaa
open Go.RowKit Mg Go.Sort
set_option linter.unusedVariables false
set_option linter.unusedSimpArgs false

namespace Mg
def belowV (s need wear : Int) : Int := if s < need then 0 else if need = 0 ∨ wear = 0 then -1 else (s - need + wear).tdiv wear
theorem belowV_fb {s need wear hour : Int} (hs : 0 ≤ s ∧ s ≤ 1000000) (hn : 0 ≤ need ∧ need ≤ 1000000) (hw : 0 ≤ wear ∧ wear ≤ 1000) (hh : 0 ≤ hour ∧ hour ≤ 100000) :
    (belowV s need wear = -1 ∧ fb need s wear hour = -1) ∨ (0 ≤ belowV s need wear ∧ belowV s need wear ≤ 1000001 ∧ fb need s wear hour = belowV s need wear + hour) := by
  unfold belowV fb
  by_cases h1 : s < need
  · right
    rw [if_pos h1, if_pos h1]
    omega
  · rw [if_neg h1, if_neg h1]
    by_cases h2 : need = 0 ∨ wear = 0
    · left
      rw [if_pos h2, if_pos h2]
      exact ⟨rfl, rfl⟩
    · right
      rw [if_neg h2, if_neg h2]
      have h3 : (s - need + wear).tdiv wear = (s - need) / wear + 1 := by
        rw [Int.tdiv_eq_ediv_of_nonneg (by omega)]
        have := Int.add_mul_ediv_right (s - need) 1 (c := wear) (by omega)
        rwa [Int.one_mul] at this
      have h4 := Int.ediv_nonneg (a := s - need) (b := wear) (by omega) (by omega)
      have h5 := Int.ediv_le_self (a := s - need) wear (by omega)
      rw [h3]
      omega
end Mg
theorem below_any (s n wear : Int) (hs : 0 ≤ s ∧ s ≤ 1000000) (hn : 0 ≤ n ∧ n ≤ 1000000) (hw : 0 ≤ wear ∧ wear ≤ 1000) (w : World) :
    Calls Try.prog 53 #[.int .i64 s, .int .i64 n, .int .i64 wear] w (fun e w' => e = .returned (.int .i64 (belowV s n wear)) ∧ w' = w) := by
  have hd : belowV s n wear = if s < n then 0 else if n = 0 ∨ wear = 0 then -1 else (s - n + wear).tdiv wear := rfl
  generalize belowV s n wear = r at *
  by_cases h1 : s < n
  · have HR := Lib.hid (show r = 0 by rw [hd, if_pos h1])
    clear hd
    go_enter Try.func53, Try.ntmps53
    go_wp2
    go_ret
    exact ⟨by rw [HR.out]; rfl, rfl⟩
  · rw [if_neg h1] at hd
    by_cases h2 : n = 0
    · have HR := Lib.hid (show r = -1 by rw [hd, if_pos (.inl h2)])
      have q : (n == 0) = true := by simpa using h2
      clear hd h2
      go_enter Try.func53, Try.ntmps53
      go_wp2
      go_ret
      exact ⟨by rw [HR.out]; rfl, rfl⟩
    · have q : (n == 0) = false := by simpa using h2
      by_cases h3 : wear = 0
      · have HR := Lib.hid (show r = -1 by rw [hd, if_pos (.inr h3)])
        have q3 : (wear == 0) = true := by simpa using h3
        clear hd h2 h3
        go_enter Try.func53, Try.ntmps53
        go_wp2
        go_ret
        exact ⟨by rw [HR.out]; rfl, rfl⟩
      · have HR := Lib.hid (show r = (s - n + wear).tdiv wear by rw [hd, if_neg (by omega)])
        have q3 : (wear == 0) = false := by simpa using h3
        have hb : 0 ≤ (s - n + wear).tdiv wear ∧ (s - n + wear).tdiv wear ≤ 1001000 := by
          rw [Int.tdiv_eq_ediv_of_nonneg (by omega)]
          have h4 := Int.ediv_nonneg (a := s - n + wear) (b := wear) (by omega) (by omega)
          have h5 := Int.ediv_le_self (a := s - n + wear) wear (by omega)
          omega
        generalize hz : (s - n + wear).tdiv wear = y at *
        have e2 : IntKind.i64.wrap y = y := by rw [IntKind.wrap_i64]; omega
        clear hd h2
        go_enter Try.func53, Try.ntmps53
        go_wp2
        go_ret
        exact ⟨by rw [HR.out]; rfl, rfl⟩
theorem below_fin {w V : World} (h : Below w.heap.size w V) {b : Nat} (hb : w.heap.size ≤ b) (u v : Value) (o : Obj) : Below w.heap.size w ((((V.setCell ⟨b, 0, none⟩ u).setCell ⟨b, 1, none⟩ v).alloc o).drew) :=
  (((h.setCell (p := ⟨b, 0, none⟩) hb u).setCell (p := ⟨b, 1, none⟩) hb v).alloc (by simp [go_sem, h.size]) o).drew
set_option maxRecDepth 100000 in
set_option maxHeartbeats 1000000 in
theorem rfails_any (k : Kd) (A : Option Addr) (c : Nat) (hour : Int) (s : Int × Int) (hN : NeedOk k) (h1 : 0 ≤ s.1 ∧ s.1 ≤ 1000000) (h2 : 0 ≤ s.2 ∧ s.2 ≤ 1000000) (hh : 0 ≤ hour ∧ hour ≤ 100000) (w : World) (hk : KindAt w A k) :
    Calls Try.prog 42 #[kdV k A c, pairV s, .int .i64 hour] w (RetPair w (failV k s hour)) := by
  have HV := Lib.hid (show failV k s hour = (fb (need k.st 1000) s.1 k.hi hour, fb (need k.st 1000) s.2 k.lo hour) from rfl)
  have HX := Lib.hid (belowV_fb (hour := hour) h1 hN.need hN.wear.2 hh)
  have HY := Lib.hid (belowV_fb (hour := hour) h2 hN.need hN.wear.1 hh)
  have KA := Lib.hid (below_any s.1 (need k.st 1000) k.hi h1 hN.need hN.wear.2)
  have KB := Lib.hid (below_any s.2 (need k.st 1000) k.lo h2 hN.need hN.wear.1)
  have KN := Lib.hid (fun U (hU : PairsAt U U.heap.size A k.st) => needed_any k A c 1000 hk.len hN.ex U hU)
  have HK := Lib.hid hk
  have P0 := ((kdW_new w k A c 26).after ((Below.refl _ _).alloc (Nat.le_refl _) (.cells #[.int .i64 s.1, .int .i64 s.2] 23))).after ((Below.refl _ _).alloc (Nat.le_refl _) (.cells #[.int .i64 0, .int .i64 0] 34))
  have S0 := (prW_new ((w.alloc (.cells #[.int .i64 k.new, .int .i64 k.lo, .int .i64 k.hi, .slice A k.st.length c] 26)).alloc (.cells #[.int .i64 s.1, .int .i64 s.2] 23)) 0 0 34)
  simp only [World.size_alloc] at S0
  have HH := Lib.hid hh
  clear hk h1 h2 hh hN
  go_enter Try.func42, Try.ntmps42
  go_wp2_with fail
  have t0 : (((w.alloc (.cells #[.int .i64 k.new, .int .i64 k.lo, .int .i64 k.hi, .slice A k.st.length c] 26)).alloc (.cells #[.int .i64 s.1, .int .i64 s.2] 23)).alloc (.cells #[.int .i64 0, .int .i64 0] 34)).cell? ⟨w.heap.size + 1, 0, none⟩ = some (.int .i64 s.1) := by simp [go_sem]
  have t1 : (((w.alloc (.cells #[.int .i64 k.new, .int .i64 k.lo, .int .i64 k.hi, .slice A k.st.length c] 26)).alloc (.cells #[.int .i64 s.1, .int .i64 s.2] 23)).alloc (.cells #[.int .i64 0, .int .i64 0] 34)).cell? ⟨w.heap.size + 1, 1, none⟩ = some (.int .i64 s.2) := by simp [go_sem]
  have tl : w.heap.size + 1 < (((w.alloc (.cells #[.int .i64 k.new, .int .i64 k.lo, .int .i64 k.hi, .slice A k.st.length c] 26)).alloc (.cells #[.int .i64 s.1, .int .i64 s.2] 23)).alloc (.cells #[.int .i64 0, .int .i64 0] 34)).heap.size := by simp
  generalize (((w.alloc (.cells #[.int .i64 k.new, .int .i64 k.lo, .int .i64 k.hi, .slice A k.st.length c] 26)).alloc (.cells #[.int .i64 s.1, .int .i64 s.2] 23)).alloc (.cells #[.int .i64 0, .int .i64 0] 34)) = V0 at *
  refine (KN.out V0 (P0.steps HK.out.at_)).mono ?_; rintro e V ⟨rfl, hb⟩
  have P1 := P0.after hb
  have S1 := S0.next hb
  have u0 := (hb.cell (p := ⟨w.heap.size + 1, 0, none⟩) tl).trans t0
  have u1 := (hb.cell (p := ⟨w.heap.size + 1, 1, none⟩) tl).trans t1
  have ul := Nat.lt_of_lt_of_le tl hb.size
  clear P0 S0 hb t0 t1 tl
  have HP1 := Lib.hid P1
  have HS1 := Lib.hid S1
  obtain ⟨_, c0, c1, c2, c3, hs⟩ := P1
  clear S1 c0 c3
  generalize need k.st 1000 = n at *
  generalize belowV s.1 n k.hi = x at *
  generalize belowV s.2 n k.lo = y at *
  have hh' := HH.out
  have HX' := HX.out
  have HY' := HY.out
  clear HX HY
  rcases HX' with ⟨rfl, hxe⟩ | ⟨hx0, hx1, hxe⟩ <;> rcases HY' with ⟨rfl, hye⟩ | ⟨hy0, hy1, hye⟩
  · have HXe := Lib.hid hxe
    have HYe := Lib.hid hye
    clear hxe hye
    go_wp2
    have hS : V.cell? ⟨w.heap.size + 1, 0, none⟩ = some (.int .i64 s.1) ∧ V.cell? ⟨w.heap.size + 1, 1, none⟩ = some (.int .i64 s.2) ∧ V.cell? ⟨w.heap.size, 1, none⟩ = some (.int .i64 k.lo) ∧ V.cell? ⟨w.heap.size, 2, none⟩ = some (.int .i64 k.hi) := ⟨u0, u1, c1, c2⟩
    have hSd : V.drew.cell? ⟨w.heap.size + 1, 0, none⟩ = some (.int .i64 s.1) ∧ V.drew.cell? ⟨w.heap.size + 1, 1, none⟩ = some (.int .i64 s.2) ∧ V.drew.cell? ⟨w.heap.size, 1, none⟩ = some (.int .i64 k.lo) ∧ V.drew.cell? ⟨w.heap.size, 2, none⟩ = some (.int .i64 k.hi) := ⟨u0, u1, c1, c2⟩
    have hSa : ∀ o, (V.alloc o).drew.cell? ⟨w.heap.size + 1, 0, none⟩ = some (.int .i64 s.1) ∧ (V.alloc o).drew.cell? ⟨w.heap.size + 1, 1, none⟩ = some (.int .i64 s.2) ∧ (V.alloc o).drew.cell? ⟨w.heap.size, 1, none⟩ = some (.int .i64 k.lo) ∧ (V.alloc o).drew.cell? ⟨w.heap.size, 2, none⟩ = some (.int .i64 k.hi) := fun o =>
      have hb : Below V.heap.size V (V.alloc o) := (Below.refl _ _).alloc (Nat.le_refl _) o
      ⟨(hb.cell (p := ⟨w.heap.size + 1, 0, none⟩) ul).trans u0, (hb.cell (p := ⟨w.heap.size + 1, 1, none⟩) ul).trans u1, (hb.cell (p := ⟨w.heap.size, 1, none⟩) hs).trans c1, (hb.cell (p := ⟨w.heap.size, 2, none⟩) hs).trans c2⟩
    go_region_held3 (fun w' => w'.cell? ⟨w.heap.size + 1, 0, none⟩ = some (.int .i64 s.1) ∧ w'.cell? ⟨w.heap.size + 1, 1, none⟩ = some (.int .i64 s.2) ∧ w'.cell? ⟨w.heap.size, 1, none⟩ = some (.int .i64 k.lo) ∧ w'.cell? ⟨w.heap.size, 2, none⟩ = some (.int .i64 k.hi))
      (first | with_reducible exact hSd | with_reducible exact hSa _ | with_reducible exact hS)
      (first
        | (go_at_call 53; with_reducible refine (KA.out _).mono ?_; rintro e X ⟨rfl, rfl⟩)
        | (go_at_call 53; with_reducible refine (KB.out _).mono ?_; rintro e X ⟨rfl, rfl⟩))
    all_goals (
      obtain ⟨⟨x0, r0⟩, ⟨x1, r1⟩, f0, f1, hlt⟩ := HS1.out
      go_wp2
      refine bodyPost_ret (v := pairV (-1, -1)) (by simp [results, Try.results42, cFl, go_sem, r0, r1, hlt]) rfl ⟨by rw [HV.out]; first | rfl | simp only [HXe.out, HYe.out], ?_⟩
      exact below_fin HP1.out.below (by omega) _ _ _)
  · have HXe := Lib.hid hxe
    have HYe := Lib.hid hye
    clear hxe hye
    have ey : wrap64 (y + hour) = y + hour := by unfold wrap64; omega
    clear hh'
    go_wp2
    have hS : V.cell? ⟨w.heap.size + 1, 0, none⟩ = some (.int .i64 s.1) ∧ V.cell? ⟨w.heap.size + 1, 1, none⟩ = some (.int .i64 s.2) ∧ V.cell? ⟨w.heap.size, 1, none⟩ = some (.int .i64 k.lo) ∧ V.cell? ⟨w.heap.size, 2, none⟩ = some (.int .i64 k.hi) := ⟨u0, u1, c1, c2⟩
    have hSd : V.drew.cell? ⟨w.heap.size + 1, 0, none⟩ = some (.int .i64 s.1) ∧ V.drew.cell? ⟨w.heap.size + 1, 1, none⟩ = some (.int .i64 s.2) ∧ V.drew.cell? ⟨w.heap.size, 1, none⟩ = some (.int .i64 k.lo) ∧ V.drew.cell? ⟨w.heap.size, 2, none⟩ = some (.int .i64 k.hi) := ⟨u0, u1, c1, c2⟩
    have hSa : ∀ o, (V.alloc o).drew.cell? ⟨w.heap.size + 1, 0, none⟩ = some (.int .i64 s.1) ∧ (V.alloc o).drew.cell? ⟨w.heap.size + 1, 1, none⟩ = some (.int .i64 s.2) ∧ (V.alloc o).drew.cell? ⟨w.heap.size, 1, none⟩ = some (.int .i64 k.lo) ∧ (V.alloc o).drew.cell? ⟨w.heap.size, 2, none⟩ = some (.int .i64 k.hi) := fun o =>
      have hb : Below V.heap.size V (V.alloc o) := (Below.refl _ _).alloc (Nat.le_refl _) o
      ⟨(hb.cell (p := ⟨w.heap.size + 1, 0, none⟩) ul).trans u0, (hb.cell (p := ⟨w.heap.size + 1, 1, none⟩) ul).trans u1, (hb.cell (p := ⟨w.heap.size, 1, none⟩) hs).trans c1, (hb.cell (p := ⟨w.heap.size, 2, none⟩) hs).trans c2⟩
    go_region_held3 (fun w' => w'.cell? ⟨w.heap.size + 1, 0, none⟩ = some (.int .i64 s.1) ∧ w'.cell? ⟨w.heap.size + 1, 1, none⟩ = some (.int .i64 s.2) ∧ w'.cell? ⟨w.heap.size, 1, none⟩ = some (.int .i64 k.lo) ∧ w'.cell? ⟨w.heap.size, 2, none⟩ = some (.int .i64 k.hi))
      (first | with_reducible exact hSd | with_reducible exact hSa _ | with_reducible exact hS)
      (first
        | (go_at_call 53; with_reducible refine (KA.out _).mono ?_; rintro e X ⟨rfl, rfl⟩)
        | (go_at_call 53; with_reducible refine (KB.out _).mono ?_; rintro e X ⟨rfl, rfl⟩))
    all_goals (
      obtain ⟨⟨x0, r0⟩, ⟨x1, r1⟩, f0, f1, hlt⟩ := HS1.out
      go_wp2
      refine bodyPost_ret (v := pairV (-1, y + hour)) (by simp [results, Try.results42, cFl, go_sem, r0, r1, hlt]) rfl ⟨by rw [HV.out]; first | rfl | simp only [HXe.out, HYe.out], ?_⟩
      exact below_fin HP1.out.below (by omega) _ _ _)
  · have HXe := Lib.hid hxe
    have HYe := Lib.hid hye
    clear hxe hye
    have ex : wrap64 (x + hour) = x + hour := by unfold wrap64; omega
    clear hh'
    go_wp2
    have hS : V.cell? ⟨w.heap.size + 1, 0, none⟩ = some (.int .i64 s.1) ∧ V.cell? ⟨w.heap.size + 1, 1, none⟩ = some (.int .i64 s.2) ∧ V.cell? ⟨w.heap.size, 1, none⟩ = some (.int .i64 k.lo) ∧ V.cell? ⟨w.heap.size, 2, none⟩ = some (.int .i64 k.hi) := ⟨u0, u1, c1, c2⟩
    have hSd : V.drew.cell? ⟨w.heap.size + 1, 0, none⟩ = some (.int .i64 s.1) ∧ V.drew.cell? ⟨w.heap.size + 1, 1, none⟩ = some (.int .i64 s.2) ∧ V.drew.cell? ⟨w.heap.size, 1, none⟩ = some (.int .i64 k.lo) ∧ V.drew.cell? ⟨w.heap.size, 2, none⟩ = some (.int .i64 k.hi) := ⟨u0, u1, c1, c2⟩
    have hSa : ∀ o, (V.alloc o).drew.cell? ⟨w.heap.size + 1, 0, none⟩ = some (.int .i64 s.1) ∧ (V.alloc o).drew.cell? ⟨w.heap.size + 1, 1, none⟩ = some (.int .i64 s.2) ∧ (V.alloc o).drew.cell? ⟨w.heap.size, 1, none⟩ = some (.int .i64 k.lo) ∧ (V.alloc o).drew.cell? ⟨w.heap.size, 2, none⟩ = some (.int .i64 k.hi) := fun o =>
      have hb : Below V.heap.size V (V.alloc o) := (Below.refl _ _).alloc (Nat.le_refl _) o
      ⟨(hb.cell (p := ⟨w.heap.size + 1, 0, none⟩) ul).trans u0, (hb.cell (p := ⟨w.heap.size + 1, 1, none⟩) ul).trans u1, (hb.cell (p := ⟨w.heap.size, 1, none⟩) hs).trans c1, (hb.cell (p := ⟨w.heap.size, 2, none⟩) hs).trans c2⟩
    go_region_held3 (fun w' => w'.cell? ⟨w.heap.size + 1, 0, none⟩ = some (.int .i64 s.1) ∧ w'.cell? ⟨w.heap.size + 1, 1, none⟩ = some (.int .i64 s.2) ∧ w'.cell? ⟨w.heap.size, 1, none⟩ = some (.int .i64 k.lo) ∧ w'.cell? ⟨w.heap.size, 2, none⟩ = some (.int .i64 k.hi))
      (first | with_reducible exact hSd | with_reducible exact hSa _ | with_reducible exact hS)
      (first
        | (go_at_call 53; with_reducible refine (KA.out _).mono ?_; rintro e X ⟨rfl, rfl⟩)
        | (go_at_call 53; with_reducible refine (KB.out _).mono ?_; rintro e X ⟨rfl, rfl⟩))
    all_goals (
      obtain ⟨⟨x0, r0⟩, ⟨x1, r1⟩, f0, f1, hlt⟩ := HS1.out
      go_wp2
      refine bodyPost_ret (v := pairV (x + hour, -1)) (by simp [results, Try.results42, cFl, go_sem, r0, r1, hlt]) rfl ⟨by rw [HV.out]; first | rfl | simp only [HXe.out, HYe.out], ?_⟩
      exact below_fin HP1.out.below (by omega) _ _ _)
  · have HXe := Lib.hid hxe
    have HYe := Lib.hid hye
    clear hxe hye
    have ex : wrap64 (x + hour) = x + hour := by unfold wrap64; omega
    have ey : wrap64 (y + hour) = y + hour := by unfold wrap64; omega
    clear hh'
    go_wp2
    have hS : V.cell? ⟨w.heap.size + 1, 0, none⟩ = some (.int .i64 s.1) ∧ V.cell? ⟨w.heap.size + 1, 1, none⟩ = some (.int .i64 s.2) ∧ V.cell? ⟨w.heap.size, 1, none⟩ = some (.int .i64 k.lo) ∧ V.cell? ⟨w.heap.size, 2, none⟩ = some (.int .i64 k.hi) := ⟨u0, u1, c1, c2⟩
    have hSd : V.drew.cell? ⟨w.heap.size + 1, 0, none⟩ = some (.int .i64 s.1) ∧ V.drew.cell? ⟨w.heap.size + 1, 1, none⟩ = some (.int .i64 s.2) ∧ V.drew.cell? ⟨w.heap.size, 1, none⟩ = some (.int .i64 k.lo) ∧ V.drew.cell? ⟨w.heap.size, 2, none⟩ = some (.int .i64 k.hi) := ⟨u0, u1, c1, c2⟩
    have hSa : ∀ o, (V.alloc o).drew.cell? ⟨w.heap.size + 1, 0, none⟩ = some (.int .i64 s.1) ∧ (V.alloc o).drew.cell? ⟨w.heap.size + 1, 1, none⟩ = some (.int .i64 s.2) ∧ (V.alloc o).drew.cell? ⟨w.heap.size, 1, none⟩ = some (.int .i64 k.lo) ∧ (V.alloc o).drew.cell? ⟨w.heap.size, 2, none⟩ = some (.int .i64 k.hi) := fun o =>
      have hb : Below V.heap.size V (V.alloc o) := (Below.refl _ _).alloc (Nat.le_refl _) o
      ⟨(hb.cell (p := ⟨w.heap.size + 1, 0, none⟩) ul).trans u0, (hb.cell (p := ⟨w.heap.size + 1, 1, none⟩) ul).trans u1, (hb.cell (p := ⟨w.heap.size, 1, none⟩) hs).trans c1, (hb.cell (p := ⟨w.heap.size, 2, none⟩) hs).trans c2⟩
    go_region_held3 (fun w' => w'.cell? ⟨w.heap.size + 1, 0, none⟩ = some (.int .i64 s.1) ∧ w'.cell? ⟨w.heap.size + 1, 1, none⟩ = some (.int .i64 s.2) ∧ w'.cell? ⟨w.heap.size, 1, none⟩ = some (.int .i64 k.lo) ∧ w'.cell? ⟨w.heap.size, 2, none⟩ = some (.int .i64 k.hi))
      (first | with_reducible exact hSd | with_reducible exact hSa _ | with_reducible exact hS)
      (first
        | (go_at_call 53; with_reducible refine (KA.out _).mono ?_; rintro e X ⟨rfl, rfl⟩)
        | (go_at_call 53; with_reducible refine (KB.out _).mono ?_; rintro e X ⟨rfl, rfl⟩))
    all_goals (
      obtain ⟨⟨x0, r0⟩, ⟨x1, r1⟩, f0, f1, hlt⟩ := HS1.out
      go_wp2
      refine bodyPost_ret (v := pairV (x + hour, y + hour)) (by simp [results, Try.results42, cFl, go_sem, r0, r1, hlt]) rfl ⟨by rw [HV.out]; first | rfl | simp only [HXe.out, HYe.out], ?_⟩
      exact below_fin HP1.out.below (by omega) _ _ _)
end Go.Proofs.Ytgbignkkieoffaa
