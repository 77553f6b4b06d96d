/-
  LineSafe: the walk where pulses come at other beats. No statement is proved here.
-/
import Derived.Test.YtplipfcnjmgicaaSafe4
namespace Go.Proofs.Ytplipfcnjmgicaa
open Go.RowKit
set_option linter.unusedVariables false
set_option linter.unusedSimpArgs false

set_option maxRecDepth 100000 in
set_option maxHeartbeats 4000000 in
theorem safe_far (a2 a3 a4 a5 T lo hi e1 n : Int) (W b : Nat) (Aw : Option Addr) (zs : List Int) (cw : Nat) (w : World) (hz : zs.length ≤ maxLen) (hb : (1 ≤ W ∧ W ≤ 64) ∧ 1 ≤ b ∧ b ≤ 40) (hT : -500 ≤ T ∧ T ≤ 1000)
    (hin : e1 = 9 ∨ (e1 = 0 ∧ ¬ lo ≤ T) ∨ (e1 = 0 ∧ lo ≤ T ∧ ¬ T ≤ hi))
    (KS : Hid (∀ w, Calls Try.prog 27 #[.agg #[.int .i64 W, .int .i64 b, .int .i64 a2, .int .i64 a3, .int .i64 a4, .int .i64 a5]] w fun e w' => e = .returned (.tuple #[.agg #[.int .i64 lo, .int .i64 hi], .int .i64 e1]) ∧ Below w.heap.size w w'))
    (K : Hid (∀ w, Calls Try.prog 23 #[.agg #[.int .i64 W, .int .i64 b, .int .i64 a2, .int .i64 a3, .int .i64 a4, .int .i64 a5], .int .i64 T] w (Shifted n false 0 w)))
    (ws : List Int) (at_ er : Int) (hwl : ws.length ≤ 64)
    (KP : Hid (∀ (At : Option Addr) (ct : Nat) (w : World), IntsAt w w.heap.size Aw zs → IntsAt w w.heap.size At [T] → Calls Try.prog 29 #[.agg #[.int .i64 W, .int .i64 b, .int .i64 a2, .int .i64 a3, .int .i64 a4, .int .i64 a5], .slice Aw zs.length cw, .slice At 1 ct] w (PassOut ws at_ er w)))
    (ws2 : List Int) (hwl2 : ws2.length ≤ 64)
    (KQ : Hid (∀ (Ao At : Option Addr) (co ct : Nat) (w : World), IntsAt w w.heap.size Ao (oneS W) → IntsAt w w.heap.size At [T] → Calls Try.prog 29 #[.agg #[.int .i64 W, .int .i64 b, .int .i64 a2, .int .i64 a3, .int .i64 a4, .int .i64 a5], .slice Ao W co, .slice At 1 ct] w (PassOut ws2 (-1) 0 w)))
    (hone : Hid (intsEq ws2 (oneS W) = decide (n.tmod ((W : Int) * (b : Int)) = 0)))
    (hn : n ≠ 0)
    (hR : IntsAt w w.heap.size Aw zs) :
    Calls Try.prog 11 #[.agg #[.int .i64 W, .int .i64 b, .int .i64 a2, .int .i64 a3, .int .i64 a4, .int .i64 a5], .slice Aw zs.length cw, .int .i64 T] w fun e w' => e = .returned (.bool true) ∧ Below w.heap.size w w' := by
  rcases hin with rfl | ⟨rfl, i1⟩ | ⟨rfl, i1, i2⟩
  · have h9 : ((9 : Int) == 0) = false := by decide
    have hwm : wrap64 ((W : Int) * (b : Int)) = ((W * b : Nat) : Int) := by
      have := mul_bound (a := (W : Int)) (b := (b : Int)) (by omega)
      rw [Int.natCast_mul]
      exact wrap_in (by omega) (by omega)
    have hm0 : ¬ ((W * b : Nat) : Int) = 0 := by
      have := Nat.mul_pos (show 0 < W by omega) (show 0 < b by omega)
      omega
    go_enter Try.func11, Try.ntmps11
    go_wp2_with fail
    have hB0 : Below w.heap.size w (w.alloc (.cells #[.int .i64 W, .int .i64 b, .int .i64 a2, .int .i64 a3, .int .i64 a4, .int .i64 a5] 25)) := by go_grown
    have hL : LineAt (w.alloc (.cells #[.int .i64 W, .int .i64 b, .int .i64 a2, .int .i64 a3, .int .i64 a4, .int .i64 a5] 25)) w.heap.size W b a2 a3 a4 a5 := by constructor <;> simp [go_sem]
    have hsz : w.heap.size < (w.alloc (.cells #[.int .i64 W, .int .i64 b, .int .i64 a2, .int .i64 a3, .int .i64 a4, .int .i64 a5] 25)).heap.size := by simp
    refine (KS.out _).mono ?_; rintro e U ⟨rfl, hU⟩
    have hLU := hL.below hU hsz
    have hBU := hB0.trans (below_down hB0.size hU)
    have hlt : w.heap.size < U.heap.size := Nat.lt_of_lt_of_le hsz hU.size
    clear hB0 hL hU hsz
    go_wp2_with fail
    have T1 : SfW w W b a2 a3 a4 a5 lo hi U.heap.size (U.alloc (.cells #[.int .i64 lo, .int .i64 hi] 31)) :=
      ⟨hLU.below (Below.alloc (Below.refl _ U) (Nat.le_refl _) _) hlt, by simp [go_sem], by simp [go_sem], hlt, hBU.alloc hBU.size _, by simp⟩
    obtain ⟨V, hV⟩ : ∃ V, V = U.alloc (.cells #[.int .i64 lo, .int .i64 hi] 31) := ⟨_, rfl⟩
    obtain ⟨B, hB⟩ : ∃ B, B = U.heap.size := ⟨_, rfl⟩
    rw [← hV, ← hB] at T1 ⊢
    clear hV hB hLU hBU hlt
    refine (rtemp_t T hT _).mono ?_; rintro e Z ⟨rfl, rfl⟩
    obtain ⟨⟨l0, l1, l2, l3, l4, l5⟩, s0, s1, slt, sb, ssz⟩ := T1
    have T1 : SfW w W b a2 a3 a4 a5 lo hi B Z := ⟨⟨l0, l1, l2, l3, l4, l5⟩, s0, s1, slt, sb, ssz⟩
    go_wp2_with fail
    refine (KP.out _ _ _ ((hR.below (T1.below.alloc T1.below.size _)).more (T1.below.alloc T1.below.size _).size) (ListAt.row (f := Value.int .i64) (xs := [T]) (heap_alloc_new Z _))).mono ?_
    rintro e V ⟨A, c, rfl, hA, hV⟩
    have T2 := (T1.after (Below.alloc (Below.refl _ Z) (Nat.le_refl _) _)).after hV
    have hRV := (hR.below T2.below).more T2.below.size
    clear T1 hV l0 l1 l2 l3 l4 l5 s0 s1 slt sb ssz
    by_cases he : er = 0
    · subst he
      obtain ⟨l0, l1, l2, l3, l4, l5⟩ := T2.line
      go_wp2_with (with_reducible refine wp_make sliceInt rfl _ _ rfl w.heap.size W W W rfl rfl rfl rfl ?c2 ?c3 ?_)
      case c2 => omega
      case c3 => exact T2.below.size
      intro X hown hg
      have hrow : RowIs X V.heap.size 3 (ints (List.replicate W 0)) := by
        rw [ints_replicate]
        simpa [RowIs] using row_full hown
      have hBX : Below V.heap.size V X := below_grown0 (Below.refl _ _) hg (Nat.le_refl _)
      have T3 : SfW w W b a2 a3 a4 a5 lo hi B (X.setCell ⟨V.heap.size, 0, none⟩ (.int .i64 1)) := T2.after (hBX.setCell (Nat.le_refl _) _)
      have hrow2 : RowIs (X.setCell ⟨V.heap.size, 0, none⟩ (.int .i64 1)) V.heap.size 3 (ints (oneS W)) := by
        have := hrow.set 0 (.int .i64 1)
        rw [ints_set] at this
        have e : (List.replicate W (0 : Int)).set 0 1 = oneS W := by
          obtain ⟨V, rfl⟩ : ∃ V, W = V + 1 := ⟨W - 1, by omega⟩
          rfl
        rw [e] at this
        exact this
      have hcell : X.cell? ⟨V.heap.size, 0, none⟩ = some (.int .i64 0) := by
        rw [hrow.cell, ints_get, List.getElem?_replicate, if_pos (by omega)]; rfl
      have hfr := hrow.frozen 0
      obtain ⟨⟨m0, m1, m2, m3, m4, m5⟩, q0, q1, q2, q3, q4⟩ := T3
      clear q0 q1 q2 q3 q4
      have T3 : SfW w W b a2 a3 a4 a5 lo hi B (X.setCell ⟨V.heap.size, 0, none⟩ (.int .i64 1)) := T2.after (hBX.setCell (Nat.le_refl _) _)
      have h0W : 0 < W := by omega
      clear l0 l1 l2 l3 l4 l5 hown hg hrow T2 hBX
      go_wp2_with fail
      obtain ⟨X1, hX1⟩ : ∃ X1, X1 = X.setCell ⟨V.heap.size, 0, none⟩ (.int .i64 1) := ⟨_, rfl⟩
      rw [← hX1] at T3 hrow2 ⊢
      have hs1 : X1.heap.size = X.heap.size := by rw [hX1]; simp
      clear hcell hfr m0 m1 m2 m3 m4 m5 hX1
      have hr3 := hrow2.alloc (.cells #[.int .i64 T] 3)
      have hr4 : (X1.alloc (.cells #[.int .i64 T] 3)).heap[V.heap.size]? = some (.cells ((oneS W).map (Value.int .i64)).toArray 3 (0, 0)) := hr3
      have hP1 : IntsAt (X1.alloc (.cells #[.int .i64 T] 3)) (X1.alloc (.cells #[.int .i64 T] 3)).heap.size (some ⟨V.heap.size, 0, none⟩) (oneS W) := ListAt.row hr4
      have hP2 : IntsAt (X1.alloc (.cells #[.int .i64 T] 3)) (X1.alloc (.cells #[.int .i64 T] 3)).heap.size (some ⟨X1.heap.size, 0, none⟩) [T] := ListAt.row (f := Value.int .i64) (xs := [T]) (heap_alloc_new X1 _)
      rw [hs1] at hP2
      clear hr4 hs1
      obtain ⟨X2, hX2⟩ : ∃ X2, X2 = X1.alloc (.cells #[.int .i64 T] 3) := ⟨_, rfl⟩
      have hBX2 : Below X1.heap.size X1 X2 := by rw [hX2]; exact Below.alloc (Below.refl _ X1) (Nat.le_refl _) _
      rw [← hX2] at hP1 hP2 hr3 ⊢
      clear hX2
      refine (KQ.out (some ⟨V.heap.size, 0, none⟩) (some ⟨X.heap.size, 0, none⟩) W 1 X2 hP1 hP2).mono ?_
      clear hP1 hP2
      rintro e Y ⟨A2, c2, rfl, hA2, hY⟩
      have T4 := (T3.after hBX2).after hY
      have hr5 : Y.heap[V.heap.size]? = some (.cells ((oneS W).map (Value.int .i64)).toArray 3 (0, 0)) := hr3.below hY hr3.lt
      have hO : IntsAt Y Y.heap.size (some ⟨V.heap.size, 0, none⟩) (oneS W) := ListAt.row hr5
      clear T3 hrow2 hr3 hr5 hY hBX2
      obtain ⟨l0, l1, l2, l3, l4, l5⟩ := T4.line
      go_wp2_with fail
      refine (K.out _).mono ?_; rintro e Y2 ⟨rfl, hY2⟩
      have T5 := T4.after hY2
      have hA3 := (hA2.below hY2).more hY2.size
      have hO3 := (hO.below hY2).more hY2.size
      clear T4 hA2 hO hY2 l0 l1 l2 l3 l4 l5
      have hn' : (n == 0) = false := by simpa using hn
      go_wp2_with fail
      refine (ints_one A2 _ c2 _ W hb.1 ws2 hwl2 _ hA3 hO3).mono ?_; rintro e Y3 ⟨rfl, hY3⟩
      have T6 := T5.below.trans (below_down T5.below.size hY3)
      rw [hone.out]
      clear hA3 hO3 hY3
      by_cases hd : n.tmod ((W : Int) * (b : Int)) = 0
      · have hd' : (n.tmod ((W : Int) * (b : Int)) == 0) = true := by simpa using hd
        go_wp2_with fail
        refine (awake_pa _).mono ?_; rintro e Y4 ⟨rfl, hY4⟩
        go_wp2
        go_ret
        exact ⟨rfl, T6.trans (below_down T6.size hY4)⟩
      · have hd' : (n.tmod ((W : Int) * (b : Int)) == 0) = false := by simpa using hd
        go_wp2_with fail
        refine (awake_pa _).mono ?_; rintro e Y4 ⟨rfl, hY4⟩
        go_wp2
        go_ret
        exact ⟨rfl, T6.trans (below_down T6.size hY4)⟩
    · have he' : (er == 0) = false := by simpa using he
      have HE := Lib.hid he
      clear he
      obtain ⟨l0, l1, l2, l3, l4, l5⟩ := T2.line
      go_wp2_with (with_reducible refine wp_make sliceInt rfl _ _ rfl w.heap.size W W W rfl rfl rfl rfl ?c2 ?c3 ?_)
      case c2 => omega
      case c3 => exact T2.below.size
      intro X hown hg
      have hrow : RowIs X V.heap.size 3 (ints (List.replicate W 0)) := by
        rw [ints_replicate]
        simpa [RowIs] using row_full hown
      have hBX : Below V.heap.size V X := below_grown0 (Below.refl _ _) hg (Nat.le_refl _)
      have T3 : SfW w W b a2 a3 a4 a5 lo hi B (X.setCell ⟨V.heap.size, 0, none⟩ (.int .i64 1)) := T2.after (hBX.setCell (Nat.le_refl _) _)
      have hrow2 : RowIs (X.setCell ⟨V.heap.size, 0, none⟩ (.int .i64 1)) V.heap.size 3 (ints (oneS W)) := by
        have := hrow.set 0 (.int .i64 1)
        rw [ints_set] at this
        have e : (List.replicate W (0 : Int)).set 0 1 = oneS W := by
          obtain ⟨V, rfl⟩ : ∃ V, W = V + 1 := ⟨W - 1, by omega⟩
          rfl
        rw [e] at this
        exact this
      have hcell : X.cell? ⟨V.heap.size, 0, none⟩ = some (.int .i64 0) := by
        rw [hrow.cell, ints_get, List.getElem?_replicate, if_pos (by omega)]; rfl
      have hfr := hrow.frozen 0
      obtain ⟨⟨m0, m1, m2, m3, m4, m5⟩, q0, q1, q2, q3, q4⟩ := T3
      clear q0 q1 q2 q3 q4
      have T3 : SfW w W b a2 a3 a4 a5 lo hi B (X.setCell ⟨V.heap.size, 0, none⟩ (.int .i64 1)) := T2.after (hBX.setCell (Nat.le_refl _) _)
      have h0W : 0 < W := by omega
      clear l0 l1 l2 l3 l4 l5 hown hg hrow T2 hBX
      go_wp2_with fail
      obtain ⟨X1, hX1⟩ : ∃ X1, X1 = X.setCell ⟨V.heap.size, 0, none⟩ (.int .i64 1) := ⟨_, rfl⟩
      rw [← hX1] at T3 hrow2 ⊢
      have hs1 : X1.heap.size = X.heap.size := by rw [hX1]; simp
      clear hcell hfr m0 m1 m2 m3 m4 m5 hX1
      have hr3 := hrow2.alloc (.cells #[.int .i64 T] 3)
      have hr4 : (X1.alloc (.cells #[.int .i64 T] 3)).heap[V.heap.size]? = some (.cells ((oneS W).map (Value.int .i64)).toArray 3 (0, 0)) := hr3
      have hP1 : IntsAt (X1.alloc (.cells #[.int .i64 T] 3)) (X1.alloc (.cells #[.int .i64 T] 3)).heap.size (some ⟨V.heap.size, 0, none⟩) (oneS W) := ListAt.row hr4
      have hP2 : IntsAt (X1.alloc (.cells #[.int .i64 T] 3)) (X1.alloc (.cells #[.int .i64 T] 3)).heap.size (some ⟨X1.heap.size, 0, none⟩) [T] := ListAt.row (f := Value.int .i64) (xs := [T]) (heap_alloc_new X1 _)
      rw [hs1] at hP2
      clear hr4 hs1
      obtain ⟨X2, hX2⟩ : ∃ X2, X2 = X1.alloc (.cells #[.int .i64 T] 3) := ⟨_, rfl⟩
      have hBX2 : Below X1.heap.size X1 X2 := by rw [hX2]; exact Below.alloc (Below.refl _ X1) (Nat.le_refl _) _
      rw [← hX2] at hP1 hP2 hr3 ⊢
      clear hX2
      refine (KQ.out (some ⟨V.heap.size, 0, none⟩) (some ⟨X.heap.size, 0, none⟩) W 1 X2 hP1 hP2).mono ?_
      clear hP1 hP2
      rintro e Y ⟨A2, c2, rfl, hA2, hY⟩
      have T4 := (T3.after hBX2).after hY
      have hr5 : Y.heap[V.heap.size]? = some (.cells ((oneS W).map (Value.int .i64)).toArray 3 (0, 0)) := hr3.below hY hr3.lt
      have hO : IntsAt Y Y.heap.size (some ⟨V.heap.size, 0, none⟩) (oneS W) := ListAt.row hr5
      clear T3 hrow2 hr3 hr5 hY hBX2
      obtain ⟨l0, l1, l2, l3, l4, l5⟩ := T4.line
      go_wp2_with fail
      refine (K.out _).mono ?_; rintro e Y2 ⟨rfl, hY2⟩
      have T5 := T4.after hY2
      have hA3 := (hA2.below hY2).more hY2.size
      have hO3 := (hO.below hY2).more hY2.size
      clear T4 hA2 hO hY2 l0 l1 l2 l3 l4 l5
      have hn' : (n == 0) = false := by simpa using hn
      go_wp2_with fail
      refine (ints_one A2 _ c2 _ W hb.1 ws2 hwl2 _ hA3 hO3).mono ?_; rintro e Y3 ⟨rfl, hY3⟩
      have T6 := T5.below.trans (below_down T5.below.size hY3)
      rw [hone.out]
      clear hA3 hO3 hY3
      by_cases hd : n.tmod ((W : Int) * (b : Int)) = 0
      · have hd' : (n.tmod ((W : Int) * (b : Int)) == 0) = true := by simpa using hd
        go_wp2_with fail
        refine (awake_pa _).mono ?_; rintro e Y4 ⟨rfl, hY4⟩
        go_wp2
        go_ret
        exact ⟨rfl, T6.trans (below_down T6.size hY4)⟩
      · have hd' : (n.tmod ((W : Int) * (b : Int)) == 0) = false := by simpa using hd
        go_wp2_with fail
        refine (awake_pa _).mono ?_; rintro e Y4 ⟨rfl, hY4⟩
        go_wp2
        go_ret
        exact ⟨rfl, T6.trans (below_down T6.size hY4)⟩
  · have g1 : decide (lo ≤ T) = false := by simpa using i1
    have hwm : wrap64 ((W : Int) * (b : Int)) = ((W * b : Nat) : Int) := by
      have := mul_bound (a := (W : Int)) (b := (b : Int)) (by omega)
      rw [Int.natCast_mul]
      exact wrap_in (by omega) (by omega)
    have hm0 : ¬ ((W * b : Nat) : Int) = 0 := by
      have := Nat.mul_pos (show 0 < W by omega) (show 0 < b by omega)
      omega
    go_enter Try.func11, Try.ntmps11
    go_wp2_with fail
    have hB0 : Below w.heap.size w (w.alloc (.cells #[.int .i64 W, .int .i64 b, .int .i64 a2, .int .i64 a3, .int .i64 a4, .int .i64 a5] 25)) := by go_grown
    have hL : LineAt (w.alloc (.cells #[.int .i64 W, .int .i64 b, .int .i64 a2, .int .i64 a3, .int .i64 a4, .int .i64 a5] 25)) w.heap.size W b a2 a3 a4 a5 := by constructor <;> simp [go_sem]
    have hsz : w.heap.size < (w.alloc (.cells #[.int .i64 W, .int .i64 b, .int .i64 a2, .int .i64 a3, .int .i64 a4, .int .i64 a5] 25)).heap.size := by simp
    refine (KS.out _).mono ?_; rintro e U ⟨rfl, hU⟩
    have hLU := hL.below hU hsz
    have hBU := hB0.trans (below_down hB0.size hU)
    have hlt : w.heap.size < U.heap.size := Nat.lt_of_lt_of_le hsz hU.size
    clear hB0 hL hU hsz
    go_wp2_with fail
    have T1 : SfW w W b a2 a3 a4 a5 lo hi U.heap.size (U.alloc (.cells #[.int .i64 lo, .int .i64 hi] 31)) :=
      ⟨hLU.below (Below.alloc (Below.refl _ U) (Nat.le_refl _) _) hlt, by simp [go_sem], by simp [go_sem], hlt, hBU.alloc hBU.size _, by simp⟩
    obtain ⟨V, hV⟩ : ∃ V, V = U.alloc (.cells #[.int .i64 lo, .int .i64 hi] 31) := ⟨_, rfl⟩
    obtain ⟨B, hB⟩ : ∃ B, B = U.heap.size := ⟨_, rfl⟩
    rw [← hV, ← hB] at T1 ⊢
    clear hV hB hLU hBU hlt
    refine (rtemp_t T hT _).mono ?_; rintro e Z ⟨rfl, rfl⟩
    obtain ⟨⟨l0, l1, l2, l3, l4, l5⟩, s0, s1, slt, sb, ssz⟩ := T1
    have T1 : SfW w W b a2 a3 a4 a5 lo hi B Z := ⟨⟨l0, l1, l2, l3, l4, l5⟩, s0, s1, slt, sb, ssz⟩
    go_wp2_with fail
    refine (KP.out _ _ _ ((hR.below (T1.below.alloc T1.below.size _)).more (T1.below.alloc T1.below.size _).size) (ListAt.row (f := Value.int .i64) (xs := [T]) (heap_alloc_new Z _))).mono ?_
    rintro e V ⟨A, c, rfl, hA, hV⟩
    have T2 := (T1.after (Below.alloc (Below.refl _ Z) (Nat.le_refl _) _)).after hV
    have hRV := (hR.below T2.below).more T2.below.size
    clear T1 hV l0 l1 l2 l3 l4 l5 s0 s1 slt sb ssz
    by_cases he : er = 0
    · subst he
      obtain ⟨l0, l1, l2, l3, l4, l5⟩ := T2.line
      go_wp2_with (with_reducible refine wp_make sliceInt rfl _ _ rfl w.heap.size W W W rfl rfl rfl rfl ?c2 ?c3 ?_)
      case c2 => omega
      case c3 => exact T2.below.size
      intro X hown hg
      have hrow : RowIs X V.heap.size 3 (ints (List.replicate W 0)) := by
        rw [ints_replicate]
        simpa [RowIs] using row_full hown
      have hBX : Below V.heap.size V X := below_grown0 (Below.refl _ _) hg (Nat.le_refl _)
      have T3 : SfW w W b a2 a3 a4 a5 lo hi B (X.setCell ⟨V.heap.size, 0, none⟩ (.int .i64 1)) := T2.after (hBX.setCell (Nat.le_refl _) _)
      have hrow2 : RowIs (X.setCell ⟨V.heap.size, 0, none⟩ (.int .i64 1)) V.heap.size 3 (ints (oneS W)) := by
        have := hrow.set 0 (.int .i64 1)
        rw [ints_set] at this
        have e : (List.replicate W (0 : Int)).set 0 1 = oneS W := by
          obtain ⟨V, rfl⟩ : ∃ V, W = V + 1 := ⟨W - 1, by omega⟩
          rfl
        rw [e] at this
        exact this
      have hcell : X.cell? ⟨V.heap.size, 0, none⟩ = some (.int .i64 0) := by
        rw [hrow.cell, ints_get, List.getElem?_replicate, if_pos (by omega)]; rfl
      have hfr := hrow.frozen 0
      obtain ⟨⟨m0, m1, m2, m3, m4, m5⟩, q0, q1, q2, q3, q4⟩ := T3
      clear q0 q1 q2 q3 q4
      have T3 : SfW w W b a2 a3 a4 a5 lo hi B (X.setCell ⟨V.heap.size, 0, none⟩ (.int .i64 1)) := T2.after (hBX.setCell (Nat.le_refl _) _)
      have h0W : 0 < W := by omega
      clear l0 l1 l2 l3 l4 l5 hown hg hrow T2 hBX
      go_wp2_with fail
      obtain ⟨X1, hX1⟩ : ∃ X1, X1 = X.setCell ⟨V.heap.size, 0, none⟩ (.int .i64 1) := ⟨_, rfl⟩
      rw [← hX1] at T3 hrow2 ⊢
      have hs1 : X1.heap.size = X.heap.size := by rw [hX1]; simp
      clear hcell hfr m0 m1 m2 m3 m4 m5 hX1
      have hr3 := hrow2.alloc (.cells #[.int .i64 T] 3)
      have hr4 : (X1.alloc (.cells #[.int .i64 T] 3)).heap[V.heap.size]? = some (.cells ((oneS W).map (Value.int .i64)).toArray 3 (0, 0)) := hr3
      have hP1 : IntsAt (X1.alloc (.cells #[.int .i64 T] 3)) (X1.alloc (.cells #[.int .i64 T] 3)).heap.size (some ⟨V.heap.size, 0, none⟩) (oneS W) := ListAt.row hr4
      have hP2 : IntsAt (X1.alloc (.cells #[.int .i64 T] 3)) (X1.alloc (.cells #[.int .i64 T] 3)).heap.size (some ⟨X1.heap.size, 0, none⟩) [T] := ListAt.row (f := Value.int .i64) (xs := [T]) (heap_alloc_new X1 _)
      rw [hs1] at hP2
      clear hr4 hs1
      obtain ⟨X2, hX2⟩ : ∃ X2, X2 = X1.alloc (.cells #[.int .i64 T] 3) := ⟨_, rfl⟩
      have hBX2 : Below X1.heap.size X1 X2 := by rw [hX2]; exact Below.alloc (Below.refl _ X1) (Nat.le_refl _) _
      rw [← hX2] at hP1 hP2 hr3 ⊢
      clear hX2
      refine (KQ.out (some ⟨V.heap.size, 0, none⟩) (some ⟨X.heap.size, 0, none⟩) W 1 X2 hP1 hP2).mono ?_
      clear hP1 hP2
      rintro e Y ⟨A2, c2, rfl, hA2, hY⟩
      have T4 := (T3.after hBX2).after hY
      have hr5 : Y.heap[V.heap.size]? = some (.cells ((oneS W).map (Value.int .i64)).toArray 3 (0, 0)) := hr3.below hY hr3.lt
      have hO : IntsAt Y Y.heap.size (some ⟨V.heap.size, 0, none⟩) (oneS W) := ListAt.row hr5
      clear T3 hrow2 hr3 hr5 hY hBX2
      obtain ⟨l0, l1, l2, l3, l4, l5⟩ := T4.line
      go_wp2_with fail
      refine (K.out _).mono ?_; rintro e Y2 ⟨rfl, hY2⟩
      have T5 := T4.after hY2
      have hA3 := (hA2.below hY2).more hY2.size
      have hO3 := (hO.below hY2).more hY2.size
      clear T4 hA2 hO hY2 l0 l1 l2 l3 l4 l5
      have hn' : (n == 0) = false := by simpa using hn
      go_wp2_with fail
      refine (ints_one A2 _ c2 _ W hb.1 ws2 hwl2 _ hA3 hO3).mono ?_; rintro e Y3 ⟨rfl, hY3⟩
      have T6 := T5.below.trans (below_down T5.below.size hY3)
      rw [hone.out]
      clear hA3 hO3 hY3
      by_cases hd : n.tmod ((W : Int) * (b : Int)) = 0
      · have hd' : (n.tmod ((W : Int) * (b : Int)) == 0) = true := by simpa using hd
        go_wp2_with fail
        refine (awake_pa _).mono ?_; rintro e Y4 ⟨rfl, hY4⟩
        go_wp2
        go_ret
        exact ⟨rfl, T6.trans (below_down T6.size hY4)⟩
      · have hd' : (n.tmod ((W : Int) * (b : Int)) == 0) = false := by simpa using hd
        go_wp2_with fail
        refine (awake_pa _).mono ?_; rintro e Y4 ⟨rfl, hY4⟩
        go_wp2
        go_ret
        exact ⟨rfl, T6.trans (below_down T6.size hY4)⟩
    · have he' : (er == 0) = false := by simpa using he
      have HE := Lib.hid he
      clear he
      obtain ⟨l0, l1, l2, l3, l4, l5⟩ := T2.line
      go_wp2_with (with_reducible refine wp_make sliceInt rfl _ _ rfl w.heap.size W W W rfl rfl rfl rfl ?c2 ?c3 ?_)
      case c2 => omega
      case c3 => exact T2.below.size
      intro X hown hg
      have hrow : RowIs X V.heap.size 3 (ints (List.replicate W 0)) := by
        rw [ints_replicate]
        simpa [RowIs] using row_full hown
      have hBX : Below V.heap.size V X := below_grown0 (Below.refl _ _) hg (Nat.le_refl _)
      have T3 : SfW w W b a2 a3 a4 a5 lo hi B (X.setCell ⟨V.heap.size, 0, none⟩ (.int .i64 1)) := T2.after (hBX.setCell (Nat.le_refl _) _)
      have hrow2 : RowIs (X.setCell ⟨V.heap.size, 0, none⟩ (.int .i64 1)) V.heap.size 3 (ints (oneS W)) := by
        have := hrow.set 0 (.int .i64 1)
        rw [ints_set] at this
        have e : (List.replicate W (0 : Int)).set 0 1 = oneS W := by
          obtain ⟨V, rfl⟩ : ∃ V, W = V + 1 := ⟨W - 1, by omega⟩
          rfl
        rw [e] at this
        exact this
      have hcell : X.cell? ⟨V.heap.size, 0, none⟩ = some (.int .i64 0) := by
        rw [hrow.cell, ints_get, List.getElem?_replicate, if_pos (by omega)]; rfl
      have hfr := hrow.frozen 0
      obtain ⟨⟨m0, m1, m2, m3, m4, m5⟩, q0, q1, q2, q3, q4⟩ := T3
      clear q0 q1 q2 q3 q4
      have T3 : SfW w W b a2 a3 a4 a5 lo hi B (X.setCell ⟨V.heap.size, 0, none⟩ (.int .i64 1)) := T2.after (hBX.setCell (Nat.le_refl _) _)
      have h0W : 0 < W := by omega
      clear l0 l1 l2 l3 l4 l5 hown hg hrow T2 hBX
      go_wp2_with fail
      obtain ⟨X1, hX1⟩ : ∃ X1, X1 = X.setCell ⟨V.heap.size, 0, none⟩ (.int .i64 1) := ⟨_, rfl⟩
      rw [← hX1] at T3 hrow2 ⊢
      have hs1 : X1.heap.size = X.heap.size := by rw [hX1]; simp
      clear hcell hfr m0 m1 m2 m3 m4 m5 hX1
      have hr3 := hrow2.alloc (.cells #[.int .i64 T] 3)
      have hr4 : (X1.alloc (.cells #[.int .i64 T] 3)).heap[V.heap.size]? = some (.cells ((oneS W).map (Value.int .i64)).toArray 3 (0, 0)) := hr3
      have hP1 : IntsAt (X1.alloc (.cells #[.int .i64 T] 3)) (X1.alloc (.cells #[.int .i64 T] 3)).heap.size (some ⟨V.heap.size, 0, none⟩) (oneS W) := ListAt.row hr4
      have hP2 : IntsAt (X1.alloc (.cells #[.int .i64 T] 3)) (X1.alloc (.cells #[.int .i64 T] 3)).heap.size (some ⟨X1.heap.size, 0, none⟩) [T] := ListAt.row (f := Value.int .i64) (xs := [T]) (heap_alloc_new X1 _)
      rw [hs1] at hP2
      clear hr4 hs1
      obtain ⟨X2, hX2⟩ : ∃ X2, X2 = X1.alloc (.cells #[.int .i64 T] 3) := ⟨_, rfl⟩
      have hBX2 : Below X1.heap.size X1 X2 := by rw [hX2]; exact Below.alloc (Below.refl _ X1) (Nat.le_refl _) _
      rw [← hX2] at hP1 hP2 hr3 ⊢
      clear hX2
      refine (KQ.out (some ⟨V.heap.size, 0, none⟩) (some ⟨X.heap.size, 0, none⟩) W 1 X2 hP1 hP2).mono ?_
      clear hP1 hP2
      rintro e Y ⟨A2, c2, rfl, hA2, hY⟩
      have T4 := (T3.after hBX2).after hY
      have hr5 : Y.heap[V.heap.size]? = some (.cells ((oneS W).map (Value.int .i64)).toArray 3 (0, 0)) := hr3.below hY hr3.lt
      have hO : IntsAt Y Y.heap.size (some ⟨V.heap.size, 0, none⟩) (oneS W) := ListAt.row hr5
      clear T3 hrow2 hr3 hr5 hY hBX2
      obtain ⟨l0, l1, l2, l3, l4, l5⟩ := T4.line
      go_wp2_with fail
      refine (K.out _).mono ?_; rintro e Y2 ⟨rfl, hY2⟩
      have T5 := T4.after hY2
      have hA3 := (hA2.below hY2).more hY2.size
      have hO3 := (hO.below hY2).more hY2.size
      clear T4 hA2 hO hY2 l0 l1 l2 l3 l4 l5
      have hn' : (n == 0) = false := by simpa using hn
      go_wp2_with fail
      refine (ints_one A2 _ c2 _ W hb.1 ws2 hwl2 _ hA3 hO3).mono ?_; rintro e Y3 ⟨rfl, hY3⟩
      have T6 := T5.below.trans (below_down T5.below.size hY3)
      rw [hone.out]
      clear hA3 hO3 hY3
      by_cases hd : n.tmod ((W : Int) * (b : Int)) = 0
      · have hd' : (n.tmod ((W : Int) * (b : Int)) == 0) = true := by simpa using hd
        go_wp2_with fail
        refine (awake_pa _).mono ?_; rintro e Y4 ⟨rfl, hY4⟩
        go_wp2
        go_ret
        exact ⟨rfl, T6.trans (below_down T6.size hY4)⟩
      · have hd' : (n.tmod ((W : Int) * (b : Int)) == 0) = false := by simpa using hd
        go_wp2_with fail
        refine (awake_pa _).mono ?_; rintro e Y4 ⟨rfl, hY4⟩
        go_wp2
        go_ret
        exact ⟨rfl, T6.trans (below_down T6.size hY4)⟩
  · have g1 : decide (lo ≤ T) = true := by simpa using i1
    have g2 : decide (T ≤ hi) = false := by simpa using i2
    have hwm : wrap64 ((W : Int) * (b : Int)) = ((W * b : Nat) : Int) := by
      have := mul_bound (a := (W : Int)) (b := (b : Int)) (by omega)
      rw [Int.natCast_mul]
      exact wrap_in (by omega) (by omega)
    have hm0 : ¬ ((W * b : Nat) : Int) = 0 := by
      have := Nat.mul_pos (show 0 < W by omega) (show 0 < b by omega)
      omega
    go_enter Try.func11, Try.ntmps11
    go_wp2_with fail
    have hB0 : Below w.heap.size w (w.alloc (.cells #[.int .i64 W, .int .i64 b, .int .i64 a2, .int .i64 a3, .int .i64 a4, .int .i64 a5] 25)) := by go_grown
    have hL : LineAt (w.alloc (.cells #[.int .i64 W, .int .i64 b, .int .i64 a2, .int .i64 a3, .int .i64 a4, .int .i64 a5] 25)) w.heap.size W b a2 a3 a4 a5 := by constructor <;> simp [go_sem]
    have hsz : w.heap.size < (w.alloc (.cells #[.int .i64 W, .int .i64 b, .int .i64 a2, .int .i64 a3, .int .i64 a4, .int .i64 a5] 25)).heap.size := by simp
    refine (KS.out _).mono ?_; rintro e U ⟨rfl, hU⟩
    have hLU := hL.below hU hsz
    have hBU := hB0.trans (below_down hB0.size hU)
    have hlt : w.heap.size < U.heap.size := Nat.lt_of_lt_of_le hsz hU.size
    clear hB0 hL hU hsz
    go_wp2_with fail
    have T1 : SfW w W b a2 a3 a4 a5 lo hi U.heap.size (U.alloc (.cells #[.int .i64 lo, .int .i64 hi] 31)) :=
      ⟨hLU.below (Below.alloc (Below.refl _ U) (Nat.le_refl _) _) hlt, by simp [go_sem], by simp [go_sem], hlt, hBU.alloc hBU.size _, by simp⟩
    obtain ⟨V, hV⟩ : ∃ V, V = U.alloc (.cells #[.int .i64 lo, .int .i64 hi] 31) := ⟨_, rfl⟩
    obtain ⟨B, hB⟩ : ∃ B, B = U.heap.size := ⟨_, rfl⟩
    rw [← hV, ← hB] at T1 ⊢
    clear hV hB hLU hBU hlt
    refine (rtemp_t T hT _).mono ?_; rintro e Z ⟨rfl, rfl⟩
    obtain ⟨⟨l0, l1, l2, l3, l4, l5⟩, s0, s1, slt, sb, ssz⟩ := T1
    have T1 : SfW w W b a2 a3 a4 a5 lo hi B Z := ⟨⟨l0, l1, l2, l3, l4, l5⟩, s0, s1, slt, sb, ssz⟩
    go_wp2_with fail
    refine (KP.out _ _ _ ((hR.below (T1.below.alloc T1.below.size _)).more (T1.below.alloc T1.below.size _).size) (ListAt.row (f := Value.int .i64) (xs := [T]) (heap_alloc_new Z _))).mono ?_
    rintro e V ⟨A, c, rfl, hA, hV⟩
    have T2 := (T1.after (Below.alloc (Below.refl _ Z) (Nat.le_refl _) _)).after hV
    have hRV := (hR.below T2.below).more T2.below.size
    clear T1 hV l0 l1 l2 l3 l4 l5 s0 s1 slt sb ssz
    by_cases he : er = 0
    · subst he
      obtain ⟨l0, l1, l2, l3, l4, l5⟩ := T2.line
      go_wp2_with (with_reducible refine wp_make sliceInt rfl _ _ rfl w.heap.size W W W rfl rfl rfl rfl ?c2 ?c3 ?_)
      case c2 => omega
      case c3 => exact T2.below.size
      intro X hown hg
      have hrow : RowIs X V.heap.size 3 (ints (List.replicate W 0)) := by
        rw [ints_replicate]
        simpa [RowIs] using row_full hown
      have hBX : Below V.heap.size V X := below_grown0 (Below.refl _ _) hg (Nat.le_refl _)
      have T3 : SfW w W b a2 a3 a4 a5 lo hi B (X.setCell ⟨V.heap.size, 0, none⟩ (.int .i64 1)) := T2.after (hBX.setCell (Nat.le_refl _) _)
      have hrow2 : RowIs (X.setCell ⟨V.heap.size, 0, none⟩ (.int .i64 1)) V.heap.size 3 (ints (oneS W)) := by
        have := hrow.set 0 (.int .i64 1)
        rw [ints_set] at this
        have e : (List.replicate W (0 : Int)).set 0 1 = oneS W := by
          obtain ⟨V, rfl⟩ : ∃ V, W = V + 1 := ⟨W - 1, by omega⟩
          rfl
        rw [e] at this
        exact this
      have hcell : X.cell? ⟨V.heap.size, 0, none⟩ = some (.int .i64 0) := by
        rw [hrow.cell, ints_get, List.getElem?_replicate, if_pos (by omega)]; rfl
      have hfr := hrow.frozen 0
      obtain ⟨⟨m0, m1, m2, m3, m4, m5⟩, q0, q1, q2, q3, q4⟩ := T3
      clear q0 q1 q2 q3 q4
      have T3 : SfW w W b a2 a3 a4 a5 lo hi B (X.setCell ⟨V.heap.size, 0, none⟩ (.int .i64 1)) := T2.after (hBX.setCell (Nat.le_refl _) _)
      have h0W : 0 < W := by omega
      clear l0 l1 l2 l3 l4 l5 hown hg hrow T2 hBX
      go_wp2_with fail
      obtain ⟨X1, hX1⟩ : ∃ X1, X1 = X.setCell ⟨V.heap.size, 0, none⟩ (.int .i64 1) := ⟨_, rfl⟩
      rw [← hX1] at T3 hrow2 ⊢
      have hs1 : X1.heap.size = X.heap.size := by rw [hX1]; simp
      clear hcell hfr m0 m1 m2 m3 m4 m5 hX1
      have hr3 := hrow2.alloc (.cells #[.int .i64 T] 3)
      have hr4 : (X1.alloc (.cells #[.int .i64 T] 3)).heap[V.heap.size]? = some (.cells ((oneS W).map (Value.int .i64)).toArray 3 (0, 0)) := hr3
      have hP1 : IntsAt (X1.alloc (.cells #[.int .i64 T] 3)) (X1.alloc (.cells #[.int .i64 T] 3)).heap.size (some ⟨V.heap.size, 0, none⟩) (oneS W) := ListAt.row hr4
      have hP2 : IntsAt (X1.alloc (.cells #[.int .i64 T] 3)) (X1.alloc (.cells #[.int .i64 T] 3)).heap.size (some ⟨X1.heap.size, 0, none⟩) [T] := ListAt.row (f := Value.int .i64) (xs := [T]) (heap_alloc_new X1 _)
      rw [hs1] at hP2
      clear hr4 hs1
      obtain ⟨X2, hX2⟩ : ∃ X2, X2 = X1.alloc (.cells #[.int .i64 T] 3) := ⟨_, rfl⟩
      have hBX2 : Below X1.heap.size X1 X2 := by rw [hX2]; exact Below.alloc (Below.refl _ X1) (Nat.le_refl _) _
      rw [← hX2] at hP1 hP2 hr3 ⊢
      clear hX2
      refine (KQ.out (some ⟨V.heap.size, 0, none⟩) (some ⟨X.heap.size, 0, none⟩) W 1 X2 hP1 hP2).mono ?_
      clear hP1 hP2
      rintro e Y ⟨A2, c2, rfl, hA2, hY⟩
      have T4 := (T3.after hBX2).after hY
      have hr5 : Y.heap[V.heap.size]? = some (.cells ((oneS W).map (Value.int .i64)).toArray 3 (0, 0)) := hr3.below hY hr3.lt
      have hO : IntsAt Y Y.heap.size (some ⟨V.heap.size, 0, none⟩) (oneS W) := ListAt.row hr5
      clear T3 hrow2 hr3 hr5 hY hBX2
      obtain ⟨l0, l1, l2, l3, l4, l5⟩ := T4.line
      go_wp2_with fail
      refine (K.out _).mono ?_; rintro e Y2 ⟨rfl, hY2⟩
      have T5 := T4.after hY2
      have hA3 := (hA2.below hY2).more hY2.size
      have hO3 := (hO.below hY2).more hY2.size
      clear T4 hA2 hO hY2 l0 l1 l2 l3 l4 l5
      have hn' : (n == 0) = false := by simpa using hn
      go_wp2_with fail
      refine (ints_one A2 _ c2 _ W hb.1 ws2 hwl2 _ hA3 hO3).mono ?_; rintro e Y3 ⟨rfl, hY3⟩
      have T6 := T5.below.trans (below_down T5.below.size hY3)
      rw [hone.out]
      clear hA3 hO3 hY3
      by_cases hd : n.tmod ((W : Int) * (b : Int)) = 0
      · have hd' : (n.tmod ((W : Int) * (b : Int)) == 0) = true := by simpa using hd
        go_wp2_with fail
        refine (awake_pa _).mono ?_; rintro e Y4 ⟨rfl, hY4⟩
        go_wp2
        go_ret
        exact ⟨rfl, T6.trans (below_down T6.size hY4)⟩
      · have hd' : (n.tmod ((W : Int) * (b : Int)) == 0) = false := by simpa using hd
        go_wp2_with fail
        refine (awake_pa _).mono ?_; rintro e Y4 ⟨rfl, hY4⟩
        go_wp2
        go_ret
        exact ⟨rfl, T6.trans (below_down T6.size hY4)⟩
    · have he' : (er == 0) = false := by simpa using he
      have HE := Lib.hid he
      clear he
      obtain ⟨l0, l1, l2, l3, l4, l5⟩ := T2.line
      go_wp2_with (with_reducible refine wp_make sliceInt rfl _ _ rfl w.heap.size W W W rfl rfl rfl rfl ?c2 ?c3 ?_)
      case c2 => omega
      case c3 => exact T2.below.size
      intro X hown hg
      have hrow : RowIs X V.heap.size 3 (ints (List.replicate W 0)) := by
        rw [ints_replicate]
        simpa [RowIs] using row_full hown
      have hBX : Below V.heap.size V X := below_grown0 (Below.refl _ _) hg (Nat.le_refl _)
      have T3 : SfW w W b a2 a3 a4 a5 lo hi B (X.setCell ⟨V.heap.size, 0, none⟩ (.int .i64 1)) := T2.after (hBX.setCell (Nat.le_refl _) _)
      have hrow2 : RowIs (X.setCell ⟨V.heap.size, 0, none⟩ (.int .i64 1)) V.heap.size 3 (ints (oneS W)) := by
        have := hrow.set 0 (.int .i64 1)
        rw [ints_set] at this
        have e : (List.replicate W (0 : Int)).set 0 1 = oneS W := by
          obtain ⟨V, rfl⟩ : ∃ V, W = V + 1 := ⟨W - 1, by omega⟩
          rfl
        rw [e] at this
        exact this
      have hcell : X.cell? ⟨V.heap.size, 0, none⟩ = some (.int .i64 0) := by
        rw [hrow.cell, ints_get, List.getElem?_replicate, if_pos (by omega)]; rfl
      have hfr := hrow.frozen 0
      obtain ⟨⟨m0, m1, m2, m3, m4, m5⟩, q0, q1, q2, q3, q4⟩ := T3
      clear q0 q1 q2 q3 q4
      have T3 : SfW w W b a2 a3 a4 a5 lo hi B (X.setCell ⟨V.heap.size, 0, none⟩ (.int .i64 1)) := T2.after (hBX.setCell (Nat.le_refl _) _)
      have h0W : 0 < W := by omega
      clear l0 l1 l2 l3 l4 l5 hown hg hrow T2 hBX
      go_wp2_with fail
      obtain ⟨X1, hX1⟩ : ∃ X1, X1 = X.setCell ⟨V.heap.size, 0, none⟩ (.int .i64 1) := ⟨_, rfl⟩
      rw [← hX1] at T3 hrow2 ⊢
      have hs1 : X1.heap.size = X.heap.size := by rw [hX1]; simp
      clear hcell hfr m0 m1 m2 m3 m4 m5 hX1
      have hr3 := hrow2.alloc (.cells #[.int .i64 T] 3)
      have hr4 : (X1.alloc (.cells #[.int .i64 T] 3)).heap[V.heap.size]? = some (.cells ((oneS W).map (Value.int .i64)).toArray 3 (0, 0)) := hr3
      have hP1 : IntsAt (X1.alloc (.cells #[.int .i64 T] 3)) (X1.alloc (.cells #[.int .i64 T] 3)).heap.size (some ⟨V.heap.size, 0, none⟩) (oneS W) := ListAt.row hr4
      have hP2 : IntsAt (X1.alloc (.cells #[.int .i64 T] 3)) (X1.alloc (.cells #[.int .i64 T] 3)).heap.size (some ⟨X1.heap.size, 0, none⟩) [T] := ListAt.row (f := Value.int .i64) (xs := [T]) (heap_alloc_new X1 _)
      rw [hs1] at hP2
      clear hr4 hs1
      obtain ⟨X2, hX2⟩ : ∃ X2, X2 = X1.alloc (.cells #[.int .i64 T] 3) := ⟨_, rfl⟩
      have hBX2 : Below X1.heap.size X1 X2 := by rw [hX2]; exact Below.alloc (Below.refl _ X1) (Nat.le_refl _) _
      rw [← hX2] at hP1 hP2 hr3 ⊢
      clear hX2
      refine (KQ.out (some ⟨V.heap.size, 0, none⟩) (some ⟨X.heap.size, 0, none⟩) W 1 X2 hP1 hP2).mono ?_
      clear hP1 hP2
      rintro e Y ⟨A2, c2, rfl, hA2, hY⟩
      have T4 := (T3.after hBX2).after hY
      have hr5 : Y.heap[V.heap.size]? = some (.cells ((oneS W).map (Value.int .i64)).toArray 3 (0, 0)) := hr3.below hY hr3.lt
      have hO : IntsAt Y Y.heap.size (some ⟨V.heap.size, 0, none⟩) (oneS W) := ListAt.row hr5
      clear T3 hrow2 hr3 hr5 hY hBX2
      obtain ⟨l0, l1, l2, l3, l4, l5⟩ := T4.line
      go_wp2_with fail
      refine (K.out _).mono ?_; rintro e Y2 ⟨rfl, hY2⟩
      have T5 := T4.after hY2
      have hA3 := (hA2.below hY2).more hY2.size
      have hO3 := (hO.below hY2).more hY2.size
      clear T4 hA2 hO hY2 l0 l1 l2 l3 l4 l5
      have hn' : (n == 0) = false := by simpa using hn
      go_wp2_with fail
      refine (ints_one A2 _ c2 _ W hb.1 ws2 hwl2 _ hA3 hO3).mono ?_; rintro e Y3 ⟨rfl, hY3⟩
      have T6 := T5.below.trans (below_down T5.below.size hY3)
      rw [hone.out]
      clear hA3 hO3 hY3
      by_cases hd : n.tmod ((W : Int) * (b : Int)) = 0
      · have hd' : (n.tmod ((W : Int) * (b : Int)) == 0) = true := by simpa using hd
        go_wp2_with fail
        refine (awake_pa _).mono ?_; rintro e Y4 ⟨rfl, hY4⟩
        go_wp2
        go_ret
        exact ⟨rfl, T6.trans (below_down T6.size hY4)⟩
      · have hd' : (n.tmod ((W : Int) * (b : Int)) == 0) = false := by simpa using hd
        go_wp2_with fail
        refine (awake_pa _).mono ?_; rintro e Y4 ⟨rfl, hY4⟩
        go_wp2
        go_ret
        exact ⟨rfl, T6.trans (below_down T6.size hY4)⟩

end Go.Proofs.Ytplipfcnjmgicaa
