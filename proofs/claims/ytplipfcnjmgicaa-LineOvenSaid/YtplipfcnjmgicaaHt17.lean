/-
  Oven and Keeps, the program's and the reference's, together; an oven and its line in memory. No statement is proved here.
-/
import Derived.Test.YtplipfcnjmgicaaHt16
import Derived.Test.YtplipfcnjmgicaaAwake
namespace Go.Proofs.Ytplipfcnjmgicaa
open Go.RowKit Go.Maps Go.Sort
set_option linter.unusedVariables false
set_option linter.unusedSimpArgs false

theorem awake_ht (w : World) : Calls Try.prog 22 #[] w fun e w' => e = .returned (.bool true) ∧ Below w.heap.size w w' := Go.Proofs.Ev.awake w
theorem OvenOutE.same {er : Int} {o : Ov} {tl th : Int} {h : Bool} {mi lo hi lo' hi' : Int} (a : er = 0 → OvenIs o tl th h mi.toNat lo hi) (b : er ≠ 0 → lo = 0 ∧ hi = 0) (a' : er = 0 → OvenIs o tl th h mi.toNat lo' hi') (b' : er ≠ 0 → lo' = 0 ∧ hi' = 0) : lo' = lo ∧ hi' = hi := by
  by_cases e : er = 0
  · have := (a' e).same (a e)
    exact this
  · have h1 := b e
    have h2 := b' e
    omega
theorem KeepsOutE.same {er : Int} {o : Ov} {tl th : Int} {h : Bool} {mi r r' : Int} {f : Int → Bool} (a : er = 0 → KeepsIs o tl th h mi.toNat f r) (b : er ≠ 0 → r = 0) (a' : er = 0 → KeepsIs o tl th h mi.toNat f r') (b' : er ≠ 0 → r' = 0) : r' = r := by
  by_cases e : er = 0
  · exact (a' e).same (a e)
  · rw [b e, b' e]
/-- Keeps of both, with one error. -/
theorem keeps_two (a0 a1 a2 a3 a4 a5 : Int) (o : Ov) (tl th : Int) (h : Bool) (mi : Int) : ∃ er f, (OkLine a0 a1 a2 a3 a4 a5 → er = ovenErr o tl th mi ∧ f = safeB a0 a1 a2 a3 a4 a5) ∧ (¬ OkLine a0 a1 a2 a3 a4 a5 → er = 7) ∧
    (∀ w, Calls Try.prog 38 #[lineV a0 a1 a2 a3 a4 a5, ovV o, .agg #[.int .i64 tl, .int .i64 th], .bool h, .int .i64 mi] w (KeepsOutE er o tl th h mi f w)) ∧
    (∀ w, Calls Try.prog 39 #[lineV a0 a1 a2 a3 a4 a5, ovV o, .agg #[.int .i64 tl, .int .i64 th], .bool h, .int .i64 mi] w (KeepsOutE er o tl th h mi f w)) := by
  by_cases hl : OkLine a0 a1 a2 a3 a4 a5
  · exact ⟨_, _, fun _ => ⟨rfl, rfl⟩, fun e => (e hl).elim, fun w => keeps_any a0 a1 a2 a3 a4 a5 hl o tl th h mi w, fun w => rkeeps_any a0 a1 a2 a3 a4 a5 hl _ (Lib.hid fun T hT w => rsafe_all a0 a1 a2 a3 a4 a5 hl T hT w) o tl th h mi w⟩
  · refine ⟨7, fun _ => true, fun e => (hl e).elim, fun _ => rfl, fun w => (keeps_badline a0 a1 a2 a3 a4 a5 hl o tl th h mi w).mono ?_, fun w => (rkeeps_badline a0 a1 a2 a3 a4 a5 hl o tl th h mi w).mono ?_⟩
    · rintro e w' ⟨rfl, hb⟩
      exact ⟨⟨0, fun e => (by cases e), fun _ => rfl, rfl⟩, hb⟩
    · rintro e w' ⟨rfl, hb⟩
      exact ⟨⟨0, fun e => (by cases e), fun _ => rfl, rfl⟩, hb⟩

/-- A line, and an oven with its temperatures and minutes, in two blocks. -/
structure LhW (w : World) (a0 a1 a2 a3 a4 a5 : Int) (o : Ov) (tl th : Int) (h : Bool) (mi : Int) (U : World) : Prop where
  l0 : U.cell? ⟨w.heap.size, 0, none⟩ = some (.int .i64 a0)
  l1 : U.cell? ⟨w.heap.size, 1, none⟩ = some (.int .i64 a1)
  l2 : U.cell? ⟨w.heap.size, 2, none⟩ = some (.int .i64 a2)
  l3 : U.cell? ⟨w.heap.size, 3, none⟩ = some (.int .i64 a3)
  l4 : U.cell? ⟨w.heap.size, 4, none⟩ = some (.int .i64 a4)
  l5 : U.cell? ⟨w.heap.size, 5, none⟩ = some (.int .i64 a5)
  o0 : U.cell? ⟨w.heap.size + 1, 0, none⟩ = some (.int .i64 o.low)
  o1 : U.cell? ⟨w.heap.size + 1, 1, none⟩ = some (.int .i64 o.high)
  o2 : U.cell? ⟨w.heap.size + 1, 2, none⟩ = some (.int .i64 o.wl)
  o3 : U.cell? ⟨w.heap.size + 1, 3, none⟩ = some (.int .i64 o.wh)
  o4 : U.cell? ⟨w.heap.size + 1, 4, none⟩ = some (.int .i64 o.cl)
  o5 : U.cell? ⟨w.heap.size + 1, 5, none⟩ = some (.int .i64 o.ch)
  t0 : U.cell? ⟨w.heap.size + 1, 6, none⟩ = some (.int .i64 tl)
  t1 : U.cell? ⟨w.heap.size + 1, 7, none⟩ = some (.int .i64 th)
  hc : U.cell? ⟨w.heap.size + 1, 8, none⟩ = some (.bool h)
  mc : U.cell? ⟨w.heap.size + 1, 9, none⟩ = some (.int .i64 mi)
  below : Below w.heap.size w U
  size : w.heap.size + 1 < U.heap.size
abbrev heatedV (o : Ov) (tl th : Int) (h : Bool) (mi : Int) : Value := .agg #[.int .i64 o.low, .int .i64 o.high, .int .i64 o.wl, .int .i64 o.wh, .int .i64 o.cl, .int .i64 o.ch, .int .i64 tl, .int .i64 th, .bool h, .int .i64 mi]
abbrev lhX (w : World) (a0 a1 a2 a3 a4 a5 : Int) (o : Ov) (tl th : Int) (h : Bool) (mi : Int) : World := (w.alloc (.cells #[.int .i64 a0, .int .i64 a1, .int .i64 a2, .int .i64 a3, .int .i64 a4, .int .i64 a5] 25)).alloc (.cells #[.int .i64 o.low, .int .i64 o.high, .int .i64 o.wl, .int .i64 o.wh, .int .i64 o.cl, .int .i64 o.ch, .int .i64 tl, .int .i64 th, .bool h, .int .i64 mi] 52)
theorem LhW.new (w : World) (a0 a1 a2 a3 a4 a5 : Int) (o : Ov) (tl th : Int) (h : Bool) (mi : Int) : LhW w a0 a1 a2 a3 a4 a5 o tl th h mi (lhX w a0 a1 a2 a3 a4 a5 o tl th h mi) := by
  refine ⟨?_, ?_, ?_, ?_, ?_, ?_, ?_, ?_, ?_, ?_, ?_, ?_, ?_, ?_, ?_, ?_, by unfold lhX; go_grown, by simp [lhX]⟩ <;> simp [lhX, go_sem]
theorem LhW.under {w : World} {a0 a1 a2 a3 a4 a5 : Int} {o : Ov} {tl th : Int} {h : Bool} {mi : Int} {U V : World} (p : LhW w a0 a1 a2 a3 a4 a5 o tl th h mi U) (hb : Below U.heap.size U V) : LhW w a0 a1 a2 a3 a4 a5 o tl th h mi V := by
  have hs := p.size
  have c : ∀ k j, k ≤ w.heap.size + 1 → V.cell? ⟨k, j, none⟩ = U.cell? ⟨k, j, none⟩ := fun k j hk => hb.cell (p := ⟨k, j, none⟩) (show k < U.heap.size by omega)
  exact ⟨(c _ _ (by omega)).trans p.l0, (c _ _ (by omega)).trans p.l1, (c _ _ (by omega)).trans p.l2, (c _ _ (by omega)).trans p.l3, (c _ _ (by omega)).trans p.l4, (c _ _ (by omega)).trans p.l5,
    (c _ _ (by omega)).trans p.o0, (c _ _ (by omega)).trans p.o1, (c _ _ (by omega)).trans p.o2, (c _ _ (by omega)).trans p.o3, (c _ _ (by omega)).trans p.o4, (c _ _ (by omega)).trans p.o5,
    (c _ _ (by omega)).trans p.t0, (c _ _ (by omega)).trans p.t1, (c _ _ (by omega)).trans p.hc, (c _ _ (by omega)).trans p.mc, p.below.trans (hb.mono (by omega)), Nat.lt_of_lt_of_le hs hb.size⟩

set_option maxRecDepth 100000 in
set_option maxHeartbeats 1000000 in
theorem ovens_walk (w : World) (a0 a1 a2 a3 a4 a5 : Int) (o : Ov) (tl th : Int) (h : Bool) (mi : Int) (wmi : (Lit.int .i64 mi).wf = true) :
    Calls Try.prog 8 #[lineV a0 a1 a2 a3 a4 a5, heatedV o tl th h mi] w fun e w' => e = .returned (.bool true) ∧ Below w.heap.size w w' := by
  clear wmi
  have KO := Lib.hid (fun w => oven_any o tl th h mi w)
  have KR := Lib.hid (fun w => roven_run o tl th h mi w)
  unfold OvenOut at KO KR
  generalize ovenErr o tl th mi = er at *
  obtain ⟨er2, f, _, _, k1, k2⟩ := keeps_two a0 a1 a2 a3 a4 a5 o tl th h mi
  have K1 := Lib.hid k1
  have K2 := Lib.hid k2
  have hX := LhW.new w a0 a1 a2 a3 a4 a5 o tl th h mi
  unfold lhX at hX
  clear k1 k2
  have ⟨l0, l1, l2, l3, l4, l5, o0, o1, o2, o3, o4, o5, t0, t1, hc, mc, hb, hz⟩ := hX
  go_enter Try.func8, Try.ntmps8
  go_wp2_with fail
  refine (KO.out _).mono ?_; rintro e U ⟨⟨lo, hi, p1, p2, rfl⟩, hU⟩
  have hX1 := hX.under hU
  have HP := Lib.hid (And.intro p1 p2)
  clear p1 p2 hU hX l0 l1 l2 l3 l4 l5 o0 o1 o2 o3 o4 o5 t0 t1 hc mc hb hz
  have hX1a := hX1.under ((Below.refl _ U).alloc (Nat.le_refl _) (.cells #[.int .i64 lo, .int .i64 hi] 31))
  have s0 : (U.alloc (.cells #[.int .i64 lo, .int .i64 hi] 31)).cell? ⟨U.heap.size, 0, none⟩ = some (.int .i64 lo) := by simp [go_sem]
  have s1 : (U.alloc (.cells #[.int .i64 lo, .int .i64 hi] 31)).cell? ⟨U.heap.size, 1, none⟩ = some (.int .i64 hi) := by simp [go_sem]
  have ⟨l0, l1, l2, l3, l4, l5, o0, o1, o2, o3, o4, o5, t0, t1, hc, mc, hb, hz⟩ := hX1a
  go_wp2_with fail
  refine (KR.out _).mono ?_; rintro e V ⟨⟨lo', hi', p1, p2, rfl⟩, hV⟩
  obtain ⟨rfl, rfl⟩ := OvenOutE.same HP.out.1 HP.out.2 p1 p2
  have hX2 := hX1a.under hV
  have sl : U.heap.size < (U.alloc (.cells #[.int .i64 lo', .int .i64 hi'] 31)).heap.size := by simp
  have z0 := (hV.cell (p := ⟨U.heap.size, 0, none⟩) sl).trans s0
  have z1 := (hV.cell (p := ⟨U.heap.size, 1, none⟩) sl).trans s1
  have zl : U.heap.size < V.heap.size := Nat.lt_of_lt_of_le sl hV.size
  clear p1 p2 hV hX1a hX1 s0 s1 sl l0 l1 l2 l3 l4 l5 o0 o1 o2 o3 o4 o5 t0 t1 hc mc hb hz HP
  have hX2a := hX2.under ((Below.refl _ V).alloc (Nat.le_refl _) (.cells #[.int .i64 lo', .int .i64 hi'] 31))
  have y0 : (V.alloc (.cells #[.int .i64 lo', .int .i64 hi'] 31)).cell? ⟨U.heap.size, 0, none⟩ = some (.int .i64 lo') := cell_alloc_v _ z0
  have y1 : (V.alloc (.cells #[.int .i64 lo', .int .i64 hi'] 31)).cell? ⟨U.heap.size, 1, none⟩ = some (.int .i64 hi') := cell_alloc_v _ z1
  have x0 : (V.alloc (.cells #[.int .i64 lo', .int .i64 hi'] 31)).cell? ⟨V.heap.size, 0, none⟩ = some (.int .i64 lo') := by simp [go_sem]
  have x1 : (V.alloc (.cells #[.int .i64 lo', .int .i64 hi'] 31)).cell? ⟨V.heap.size, 1, none⟩ = some (.int .i64 hi') := by simp [go_sem]
  have ⟨l0, l1, l2, l3, l4, l5, o0, o1, o2, o3, o4, o5, t0, t1, hc, mc, hb, hz⟩ := hX2a
  go_wp2_with fail
  refine (K1.out _).mono ?_; rintro e X ⟨⟨r, p1, p2, rfl⟩, hX3⟩
  have hX4 := hX2a.under hX3
  have HP := Lib.hid (And.intro p1 p2)
  clear p1 p2 hX3 hX2a hX2 y0 y1 x0 x1 z0 z1 l0 l1 l2 l3 l4 l5 o0 o1 o2 o3 o4 o5 t0 t1 hc mc hb hz
  have ⟨l0, l1, l2, l3, l4, l5, o0, o1, o2, o3, o4, o5, t0, t1, hc, mc, hb, hz⟩ := hX4
  go_wp2_with fail
  refine (K2.out _).mono ?_; rintro e Y ⟨⟨r', p1, p2, rfl⟩, hY⟩
  obtain rfl := KeepsOutE.same HP.out.1 HP.out.2 p1 p2
  have hb5 := (hX4.under hY).below
  clear p1 p2 hY hX4 l0 l1 l2 l3 l4 l5 o0 o1 o2 o3 o4 o5 t0 t1 hc mc hb hz HP
  go_wp2_with fail
  refine (awake_ht _).mono ?_; rintro e Z ⟨rfl, hZ⟩
  go_wp2
  go_ret
  exact ⟨rfl, hb5.trans (hZ.mono hb5.size)⟩
end Go.Proofs.Ytplipfcnjmgicaa
