/-
  THE CONTRACT OF Keeps. No statement is proved here.
-/
import Derived.Test.YtplipfcnjmgicaaHt10
namespace Go.Proofs.Ytplipfcnjmgicaa
open Go.RowKit Go.Shelf
set_option linter.unusedVariables false
set_option linter.unusedSimpArgs false
attribute [local go_sem] Oper.semAt_some

/-- The line is safe at the temperature T, which may be none. -/
def safeB (a0 a1 a2 a3 a4 a5 T : Int) : Bool := tB T && safeAt a0 a1 a2 a3 a4 a5 T
theorem isSafe_all (a0 a1 a2 a3 a4 a5 : Int) (h : OkLine a0 a1 a2 a3 a4 a5) (T : Int) (w : World) :
    Calls Try.prog 81 #[.agg #[.int .i64 a0, .int .i64 a1, .int .i64 a2, .int .i64 a3, .int .i64 a4, .int .i64 a5], .int .i64 T] w fun e w' => e = .returned (.bool (safeB a0 a1 a2 a3 a4 a5 T)) ∧ Below w.heap.size w w' := by
  unfold safeB
  cases ht : tB T with
  | true => simpa using isSafe_ok a0 a1 a2 a3 a4 a5 T h (tB_t ht) w
  | false => simpa using isSafe_far a0 a1 a2 a3 a4 a5 T (tB_f ht) w
/-- What Keeps answers, where er is the error. -/
def KeepsOutE (er : Int) (o : Ov) (tl th : Int) (h : Bool) (mi : Int) (f : Int → Bool) (w : World) (e : Ending) (w' : World) : Prop :=
  (∃ r, (er = 0 → KeepsIs o tl th h mi.toNat f r) ∧ (er ≠ 0 → r = 0) ∧ e = .returned (.tuple #[.int .i64 r, .int .i64 er])) ∧ Below w.heap.size w w'
abbrev lineV (a0 a1 a2 a3 a4 a5 : Int) : Value := .agg #[.int .i64 a0, .int .i64 a1, .int .i64 a2, .int .i64 a3, .int .i64 a4, .int .i64 a5]

/-- What Keeps keeps: the line, the oven, the temperatures, its results. -/
structure KpW (s : Nat) (a0 a1 a2 a3 a4 a5 : Int) (o : Ov) (tl th r er : Int) (U : World) : Prop where
  l0 : U.cell? ⟨s, 0, none⟩ = some (.int .i64 a0)
  l1 : U.cell? ⟨s, 1, none⟩ = some (.int .i64 a1)
  l2 : U.cell? ⟨s, 2, none⟩ = some (.int .i64 a2)
  l3 : U.cell? ⟨s, 3, none⟩ = some (.int .i64 a3)
  l4 : U.cell? ⟨s, 4, none⟩ = some (.int .i64 a4)
  l5 : U.cell? ⟨s, 5, none⟩ = some (.int .i64 a5)
  o0 : U.cell? ⟨s + 1, 0, none⟩ = some (.int .i64 o.low)
  o1 : U.cell? ⟨s + 1, 1, none⟩ = some (.int .i64 o.high)
  o2 : U.cell? ⟨s + 1, 2, none⟩ = some (.int .i64 o.wl)
  o3 : U.cell? ⟨s + 1, 3, none⟩ = some (.int .i64 o.wh)
  o4 : U.cell? ⟨s + 1, 4, none⟩ = some (.int .i64 o.cl)
  o5 : U.cell? ⟨s + 1, 5, none⟩ = some (.int .i64 o.ch)
  t0 : U.cell? ⟨s + 1 + 1, 0, none⟩ = some (.int .i64 tl)
  t1 : U.cell? ⟨s + 1 + 1, 1, none⟩ = some (.int .i64 th)
  r0 : U.cell? ⟨s + 1 + 1 + 1, 0, none⟩ = some (.int .i64 r)
  f0 : U.frozen? ⟨s + 1 + 1 + 1, 0, none⟩ = false
  r1 : U.cell? ⟨s + 1 + 1 + 1 + 1, 0, none⟩ = some (.int .i64 er)
  f1 : U.frozen? ⟨s + 1 + 1 + 1 + 1, 0, none⟩ = false
theorem KpW.keep {s n : Nat} {a0 a1 a2 a3 a4 a5 : Int} {o : Ov} {tl th r er : Int} {U V : World} (h : KpW s a0 a1 a2 a3 a4 a5 o tl th r er U) (hb : Below n U V) (hn : s + 1 + 1 + 1 + 1 < n) : KpW s a0 a1 a2 a3 a4 a5 o tl th r er V := by
  have c : ∀ k j, k ≤ s + 1 + 1 + 1 + 1 → V.cell? ⟨k, j, none⟩ = U.cell? ⟨k, j, none⟩ := fun k j hk => hb.cell (p := ⟨k, j, none⟩) (by show k < n; omega)
  have f : ∀ k j, k ≤ s + 1 + 1 + 1 + 1 → V.frozen? ⟨k, j, none⟩ = U.frozen? ⟨k, j, none⟩ := fun k j hk => hb.frozen (p := ⟨k, j, none⟩) (by show k < n; omega)
  exact ⟨(c _ _ (by omega)).trans h.l0, (c _ _ (by omega)).trans h.l1, (c _ _ (by omega)).trans h.l2, (c _ _ (by omega)).trans h.l3, (c _ _ (by omega)).trans h.l4, (c _ _ (by omega)).trans h.l5,
    (c _ _ (by omega)).trans h.o0, (c _ _ (by omega)).trans h.o1, (c _ _ (by omega)).trans h.o2, (c _ _ (by omega)).trans h.o3, (c _ _ (by omega)).trans h.o4, (c _ _ (by omega)).trans h.o5,
    (c _ _ (by omega)).trans h.t0, (c _ _ (by omega)).trans h.t1, (c _ _ (by omega)).trans h.r0, (f _ _ (by omega)).trans h.f0, (c _ _ (by omega)).trans h.r1, (f _ _ (by omega)).trans h.f1⟩
theorem KpW.set {s : Nat} {a0 a1 a2 a3 a4 a5 : Int} {o : Ov} {tl th r er r' er' : Int} {U : World} (h : KpW s a0 a1 a2 a3 a4 a5 o tl th r er U) : KpW s a0 a1 a2 a3 a4 a5 o tl th r' er' ((U.setCell ⟨s + 1 + 1 + 1, 0, none⟩ (.int .i64 r')).setCell ⟨s + 1 + 1 + 1 + 1, 0, none⟩ (.int .i64 er')) := by
  have c : ∀ k j, k < s + 1 + 1 + 1 → ((U.setCell ⟨s + 1 + 1 + 1, 0, none⟩ (.int .i64 r')).setCell ⟨s + 1 + 1 + 1 + 1, 0, none⟩ (.int .i64 er')).cell? ⟨k, j, none⟩ = U.cell? ⟨k, j, none⟩ := fun k j hk => by
    rw [World.cell?_setCell_far _ _ _ _ (by show s + 1 + 1 + 1 + 1 ≠ k; omega), World.cell?_setCell_far _ _ _ _ (by show s + 1 + 1 + 1 ≠ k; omega)]
  refine ⟨(c _ _ (by omega)).trans h.l0, (c _ _ (by omega)).trans h.l1, (c _ _ (by omega)).trans h.l2, (c _ _ (by omega)).trans h.l3, (c _ _ (by omega)).trans h.l4, (c _ _ (by omega)).trans h.l5,
    (c _ _ (by omega)).trans h.o0, (c _ _ (by omega)).trans h.o1, (c _ _ (by omega)).trans h.o2, (c _ _ (by omega)).trans h.o3, (c _ _ (by omega)).trans h.o4, (c _ _ (by omega)).trans h.o5,
    (c _ _ (by omega)).trans h.t0, (c _ _ (by omega)).trans h.t1, ?_, by simpa using h.f0, ?_, by simpa using h.f1⟩
  · rw [World.cell?_setCell_far _ _ _ _ (by show s + 1 + 1 + 1 + 1 ≠ s + 1 + 1 + 1; omega)]
    exact World.cell?_setCell_same _ _ _ h.r0
  · exact World.cell?_setCell_same _ _ _ (by rw [World.cell?_setCell_far _ _ _ _ (by show s + 1 + 1 + 1 ≠ s + 1 + 1 + 1 + 1; omega)]; exact h.r1)
abbrev kpX (w : World) (a0 a1 a2 a3 a4 a5 : Int) (o : Ov) (tl th : Int) : World := ((((w.alloc (.cells #[.int .i64 a0, .int .i64 a1, .int .i64 a2, .int .i64 a3, .int .i64 a4, .int .i64 a5] 25)).alloc (.cells #[.int .i64 o.low, .int .i64 o.high, .int .i64 o.wl, .int .i64 o.wh, .int .i64 o.cl, .int .i64 o.ch] 50)).alloc (.cells #[.int .i64 tl, .int .i64 th] 31)).alloc (.cells #[.int .i64 0] 3)).alloc (.cells #[.int .i64 0] 26)
theorem kpX_new (w : World) (a0 a1 a2 a3 a4 a5 : Int) (o : Ov) (tl th : Int) : KpW w.heap.size a0 a1 a2 a3 a4 a5 o tl th 0 0 (kpX w a0 a1 a2 a3 a4 a5 o tl th) := by
  constructor <;> simp [kpX, go_sem]
theorem kp_below {w : World} {s : Nat} {U : World} {a b : Value} (h : Below w.heap.size w U) (hs : w.heap.size ≤ s) : Below w.heap.size w ((U.setCell ⟨s, 0, none⟩ a).setCell ⟨s + 1, 0, none⟩ b) := (h.setCell hs _).setCell (Nat.le_succ_of_le hs) _

set_option maxRecDepth 100000 in
set_option maxHeartbeats 1000000 in
theorem keeps_badline (a0 a1 a2 a3 a4 a5 : Int) (hno : ¬ OkLine a0 a1 a2 a3 a4 a5) (o : Ov) (tl th : Int) (h : Bool) (mi : Int) (w : World) :
    Calls Try.prog 38 #[lineV a0 a1 a2 a3 a4 a5, ovV o, .agg #[.int .i64 tl, .int .i64 th], .bool h, .int .i64 mi] w fun e w' => e = .returned (.tuple #[.int .i64 0, .int .i64 7]) ∧ Below w.heap.size w w' := by
  have hX := kpX_new w a0 a1 a2 a3 a4 a5 o tl th
  have hbw : Below w.heap.size w (kpX w a0 a1 a2 a3 a4 a5 o tl th) := by unfold kpX; go_grown
  have ⟨l0, l1, l2, l3, l4, l5, o0, o1, o2, o3, o4, o5, t0, t1, r0, f0, r1, f1⟩ := hX
  go_enter Try.func38, Try.ntmps38
  go_wp2_with fail
  refine (check_bad a0 a1 a2 a3 a4 a5 hno _).mono ?_; rintro e U ⟨rfl, hU⟩
  have hXU : Below (w.heap.size + 5) (kpX w a0 a1 a2 a3 a4 a5 o tl th) U := by rw [hU]; exact (Below.refl _ _).alloc (by simp [kpX]) _
  have hKU := hX.keep hXU (by omega)
  have hBU : Below w.heap.size w U := hbw.trans (hXU.mono (by omega))
  clear hU hX hbw hXU l0 l1 l2 l3 l4 l5 o0 o1 o2 o3 o4 o5 t0 t1 r0 f0 r1 f1
  have ⟨l0, l1, l2, l3, l4, l5, o0, o1, o2, o3, o4, o5, t0, t1, r0, f0, r1, f1⟩ := hKU
  have hS := hKU.set (r' := 0) (er' := 7)
  have x0 := hS.r0
  have x1 := hS.r1
  clear hS
  go_wp2
  refine bodyPost_ret (v := .tuple #[.int .i64 0, .int .i64 7]) (by simp [results, Try.results38, x0, x1, go_sem]) rfl ?_
  exact ⟨rfl, kp_below hBU (by omega)⟩

set_option maxRecDepth 100000 in
set_option maxHeartbeats 1000000 in
theorem keeps_err (a0 a1 a2 a3 a4 a5 : Int) (hline : OkLine a0 a1 a2 a3 a4 a5) (o : Ov) (tl th : Int) (h : Bool) (mi : Int) (her : ovenErr o tl th mi ≠ 0) (w : World) :
    Calls Try.prog 38 #[lineV a0 a1 a2 a3 a4 a5, ovV o, .agg #[.int .i64 tl, .int .i64 th], .bool h, .int .i64 mi] w fun e w' => e = .returned (.tuple #[.int .i64 0, .int .i64 (ovenErr o tl th mi)]) ∧ Below w.heap.size w w' := by
  have KE := Lib.hid (fun w => eoven_any o tl th mi w)
  generalize hs : ovenErr o tl th mi = er at *
  clear hs
  have hs1 : (er == 0) = false := by simpa using her
  clear her
  have hX := kpX_new w a0 a1 a2 a3 a4 a5 o tl th
  have hbw : Below w.heap.size w (kpX w a0 a1 a2 a3 a4 a5 o tl th) := by unfold kpX; go_grown
  have ⟨l0, l1, l2, l3, l4, l5, o0, o1, o2, o3, o4, o5, t0, t1, r0, f0, r1, f1⟩ := hX
  go_enter Try.func38, Try.ntmps38
  go_wp2_with fail
  refine (check_ok a0 a1 a2 a3 a4 a5 hline _).mono ?_; rintro e U ⟨rfl, hU⟩
  have hXU : Below (w.heap.size + 5) (kpX w a0 a1 a2 a3 a4 a5 o tl th) U := by rw [hU]; exact (Below.refl _ _).alloc (by simp [kpX]) _
  have hKU := hX.keep hXU (by omega)
  have hBU : Below w.heap.size w U := hbw.trans (hXU.mono (by omega))
  have hsU : w.heap.size + 5 ≤ U.heap.size := by rw [hU]; simp
  clear hU hX hbw hXU l0 l1 l2 l3 l4 l5 o0 o1 o2 o3 o4 o5 t0 t1 r0 f0 r1 f1
  have ⟨l0, l1, l2, l3, l4, l5, o0, o1, o2, o3, o4, o5, t0, t1, r0, f0, r1, f1⟩ := hKU
  go_wp2_with fail
  refine (KE.out _).mono ?_; rintro e V ⟨rfl, hV⟩
  have hKV := hKU.keep hV (by omega)
  have hBV : Below w.heap.size w V := hBU.trans (hV.mono (by omega))
  have hsV : w.heap.size + 5 ≤ V.heap.size := Nat.le_trans hsU hV.size
  clear hV hBU hKU hsU l0 l1 l2 l3 l4 l5 o0 o1 o2 o3 o4 o5 t0 t1 r0 f0 r1 f1
  have ⟨l0, l1, l2, l3, l4, l5, o0, o1, o2, o3, o4, o5, t0, t1, r0, f0, r1, f1⟩ := hKV
  have hS := hKV.set (r' := 0) (er' := er)
  have x0 := hS.r0
  have x1 := hS.r1
  clear hS
  go_wp2
  refine bodyPost_ret (v := .tuple #[.int .i64 0, .int .i64 er]) (by simp [results, Try.results38, x0, x1, go_sem]) rfl ?_
  exact ⟨rfl, kp_below hBV (by omega)⟩

set_option maxRecDepth 100000 in
set_option maxHeartbeats 2000000 in
theorem keeps_good (a0 a1 a2 a3 a4 a5 : Int) (hline : OkLine a0 a1 a2 a3 a4 a5) (f : Int → Bool)
    (HS : Hid (∀ T w, Calls Try.prog 81 #[lineV a0 a1 a2 a3 a4 a5, .int .i64 T] w fun e w' => e = .returned (.bool (f T)) ∧ Below w.heap.size w w')) (o : Ov) (tl th : Int) (h : Bool) (n : Nat) (her : ovenErr o tl th n = 0) (w : World) :
    Calls Try.prog 38 #[lineV a0 a1 a2 a3 a4 a5, ovV o, .agg #[.int .i64 tl, .int .i64 th], .bool h, .int .i64 n] w fun e w' => (∃ r, KeepsIs o tl th h n f r ∧ e = .returned (.tuple #[.int .i64 r, .int .i64 0])) ∧ Below w.heap.size w w' := by
  obtain ⟨ok, b1, b2, hs, m0, m1⟩ := ovenErr_ok her
  have hn : n ≤ 200 := by omega
  have KE := Lib.hid (fun w => eoven_any o tl th n w)
  rw [her] at KE
  clear her m0 m1
  have hX := kpX_new w a0 a1 a2 a3 a4 a5 o tl th
  have hbw : Below w.heap.size w (kpX w a0 a1 a2 a3 a4 a5 o tl th) := by unfold kpX; go_grown
  have ⟨l0, l1, l2, l3, l4, l5, o0, o1, o2, o3, o4, o5, t0, t1, r0, f0, r1, f1⟩ := hX
  refine (callsIn_wide (n := 4)).1 ?_
  refine callsIn_of_wp_marks Try.func38 rfl trivial ?_ rfl
  simp only [Try.ntmps38, List.size_toArray, List.length_cons, List.length_nil, Nat.reduceAdd, Nat.reduceSub, Array.replicate_succ, Array.replicate_zero, List.push_toArray, List.append_toArray, List.nil_append, List.cons_append]
  gi_wp2_with fail
  refine ⟨trivial, ?_⟩
  refine (callsIn_wide.2 (check_ok a0 a1 a2 a3 a4 a5 hline _)).mono ?_; rintro e U ⟨rfl, hU⟩
  have hXU : Below (w.heap.size + 5) (kpX w a0 a1 a2 a3 a4 a5 o tl th) U := by rw [hU]; exact (Below.refl _ _).alloc (by simp [kpX]) _
  have hKU := hX.keep hXU (by omega)
  have hBU : Below w.heap.size w U := hbw.trans (hXU.mono (by omega))
  have hsU : w.heap.size + 5 ≤ U.heap.size := by rw [hU]; simp
  clear hU hX hbw hXU l0 l1 l2 l3 l4 l5 o0 o1 o2 o3 o4 o5 t0 t1 r0 f0 r1 f1
  have ⟨l0, l1, l2, l3, l4, l5, o0, o1, o2, o3, o4, o5, t0, t1, r0, f0, r1, f1⟩ := hKU
  gi_wp2_with fail
  refine ⟨trivial, ?_⟩
  refine (callsIn_wide.2 (KE.out _)).mono ?_; rintro e V ⟨rfl, hV⟩
  have hKV := hKU.keep hV (by omega)
  have hBV : Below w.heap.size w V := hBU.trans (hV.mono (by omega))
  have hsV : w.heap.size + 5 ≤ V.heap.size := Nat.le_trans hsU hV.size
  clear hV hBU hKU hsU l0 l1 l2 l3 l4 l5 o0 o1 o2 o3 o4 o5 t0 t1 r0 f0 r1 f1
  have ⟨l0, l1, l2, l3, l4, l5, o0, o1, o2, o3, o4, o5, t0, t1, r0, f0, r1, f1⟩ := hKV
  gi_wp2_with fail
  refine ⟨trivial, ?_⟩
  refine (callsIn_wide.2 (moments_any o tl th h n _)).mono ?_; rintro e X ⟨rfl, hXs, hXb, hXc⟩
  have hKX := hKV.keep hXb (by omega)
  have hBX : Below w.heap.size w X := hBV.trans (hXb.mono (by omega))
  have hsX : w.heap.size + 5 ≤ X.heap.size := Nat.le_trans hsV hXb.size
  have hseq := moments_back o ok tl th h b1 b2 hs n hn 3 (by decide) (w.heap.size + 1 + 1 + 1) (w.heap.size + 5) _ _ _ _ X hXc (fun k hk => .inr (by omega))
  clear hXc hXb hKV hBV l0 l1 l2 l3 l4 l5 o0 o1 o2 o3 o4 o5 t0 t1 r0 f0 r1 f1
  gi_wp2_with fail
  refine wpIn_rangeBack rfl (by decide) (gf := 91) (lb := #[.pointer (some ⟨V.heap.size, 0, none⟩), .pointer (some ⟨V.heap.size + 1, 0, none⟩), .pointer (some ⟨V.heap.size + 1 + 1, 0, none⟩), .pointer (some ⟨V.heap.size + 1 + 1 + 1, 0, none⟩)]) rfl trivial (enters_of Try.func91 (by kernel_rfl) rfl) hseq (Below.refl _ _) (fun _ => rfl) (by omega) hsX
    (fun pre U => (∀ y ∈ pre, f y.2.1 = true) ∧ KpW w.heap.size a0 a1 a2 a3 a4 a5 o tl th 0 0 U ∧ Below w.heap.size w U)
    (fun c pre U => c = .ret ∧ (∃ p k m, pre = p ++ [(k, m)] ∧ (∀ y ∈ p, f y.2.1 = true) ∧ f m.1 = false ∧ KpW w.heap.size a0 a1 a2 a3 a4 a5 o tl th k 0 U) ∧ Below w.heap.size w U)
    (fun s A U h hb => ⟨h.1, h.2.1.keep hb (by omega), h.2.2.trans (hb.mono (by omega))⟩)
    (fun c s A U h hb => by
      obtain ⟨e1, ⟨p, k, m, e2, e3, e4, e5⟩, e6⟩ := h
      exact ⟨e1, ⟨p, k, m, e2, e3, e4, e5.keep hb (by omega)⟩, e6.trans (hb.mono (by omega))⟩)
    ⟨by simp, hKX, hBX⟩
    (fun pre x a U => ∃ B, X.heap.size ≤ B ∧ a = { tmps := #[lineV a0 a1 a2 a3 a4 a5, ovV o, .agg #[.int .i64 tl, .int .i64 th], .bool h, .int .i64 n, .pointer (some ⟨w.heap.size, 0, none⟩), .pointer (some ⟨w.heap.size + 1, 0, none⟩), .pointer (some ⟨w.heap.size + 1 + 1, 0, none⟩), undef, undef, .pointer (some ⟨w.heap.size + 1 + 1 + 1, 0, none⟩), .pointer (some ⟨w.heap.size + 1 + 1 + 1 + 1, 0, none⟩), .int .i64 0, .int .i64 0, .int .i64 x.1, .pointer (some ⟨B, 0, none⟩), lineV a0 a1 a2 a3 a4 a5, .int .i64 0, .int .i64 0, .bool false, undef, ovV o, .agg #[.int .i64 tl, .int .i64 th], .int .i64 n, .int .i64 0, .int .i64 0, .bool false, undef, ovV o, .agg #[.int .i64 tl, .int .i64 th], .bool h, .int .i64 n, .func (.func 91) #[] #[.pointer (some ⟨V.heap.size, 0, none⟩), .pointer (some ⟨V.heap.size + 1, 0, none⟩), .pointer (some ⟨V.heap.size + 1 + 1, 0, none⟩), .pointer (some ⟨V.heap.size + 1 + 1 + 1, 0, none⟩)], .int .i64 x.1, .agg #[.int .i64 x.2.1, .bool x.2.2], undef, undef, undef, undef, undef, undef], defers := [] } ∧
      U.cell? ⟨B, 0, none⟩ = some (.int .i64 x.2.1) ∧ (∀ y ∈ pre, f y.2.1 = true) ∧ KpW w.heap.size a0 a1 a2 a3 a4 a5 o tl th 0 0 U ∧ Below w.heap.size w U)
    ?own ?assign ?body ?done ?stop
  case own =>
    rintro pre x a s A U row ⟨B, hB, ha, hc0, h1, h2, h3⟩ hg hr
    have hBA : B < A.heap.size := World.block_lt_of_cell? A _ hc0
    have hb : Below X.heap.size A U := (Below.refl _ A).grown hg (by omega) (fun k e => (hr k e).1)
    exact ⟨B, hB, ha, cell_kept hc0 hg (fun k e => (hr k e).2), h1, h2.keep hb (by omega), h3.trans (hb.mono (by omega))⟩
  case assign =>
    rintro l' pre x U ⟨h1, h2, h3⟩ hlt
    obtain ⟨a, t, hh⟩ := x
    have hnew := (Below.refl U.heap.size U).alloc (Nat.le_refl _) (.cells #[.int .i64 t, .bool hh] 107)
    have hn0 : (U.alloc (.cells #[.int .i64 t, .bool hh] 107)).cell? ⟨U.heap.size, 0, none⟩ = some (.int .i64 t) := by simp [go_sem]
    have h2' := h2.keep hnew (by omega)
    have h3' := h3.trans (hnew.mono h3.size)
    gi_wp2
    exact ⟨.of_below hnew, _, Nat.le_of_lt hlt, rfl, hn0, h1, h2', h3'⟩
  case body =>
    rintro l' pre x a U ⟨B, hB, rfl, hc0, hall, hK, hb⟩ hlt
    obtain ⟨a, t, hh⟩ := x
    have ⟨l0, l1, l2, l3, l4, l5, o0, o1, o2, o3, o4, o5, t0, t1, r0, f0, r1, f1⟩ := hK
    have KS := Lib.hid (HS.out t U)
    cases hf : f t with
    | true =>
      rw [hf] at KS
      have HF := Lib.hid hf
      clear hf
      gi_wp2_with fail
      refine ⟨trivial, ?_⟩
      refine (CallsIn.inRound l' (callsIn_wide.2 KS.out)).mono ?_; rintro e U2 ⟨rfl, hU2⟩
      have hK2 := hK.keep hU2 (by omega)
      have hb2 := hb.trans (hU2.mono hb.size)
      clear l0 l1 l2 l3 l4 l5 o0 o1 o2 o3 o4 o5 t0 t1 r0 f0 r1 f1 hc0
      gi_wp2
      refine ⟨.of_below hU2, fun y hy => ?_, hK2, hb2⟩
      rcases List.mem_append.1 hy with hy | hy
      · exact hall y hy
      · simp at hy
        subst hy
        exact HF.out
    | false =>
      rw [hf] at KS
      have HF := Lib.hid hf
      clear hf
      gi_wp2_with fail
      refine ⟨trivial, ?_⟩
      refine (CallsIn.inRound l' (callsIn_wide.2 KS.out)).mono ?_; rintro e U2 ⟨rfl, hU2⟩
      have hK2 := hK.keep hU2 (by omega)
      have hb2 := hb.trans (hU2.mono hb.size)
      clear l0 l1 l2 l3 l4 l5 o0 o1 o2 o3 o4 o5 t0 t1 r0 f0 r1 f1 hc0
      have ⟨l0, l1, l2, l3, l4, l5, o0, o1, o2, o3, o4, o5, t0, t1, r0, f0, r1, f1⟩ := hK2
      have hS := hK2.set (r' := a) (er' := 0)
      have hAr : Around (w.heap.size + 1 + 1 + 1) (w.heap.size + 5) U ((U2.setCell ⟨w.heap.size + 1 + 1 + 1, 0, none⟩ (.int .i64 a)).setCell ⟨w.heap.size + 1 + 1 + 1 + 1, 0, none⟩ (.int .i64 0)) :=
        ((Around.of_below hU2).setCell (p := ⟨w.heap.size + 1 + 1 + 1, 0, none⟩) (Nat.le_refl _) (show w.heap.size + 1 + 1 + 1 < w.heap.size + 5 by omega) _).setCell (p := ⟨w.heap.size + 1 + 1 + 1 + 1, 0, none⟩) (Nat.le_succ _) (show w.heap.size + 1 + 1 + 1 + 1 < w.heap.size + 5 by omega) _
      have hb3 := kp_below (a := .int .i64 a) (b := .int .i64 0) hb2 (show w.heap.size ≤ w.heap.size + 1 + 1 + 1 by omega)
      gi_wp2
      exact ⟨hAr, rfl, ⟨pre, a, (t, hh), rfl, hall, HF.out, hS⟩, hb3⟩
  case done =>
    rintro ys U hys ⟨hall, hK, hb⟩ hKD
    have hys' : ys = Pq.upto o tl th h (n + 1) := hys
    have HKI := Lib.hid (keeps_none ok hs h n f (fun x hx => hall x (hys' ▸ hx)))
    have ⟨l0, l1, l2, l3, l4, l5, o0, o1, o2, o3, o4, o5, t0, t1, r0, f0, r1, f1⟩ := hK
    have hS := hK.set (r' := -1) (er' := 0)
    have hb3 := kp_below (a := .int .i64 (-1)) (b := .int .i64 0) hb (show w.heap.size ≤ w.heap.size + 1 + 1 + 1 by omega)
    have hKV : ((U.setCell ⟨w.heap.size + 1 + 1 + 1, 0, none⟩ (.int .i64 (-1))).setCell ⟨w.heap.size + 1 + 1 + 1 + 1, 0, none⟩ (.int .i64 0)).heap[X.heap.size]? = some (.deferred (some [])) :=
      ((KeepsOthers.setCell _ _ _).trans (KeepsOthers.setCell _ _ _)).same _ _ hKD rfl
    clear hys hys' hall
    gi_wp2
    generalize (U.setCell ⟨w.heap.size + 1 + 1 + 1, 0, none⟩ (.int .i64 (-1))).setCell ⟨w.heap.size + 1 + 1 + 1 + 1, 0, none⟩ (.int .i64 0) = U3 at *
    have k0 := cell_kept hS.r0 (grownBy_putObj' _ X.heap.size (.deferred none)) (fun r e => by cases e; exact ⟨_, hKV, rfl⟩)
    have k1 := cell_kept hS.r1 (grownBy_putObj' _ X.heap.size (.deferred none)) (fun r e => by cases e; exact ⟨_, hKV, rfl⟩)
    refine ⟨by simp, .inl ⟨_, _, rfl, run_takeDeferred hKV, ?_⟩⟩
    refine ⟨.tuple #[.int .i64 (-1), .int .i64 0], by simp [results, Try.results38, k0, k1, go_sem], ?_⟩
    exact ⟨⟨-1, HKI.out, rfl⟩, hb3.trans (belowK_b (w := w) (Nat.le_refl _) U3 _ _ _ (by omega) hKV rfl rfl)⟩
  case stop =>
    rintro c pre U hpre ⟨rfl, ⟨p, k, m, e2, e3, e4, hS⟩, hb⟩ hKD
    have hpre' : pre <+: Pq.upto o tl th h (n + 1) := hpre
    rw [e2] at hpre'
    have HKI := Lib.hid (keeps_some ok hs h n f hpre' e3 e4)
    have k0 := cell_kept hS.r0 (grownBy_putObj' _ X.heap.size (.deferred none)) (fun r e => by cases e; exact ⟨_, hKD, rfl⟩)
    have k1 := cell_kept hS.r1 (grownBy_putObj' _ X.heap.size (.deferred none)) (fun r e => by cases e; exact ⟨_, hKD, rfl⟩)
    gi_wp2
    refine ⟨by simp, .inl ⟨_, _, rfl, run_takeDeferred hKD, ?_⟩⟩
    refine ⟨.tuple #[.int .i64 k, .int .i64 0], by simp [results, Try.results38, k0, k1, go_sem], ?_⟩
    exact ⟨⟨k, HKI.out, rfl⟩, hb.trans (belowK_b (w := w) (Nat.le_refl _) U _ _ _ (by omega) hKD rfl rfl)⟩

/-- Keeps, for every argument. -/
theorem keeps_any (a0 a1 a2 a3 a4 a5 : Int) (hline : OkLine a0 a1 a2 a3 a4 a5) (o : Ov) (tl th : Int) (h : Bool) (mi : Int) (w : World) :
    Calls Try.prog 38 #[lineV a0 a1 a2 a3 a4 a5, ovV o, .agg #[.int .i64 tl, .int .i64 th], .bool h, .int .i64 mi] w (KeepsOutE (ovenErr o tl th mi) o tl th h mi (safeB a0 a1 a2 a3 a4 a5) w) := by
  by_cases her : ovenErr o tl th mi = 0
  · have hm := (ovenErr_ok her).2.2.2.2.1
    obtain ⟨n, rfl⟩ : ∃ n : Nat, mi = n := ⟨mi.toNat, by omega⟩
    refine (keeps_good a0 a1 a2 a3 a4 a5 hline _ (Lib.hid (isSafe_all a0 a1 a2 a3 a4 a5 hline)) o tl th h n her w).mono ?_
    rintro e w' ⟨⟨r, hr, rfl⟩, hb⟩
    exact ⟨⟨r, fun _ => hr, fun e => (e her).elim, by rw [her]⟩, hb⟩
  · refine (keeps_err a0 a1 a2 a3 a4 a5 hline o tl th h mi her w).mono ?_
    rintro e w' ⟨rfl, hb⟩
    exact ⟨⟨0, fun e => (her e).elim, fun _ => rfl, rfl⟩, hb⟩
end Go.Proofs.Ytplipfcnjmgicaa
