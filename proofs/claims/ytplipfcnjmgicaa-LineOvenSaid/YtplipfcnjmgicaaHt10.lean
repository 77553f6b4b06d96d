/-
  THE CONTRACT OF Oven. No statement is proved here.
-/
import Derived.Test.YtplipfcnjmgicaaHt7
import Derived.Test.YtplipfcnjmgicaaHt9
namespace Go.Proofs.Ytplipfcnjmgicaa
open Go.RowKit Go.Shelf
set_option linter.unusedVariables false
set_option linter.unusedSimpArgs false

/-- What Oven answers, where er is the error. -/
def OvenOutE (er : Int) (o : Ov) (tl th : Int) (h : Bool) (mi : Int) (w : World) (e : Ending) (w' : World) : Prop :=
  (∃ lo hi, (er = 0 → OvenIs o tl th h mi.toNat lo hi) ∧ (er ≠ 0 → lo = 0 ∧ hi = 0) ∧ e = .returned (.tuple #[.agg #[.int .i64 lo, .int .i64 hi], .int .i64 er])) ∧ Below w.heap.size w w'
abbrev OvenOut (o : Ov) (tl th : Int) (h : Bool) (mi : Int) (w : World) : Ending → World → Prop := OvenOutE (ovenErr o tl th mi) o tl th h mi w
abbrev ovX (w : World) (o : Ov) (tl th : Int) (h : Bool) (mi : Int) : World := ((((w.alloc (.cells #[.int .i64 o.low, .int .i64 o.high, .int .i64 o.wl, .int .i64 o.wh, .int .i64 o.cl, .int .i64 o.ch] 50)).alloc (.cells #[.int .i64 tl, .int .i64 th] 31)).alloc (.cells #[.bool h] 4)).alloc (.cells #[.int .i64 mi] 3)).alloc (.cells #[.int .i64 0, .int .i64 0] 31)
theorem ovX_cap (w : World) (o : Ov) (tl th : Int) (h : Bool) (mi : Int) : CapAt w.heap.size (w.heap.size + 1) (w.heap.size + 1 + 1) (w.heap.size + 1 + 1 + 1) o tl th h mi (ovX w o tl th h mi) := by
  refine ⟨⟨?_, ?_, ?_, ?_, ?_, ?_⟩, ?_, ?_, ?_, ?_⟩ <;> simp [ovX, go_sem]

set_option maxRecDepth 100000 in
set_option maxHeartbeats 1000000 in
theorem oven_any (o : Ov) (tl th : Int) (h : Bool) (mi : Int) (w : World) :
    Calls Try.prog 36 #[ovV o, .agg #[.int .i64 tl, .int .i64 th], .bool h, .int .i64 mi] w (OvenOut o tl th h mi w) := by
  have KE := Lib.hid (fun w => eoven_any o tl th mi w)
  have HO := Lib.hid (fun e => ovenErr_ok (o := o) (tl := tl) (th := th) (mi := mi) e)
  change Calls _ _ _ _ (OvenOutE (ovenErr o tl th mi) o tl th h mi w)
  generalize hs : ovenErr o tl th mi = er at *
  clear hs
  have hcap := ovX_cap w o tl th h mi
  have hsz : (ovX w o tl th h mi).heap.size = w.heap.size + 5 := by simp [ovX]
  have hbw : Below w.heap.size w (ovX w o tl th h mi) := by unfold ovX; go_grown
  have r0 : (ovX w o tl th h mi).cell? ⟨w.heap.size + 1 + 1 + 1 + 1, 0, none⟩ = some (.int .i64 0) := by simp [ovX, go_sem]
  have r1 : (ovX w o tl th h mi).cell? ⟨w.heap.size + 1 + 1 + 1 + 1, 1, none⟩ = some (.int .i64 0) := by simp [ovX, go_sem]
  have f0 : (ovX w o tl th h mi).frozen? ⟨w.heap.size + 1 + 1 + 1 + 1, 0, none⟩ = false := by simp [ovX, go_sem]
  have f1 : (ovX w o tl th h mi).frozen? ⟨w.heap.size + 1 + 1 + 1 + 1, 1, none⟩ = false := by simp [ovX, go_sem]
  have ⟨⟨o0, o1, o2, o3, o4, o5⟩, t0, t1, hc, mc⟩ := hcap
  go_enter Try.func36, Try.ntmps36
  go_wp2_with fail
  refine (KE.out _).mono ?_; rintro e U ⟨rfl, hU⟩
  have hU' : Below (w.heap.size + 5) (ovX w o tl th h mi) U := by rw [← hsz]; exact hU
  have hBU : Below w.heap.size w U := hbw.trans (hU'.mono (by omega))
  have hCU := hcap.keep fun k hk => hU'.block k (by omega)
  have hsU : w.heap.size + 5 ≤ U.heap.size := by rw [← hsz]; exact hU.size
  have q0 := (hU'.cell (p := ⟨w.heap.size + 1 + 1 + 1 + 1, 0, none⟩) (show w.heap.size + 1 + 1 + 1 + 1 < w.heap.size + 5 by omega)).trans r0
  have q1 := (hU'.cell (p := ⟨w.heap.size + 1 + 1 + 1 + 1, 1, none⟩) (show w.heap.size + 1 + 1 + 1 + 1 < w.heap.size + 5 by omega)).trans r1
  have g0 := (hU'.frozen (p := ⟨w.heap.size + 1 + 1 + 1 + 1, 0, none⟩) (show w.heap.size + 1 + 1 + 1 + 1 < w.heap.size + 5 by omega)).trans f0
  have g1 := (hU'.frozen (p := ⟨w.heap.size + 1 + 1 + 1 + 1, 1, none⟩) (show w.heap.size + 1 + 1 + 1 + 1 < w.heap.size + 5 by omega)).trans f1
  clear hU hU' hcap hsz hbw r0 r1 f0 f1 o0 o1 o2 o3 o4 o5 t0 t1 hc mc KE
  by_cases her : er = 0
  · subst her
    obtain ⟨ok, b1, b2, hs, m0, m1⟩ := HO.out rfl
    obtain ⟨n, rfl⟩ : ∃ n : Nat, mi = n := ⟨mi.toNat, by omega⟩
    have hn : n ≤ 200 := by omega
    have hseq := temps_back o ok tl th h b1 b2 hs n hn U.heap.size (U.heap.size + 1 + 1 + 1) _ _ _ _ U hCU (fun k hk => by omega) (Nat.le_refl _)
    have KN := Lib.hid (ends_back 76 _ (enters_of Try.func76 (by kernel_rfl) rfl) _ _ U hseq)
    obtain ⟨hsome, hoven⟩ := oven_ends ok hs h n
    have HV := Lib.hid hoven
    have HSM := Lib.hid hsome
    clear hseq hoven hsome hCU
    go_wp2_with fail
    refine KN.out.mono ?_
    rintro e V ⟨xs, rfl, rfl, hb⟩
    have p0 := (hb.cell (p := ⟨w.heap.size + 1 + 1 + 1 + 1, 0, none⟩) (show w.heap.size + 1 + 1 + 1 + 1 < U.heap.size by omega)).trans q0
    have p1 := (hb.cell (p := ⟨w.heap.size + 1 + 1 + 1 + 1, 1, none⟩) (show w.heap.size + 1 + 1 + 1 + 1 < U.heap.size by omega)).trans q1
    have k0 := (hb.frozen (p := ⟨w.heap.size + 1 + 1 + 1 + 1, 0, none⟩) (show w.heap.size + 1 + 1 + 1 + 1 < U.heap.size by omega)).trans g0
    have k1 := (hb.frozen (p := ⟨w.heap.size + 1 + 1 + 1 + 1, 1, none⟩) (show w.heap.size + 1 + 1 + 1 + 1 < U.heap.size by omega)).trans g1
    have hBV : Below w.heap.size w V := hBU.trans (hb.mono (by omega))
    have HV' : Hid (OvenIs o tl th h n (endsOf (tempsOf (Pq.upto o tl th h (n + 1)))).lo (endsOf (tempsOf (Pq.upto o tl th h (n + 1)))).hi) := HV
    generalize endsOf (tempsOf (Pq.upto o tl th h (n + 1))) = en at *
    obtain ⟨lo, hi, sm⟩ := en
    clear q0 q1 g0 g1 hb HV HSM
    go_wp2
    obtain ⟨x0, x1⟩ := two_set (x := .int .i64 lo) (y := .int .i64 hi) p0 p1
    refine bodyPost_ret (v := .tuple #[.agg #[.int .i64 lo, .int .i64 hi], .int .i64 0]) (by simp [results, Try.results36, x0, x1, go_sem]) rfl ?_
    exact ⟨⟨lo, hi, fun _ => by simpa using HV'.out, fun e => (e rfl).elim, rfl⟩, two_below hBV (by omega)⟩
  · have hs1 : (er == 0) = false := by simpa using her
    have HE := Lib.hid her
    clear her
    go_wp2
    obtain ⟨x0, x1⟩ := two_set (x := .int .i64 0) (y := .int .i64 0) q0 q1
    refine bodyPost_ret (v := .tuple #[.agg #[.int .i64 0, .int .i64 0], .int .i64 er]) (by simp [results, Try.results36, x0, x1, go_sem]) rfl ?_
    exact ⟨⟨0, 0, fun e => (HE.out e).elim, fun _ => ⟨rfl, rfl⟩, rfl⟩, two_below hBU (by omega)⟩
end Go.Proofs.Ytplipfcnjmgicaa
