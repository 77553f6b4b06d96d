/-
  LineOven: the walk. No statement is proved here.
-/
import Derived.Test.YtplipfcnjmgicaaHt18
import Derived.Test.YtplipfcnjmgicaaSfN
namespace Go.Proofs.Ytplipfcnjmgicaa
open Go.RowKit Go.Maps Go.Sort
set_option linter.unusedVariables false
set_option linter.unusedSimpArgs false

/-- A number of a span, so many 255ths on. -/
def amongV (lo hi n : Int) : Int := lo + ((hi - lo) * n).tdiv 255
theorem among_in {lo hi n : Int} (h : lo ≤ hi) (hn : 0 ≤ n ∧ n ≤ 255) : lo ≤ amongV lo hi n ∧ amongV lo hi n ≤ hi := by
  unfold amongV
  have h1 : 0 ≤ (hi - lo) * n := Int.mul_nonneg (by omega) hn.1
  have h2 : (hi - lo) * n ≤ (hi - lo) * 255 := Int.mul_le_mul_of_nonneg_left hn.2 (by omega)
  rw [Int.tdiv_eq_ediv_of_nonneg h1]
  generalize (hi - lo) * n = q at *
  omega
set_option maxRecDepth 100000 in
theorem among_any (lo hi n : Int) (h : lo ≤ hi) (h1 : -1000 ≤ lo) (h2 : hi ≤ 2000) (hn : 0 ≤ n ∧ n ≤ 255) (w : World) :
    Calls Try.prog 52 #[.agg #[.int .i64 lo, .int .i64 hi], .int .u8 n] w fun e w' => e = .returned (.int .i64 (amongV lo hi n)) ∧ Below w.heap.size w w' := by
  have hA := among_in h hn
  have m1 : 0 ≤ (hi - lo) * n := Int.mul_nonneg (by omega) hn.1
  have m2 : (hi - lo) * n ≤ (hi - lo) * 255 := Int.mul_le_mul_of_nonneg_left hn.2 (by omega)
  have e0 : IntKind.i64.wrap n = n := by rw [IntKind.wrap_i64]; omega
  have e1 : wrap64 (hi - lo) = hi - lo := wrap_in (by omega) (by omega)
  have e2 : wrap64 ((hi - lo) * n) = (hi - lo) * n := wrap_in (by omega) (by omega)
  obtain ⟨q, hq⟩ : ∃ q, q = ((hi - lo) * n).tdiv 255 := ⟨_, rfl⟩
  have hv : amongV lo hi n = lo + q := by rw [hq]; rfl
  rw [hv] at hA ⊢
  have e3 : wrap64 q = q := wrap_in (by omega) (by omega)
  have e4 : wrap64 (lo + q) = lo + q := wrap_in (by omega) (by omega)
  have e5 : ((hi - lo) * n).tdiv 255 = q := hq.symm
  clear hq hv hA m1 m2
  go_enter Try.func52, Try.ntmps52
  go_wp2
  go_ret
  refine ⟨?_, by go_grown⟩
  show Ending.returned (.int .i64 (wrap64 (lo + q))) = _
  rw [e4]
/-- Safe, for every line. -/
theorem safe_un (a0 a1 a2 a3 a4 a5 : Int) : ∃ slo shi g : Int, (∀ w, Calls Try.prog 27 #[lineV a0 a1 a2 a3 a4 a5] w fun e w' => e = .returned (.tuple #[.agg #[.int .i64 slo, .int .i64 shi], .int .i64 g]) ∧ Below w.heap.size w w') ∧
    (OkLine a0 a1 a2 a3 a4 a5 → ∀ T, safeB a0 a1 a2 a3 a4 a5 T = true → g = 0 ∧ slo ≤ T ∧ T ≤ shi) := by
  by_cases hl : OkLine a0 a1 a2 a3 a4 a5
  · obtain ⟨lo, hi, e1, _, h2, h3⟩ := safe_nums hl
    refine ⟨lo, hi, e1, fun w => ?_, fun _ T hT => ?_⟩
    · exact (safe_ok (safeAt a0 a1 a2 a3 a4 a5) a0 a1 a2 a3 a4 a5 hl (Lib.hid fun T t1 t2 w => isSafe_ok a0 a1 a2 a3 a4 a5 T hl ⟨t1, t2⟩ w) w).mono fun e w' he => h3 w e w' he
    · unfold safeB at hT
      simp only [Bool.and_eq_true] at hT
      have ht := tB_t hT.1
      exact (h2 T ht.1 ht.2).2 hT.2
  · exact ⟨0, 0, 7, fun w => safe_bad a0 a1 a2 a3 a4 a5 hl w, fun e => (hl e).elim⟩
theorem keeps_safe {o : Ov} {tl th : Int} {h : Bool} {n : Nat} {f : Int → Bool} {r : Int} (hK : KeepsIs o tl th h n f r) {k : Nat} (hk : k ≤ n) {m : Mo} (hm : o.At tl th h k m) (hr : r < 0 ∨ (k : Int) < r) : f m.1 = true := by
  rcases hK with ⟨rfl, a⟩ | ⟨j, hj, rfl, _, a⟩
  · exact a k hk m hm
  · exact a k (by omega) m hm
theorem keeps_range {o : Ov} {tl th : Int} {h : Bool} {n : Nat} {f : Int → Bool} {r : Int} (hK : KeepsIs o tl th h n f r) : -1 ≤ r ∧ r ≤ n := by
  rcases hK with ⟨rfl, _⟩ | ⟨j, hj, rfl, _, _⟩ <;> omega
theorem at_warm {o : Ov} {tl th t z : Int} {h hb : Bool} {k : Nat} (ok : o.Ok) (hat : o.At tl th h k (t, hb)) (hh : o.heats (t, hb) = true) (hz : 0 ≤ z ∧ z ≤ 255) : o.At tl th h (k + 1) (t + amongV o.wl o.wh z, true) := by
  have hA := among_in ok.w.2.1 hz
  refine ⟨(t, hb), hat, ?_, ?_, hh.symm⟩
  · unfold Ov.lo; rw [if_pos hh]; show t + o.wl ≤ t + amongV o.wl o.wh z; omega
  · unfold Ov.hi; rw [if_pos hh]; show t + amongV o.wl o.wh z ≤ t + o.wh; omega
theorem at_cool {o : Ov} {tl th t z : Int} {h hb : Bool} {k : Nat} (ok : o.Ok) (hat : o.At tl th h k (t, hb)) (hh : o.heats (t, hb) = false) (hz : 0 ≤ z ∧ z ≤ 255) : o.At tl th h (k + 1) (t - amongV o.cl o.ch z, false) := by
  have hA := among_in ok.c.2.1 hz
  refine ⟨(t, hb), hat, ?_, ?_, hh.symm⟩
  · unfold Ov.lo; rw [if_neg (by rw [hh]; decide)]; show t - o.ch ≤ t - amongV o.cl o.ch z; omega
  · unfold Ov.hi; rw [if_neg (by rw [hh]; decide)]; show t - amongV o.cl o.ch z ≤ t - o.cl; omega
/-- Which way a minute heats. -/
theorem heats_ways (o : Ov) (t : Int) (hb : Bool) : (t < o.low ∧ o.heats (t, hb) = true) ∨ (¬ t < o.low ∧ t ≤ o.high ∧ hb = true ∧ o.heats (t, hb) = true) ∨ (¬ t < o.low ∧ t ≤ o.high ∧ hb = false ∧ o.heats (t, hb) = false) ∨ (¬ t < o.low ∧ ¬ t ≤ o.high ∧ o.heats (t, hb) = false) := by
  unfold Ov.heats
  by_cases a : t < o.low
  · left; exact ⟨a, by simp [a]⟩
  · by_cases b : t ≤ o.high
    · cases hb
      · right; right; left; exact ⟨a, b, rfl, by simp [a, b]⟩
      · right; left; exact ⟨a, b, rfl, by simp [a, b]⟩
    · right; right; right; exact ⟨a, b, by simp [a, b]⟩
theorem round_nums {o : Ov} {tl th lo hi t z : Int} {h hb : Bool} {n k : Nat} (ok : o.Ok) (b1 : -500 ≤ tl) (b2 : th ≤ 1000) (hn : n ≤ 200) (hO : OvenIs o tl th h n lo hi) (hkn : k ≤ n) (hat : o.At tl th h k (t, hb)) (hz : 0 ≤ z ∧ z ≤ 255) :
    ∃ vw vc, (∀ w, Calls Try.prog 52 #[.agg #[.int .i64 o.wl, .int .i64 o.wh], .int .u8 z] w fun e w' => e = .returned (.int .i64 vw) ∧ Below w.heap.size w w') ∧
      (∀ w, Calls Try.prog 52 #[.agg #[.int .i64 o.cl, .int .i64 o.ch], .int .u8 z] w fun e w' => e = .returned (.int .i64 vc) ∧ Below w.heap.size w w') ∧
      (o.heats (t, hb) = true → o.At tl th h (k + 1) (t + vw, true)) ∧ (o.heats (t, hb) = false → o.At tl th h (k + 1) (t - vc, false)) ∧
      wrap64 (t + vw) = t + vw ∧ wrap64 (t - vc) = t - vc ∧ wrap64 ((k : Int) + 1) = (k : Int) + 1 ∧ decide ((k : Int) ≤ (n : Int)) = true ∧ decide (t < lo) = false ∧ decide (hi < t) = false := by
  have hti := hO.2.2 k hkn _ hat
  have hbox := Ov.at_in ok b1 b2 hat
  have hAw := among_in ok.w.2.1 hz
  have hAc := among_in ok.c.2.1 hz
  have hww := ok.w
  have hcc := ok.c
  refine ⟨amongV o.wl o.wh z, amongV o.cl o.ch z, fun w => among_any o.wl o.wh z hww.2.1 (by omega) (by omega) hz w, fun w => among_any o.cl o.ch z hcc.2.1 (by omega) (by omega) hz w, fun hh => at_warm ok hat hh hz, fun hh => at_cool ok hat hh hz, wrap_in (by omega) (by omega), wrap_in (by omega) (by omega), wrap_in (by omega) (by omega), by simp; omega, by simp; omega, by simp; omega⟩
theorem next_index {k L : Nat} (hpos : 0 < L) (hL : L ≤ 2 ^ 63 - 1) : ∃ J : Nat, J < L ∧ ((k : Int) + 1).tmod (L : Int) = (J : Int) ∧ wrap64 (J : Int) = (J : Int) ∧ (J : Int) < (L : Int) := by
  have h := Nat.mod_lt (k + 1) hpos
  exact ⟨(k + 1) % L, h, tmod_nat (k + 1) L, wrap_in (by omega) (by omega), by omega⟩
theorem skip_ways {o : Ov} {tl th t r g er2 slo shi : Int} {h hb : Bool} {n k : Nat} {f : Int → Bool} (HKR : er2 = 0 → KeepsIs o tl th h n f r) (HSF : er2 = 0 → ∀ T, f T = true → g = 0 ∧ slo ≤ T ∧ T ≤ shi) (hkn : k ≤ n) (hat : o.At tl th h k (t, hb)) :
    er2 ≠ 0 ∨ (er2 = 0 ∧ ((decide (r < 0) = true ∧ g = 0 ∧ decide (t < slo) = false ∧ decide (shi < t) = false) ∨ (decide (r < 0) = false ∧ decide ((k : Int) < r) = true ∧ g = 0 ∧ decide (t < slo) = false ∧ decide (shi < t) = false) ∨ (decide (r < 0) = false ∧ decide ((k : Int) < r) = false))) := by
  by_cases e : er2 = 0
  · right; refine ⟨e, ?_⟩
    by_cases r0 : r < 0
    · left
      have q := HSF e t (keeps_safe (HKR e) hkn hat (.inl r0))
      exact ⟨by simpa using r0, q.1, by simpa using q.2.1, by simpa using q.2.2⟩
    · right
      by_cases r1 : (k : Int) < r
      · left
        have q := HSF e t (keeps_safe (HKR e) hkn hat (.inr r1))
        exact ⟨by simpa using r0, by simpa using r1, q.1, by simpa using q.2.1, by simpa using q.2.2⟩
      · right; exact ⟨by simpa using r0, by simpa using r1⟩
  · left; exact e
theorem heats_ways2 (o : Ov) (t : Int) (hb : Bool) : (decide (t < o.low) = true ∧ o.heats (t, hb) = true) ∨ (decide (t < o.low) = false ∧ decide (t ≤ o.high) = true ∧ hb = true ∧ o.heats (t, hb) = true) ∨ (decide (t < o.low) = false ∧ decide (t ≤ o.high) = true ∧ hb = false ∧ o.heats (t, hb) = false) ∨ (decide (t < o.low) = false ∧ decide (t ≤ o.high) = false ∧ o.heats (t, hb) = false) := by
  rcases heats_ways o t hb with ⟨a, b⟩ | ⟨a, b, c, d⟩ | ⟨a, b, c, d⟩ | ⟨a, b, c⟩
  · exact .inl ⟨by simpa using a, b⟩
  · exact .inr (.inl ⟨by simpa using a, by simpa using b, c, d⟩)
  · exact .inr (.inr (.inl ⟨by simpa using a, by simpa using b, c, d⟩))
  · exact .inr (.inr (.inr ⟨by simpa using a, by simpa using b, c⟩))
theorem round_meas {n k : Nat} (h : k ≤ n) : n + 1 - (intOf (.int .i64 ((k : Int) + 1))).toNat < n + 1 - (intOf (.int .i64 (k : Int))).toNat := by
  simp [intOf]; omega
theorem round_end {o : Ov} {tl th tt : Int} {h b : Bool} {n k : Nat} {P : Prop} (hk1 : k + 1 ≤ n + 1) (g1 : wrap64 tt = tt) (g3 : wrap64 ((k : Int) + 1) = (k : Int) + 1) (hat : o.At tl th h (k + 1) (tt, b)) (hp : P) :
    (∃ (k1 : Nat) (t1 : Int) (hb : Bool), k1 ≤ n + 1 ∧ Value.int .i64 (wrap64 ((k : Int) + 1)) = Value.int .i64 (k1 : Int) ∧ Value.int .i64 (wrap64 tt) = Value.int .i64 t1 ∧ Value.bool b = Value.bool hb ∧ o.At tl th h k1 (t1, hb) ∧ P) ∧
      n + 1 - (intOf (.int .i64 (wrap64 ((k : Int) + 1)))).toNat < n + 1 - (intOf (.int .i64 (k : Int))).toNat := by
  rw [g1, g3]
  exact ⟨⟨k + 1, tt, b, hk1, rfl, rfl, rfl, hat, hp⟩, round_meas (Nat.le_of_succ_le_succ hk1)⟩
/-- What the loop keeps. -/
structure LoW (w : World) (b1 b2 : Nat) (a0 a1 a2 a3 a4 a5 : Int) (o : Ov) (tl th : Int) (h : Bool) (mi lo hi slo shi : Int) (U : World) : Prop where
  lh : LhW w a0 a1 a2 a3 a4 a5 o tl th h mi U
  s1 : SpW b1 lo hi U
  s2 : SpW b2 slo shi U
theorem LoW.under {w : World} {b1 b2 : Nat} {a0 a1 a2 a3 a4 a5 : Int} {o : Ov} {tl th : Int} {h : Bool} {mi lo hi slo shi : Int} {U V : World} (p : LoW w b1 b2 a0 a1 a2 a3 a4 a5 o tl th h mi lo hi slo shi U) (hb : Below U.heap.size U V) : LoW w b1 b2 a0 a1 a2 a3 a4 a5 o tl th h mi lo hi slo shi V :=
  ⟨p.lh.under hb, p.s1.under hb, p.s2.under hb⟩

set_option maxRecDepth 100000 in
set_option maxHeartbeats 2000000 in
theorem oven_walk (w : World) (a0 a1 a2 a3 a4 a5 : Int) (o : Ov) (tl th : Int) (h : Bool) (mi : Int) (wmi : (Lit.int .i64 mi).wf = true) (Ab : Option Addr) (cb : Nat) (zs : List Int) (hzl : zs.length ≤ maxLen) (hZ : ListAt (Value.int .u8) w w.heap.size Ab zs) (hzb : ∀ n ∈ zs, 0 ≤ n ∧ n ≤ 255) :
    Calls Try.prog 17 #[lineV a0 a1 a2 a3 a4 a5, heatedV o tl th h mi, .slice Ab zs.length cb] w fun e w' => e = .returned (.bool true) ∧ Below w.heap.size w w' := by
  clear wmi
  unfold maxLen at hzl
  have HZ : Hid (∀ U, Below w.heap.size w U → ListAt (Value.int .u8) U w.heap.size Ab zs) := Lib.hid fun U hU => hZ.below hU
  have HZB := Lib.hid hzb
  clear hZ hzb
  have KO := Lib.hid (fun w => oven_any o tl th h mi w)
  have HOK := Lib.hid (fun e => ovenErr_ok (o := o) (tl := tl) (th := th) (mi := mi) e)
  unfold OvenOut at KO
  obtain ⟨er2, f, q1, q2, k1, _⟩ := keeps_two a0 a1 a2 a3 a4 a5 o tl th h mi
  obtain ⟨slo, shi, g, ks, hsf⟩ := safe_un a0 a1 a2 a3 a4 a5
  have K1 := Lib.hid k1
  have KS := Lib.hid ks
  have Q1 := Lib.hid (And.intro q1 (And.intro q2 hsf))
  clear k1 q1 q2 ks hsf
  generalize her : ovenErr o tl th mi = er at *
  clear her
  have hX := LhW.new w a0 a1 a2 a3 a4 a5 o tl th h mi
  unfold lhX at hX
  have ⟨l0, l1, l2, l3, l4, l5, o0, o1, o2, o3, o4, o5, t0, t1, hc, mc, hb, hz⟩ := hX
  go_enter Try.func17, Try.ntmps17
  go_wp2_with fail
  refine (KO.out _).mono ?_; rintro e U ⟨⟨lo, hi, p1, p2, rfl⟩, hU⟩
  have hX1 := hX.under hU
  have HP := Lib.hid (And.intro p1 p2)
  clear p1 p2 hU hX l0 l1 l2 l3 l4 l5 o0 o1 o2 o3 o4 o5 t0 t1 hc mc hb hz
  have hab := (Below.refl _ U).alloc (Nat.le_refl _) (.cells #[.int .i64 lo, .int .i64 hi] 31)
  have hX2 := hX1.under hab
  have hS2 := SpW.new U lo hi 31
  clear hX1 hab
  have ⟨l0, l1, l2, l3, l4, l5, o0, o1, o2, o3, o4, o5, t0, t1, hc, mc, hb, hz⟩ := hX2
  have ⟨s0, s1⟩ := hS2
  go_wp2_with fail
  refine (K1.out _).mono ?_; rintro e V ⟨⟨r, p1, p2, rfl⟩, hV⟩
  have hX3 := hX2.under hV
  have hS3 := hS2.under hV
  have HR := Lib.hid (And.intro p1 p2)
  clear p1 p2 hV hX2 hS2 l0 l1 l2 l3 l4 l5 o0 o1 o2 o3 o4 o5 t0 t1 hc mc hb hz s0 s1 K1
  have ⟨l0, l1, l2, l3, l4, l5, o0, o1, o2, o3, o4, o5, t0, t1, hc, mc, hb, hz⟩ := hX3
  have ⟨s0, s1⟩ := hS3
  go_wp2_with fail
  refine (KS.out _).mono ?_; rintro e X ⟨rfl, hXX⟩
  have hX4 := hX3.under hXX
  have hS4 := hS3.under hXX
  clear hXX hX3 hS3 l0 l1 l2 l3 l4 l5 o0 o1 o2 o3 o4 o5 t0 t1 hc mc hb hz s0 s1 KS KO
  have hab := (Below.refl _ X).alloc (Nat.le_refl _) (.cells #[.int .i64 slo, .int .i64 shi] 31)
  have hW := LoW.mk (hX4.under hab) (hS4.under hab) (SpW.new X slo shi 31)
  have hUX : U.heap.size < X.heap.size := World.block_lt_of_cell? X _ hS4.c0
  clear hX4 hS4 hab
  obtain ⟨Y, hYd⟩ : ∃ Y, Y = X.alloc (.cells #[.int .i64 slo, .int .i64 shi] 31) := ⟨_, rfl⟩
  have hYs : Y.heap.size = X.heap.size + 1 := by rw [hYd]; simp
  have HYD := Lib.hid hYd
  rw [← hYd] at hW
  clear hYd
  have ⟨⟨l0, l1, l2, l3, l4, l5, o0, o1, o2, o3, o4, o5, t0, t1, hc, mc, hb, hz⟩, ⟨s0, s1⟩, ⟨z0, z1⟩⟩ := hW
  by_cases he : er = 0
  · subst he
    obtain ⟨ok, b1, b2, hs, m0, m1⟩ := HOK.out rfl
    obtain ⟨n, rfl⟩ : ∃ n : Nat, mi = n := ⟨mi.toNat, by omega⟩
    have hn : n ≤ 200 := by omega
    have hO : OvenIs o tl th h n lo hi := by simpa using HP.out.1 rfl
    have hKr : er2 = 0 → KeepsIs o tl th h n f r := fun e => by simpa using HR.out.1 e
    have hSafe : er2 = 0 → ∀ T, f T = true → g = 0 ∧ slo ≤ T ∧ T ≤ shi := fun e T hT => by
      have hl : OkLine a0 a1 a2 a3 a4 a5 := by
        by_cases hl : OkLine a0 a1 a2 a3 a4 a5
        · exact hl
        · have := Q1.out.2.1 hl; omega
      rw [(Q1.out.1 hl).2] at hT
      exact Q1.out.2.2 hl T hT
    have hrr : -1 ≤ r ∧ r ≤ n := by
      by_cases e : er2 = 0
      · exact keeps_range (hKr e)
      · rw [HR.out.2 e]; omega
    have HOI := Lib.hid hO
    have HKR := Lib.hid hKr
    have HSF := Lib.hid hSafe
    clear hO hKr hSafe HP HR Q1 HOK m0 m1
    by_cases hze : zs.length = 0
    · have hz0 : ((zs.length : Int) == 0) = true := by simp; simpa using hze
      clear l0 l1 l2 l3 l4 l5 o0 o1 o2 o3 o4 o5 t0 t1 hc mc s0 s1 z0 z1
      go_wp2_with fail
      rw [← HYD.out]
      refine (awake_ht _).mono ?_; rintro e Z ⟨rfl, hZ⟩
      go_wp2
      go_ret
      exact ⟨rfl, hb.trans (hZ.mono hb.size)⟩
    · have hpos : 0 < zs.length := by omega
      have hz0 : ((zs.length : Int) == 0) = false := by simp; simpa using hze
      obtain ⟨ad, rfl, _, hcells⟩ := HZ.out Y hb hpos
      have hza := hcells 0 hpos
      have hzv := HZB.out _ (List.getElem_mem hpos)
      obtain ⟨z, hzz⟩ : ∃ z, z = zs[0] := ⟨_, rfl⟩
      rw [← hzz] at hza hzv
      have hza' : Y.cell? ad = some (.int .u8 z) := by simpa [Addr.add] using hza
      clear hzz hcells hza
      have hAm := among_in hs hzv
      have KA := Lib.hid (fun w => among_any tl th z hs (by omega) (by omega) hzv w)
      have HW0 := Lib.hid hW
      have hip : (0 : Int) < (zs.length : Int) := by omega
      have k6 := cell_regrown t0
      have k7 := cell_regrown t1
      have k8 := cell_regrown hc
      have kz := cell_regrown hza'
      have cA : ∀ d os, Calls Try.prog 52 #[.agg #[.int .i64 tl, .int .i64 th], .int .u8 z] (grow (redrawn Y d) os) fun e w'' => e = .returned (.int .i64 (amongV tl th z)) ∧ ∃ p : Regrown, w'' = grow (redrawn Y p.d) p.os := fun d os =>
        Calls.regrown_of (Calls.mono (KA.out _) fun e w' h => h)
      clear l0 l1 l2 l3 l4 l5 o0 o1 o2 o3 o4 o5 t0 t1 hc mc s0 s1 z0 z1 hza' hW hb hz
      go_wp2_with fail
      rw [← HYD.out]
      refine wp_region_quiet_below rfl (by kernel_rfl) ?_
      repeat (quiet_step (first | with_reducible exact cA _ _))
      refine wpQuiet_nil ?_
      intro _ hw'
      obtain ⟨⟨dq, osq⟩, hw''⟩ := hw'
      subst hw''
      have b3 := below_regrown Y dq osq
      obtain ⟨W0, hW0⟩ : ∃ W0, W0 = grow (redrawn Y dq) osq := ⟨_, rfl⟩
      rw [← hW0] at b3 ⊢
      have hL0 := HW0.out.under b3
      clear hW0 cA k6 k7 k8 kz b3 HW0 KA
      have HOK2 := Lib.hid (And.intro ok (And.intro b1 b2))
      obtain ⟨tz, htz⟩ : ∃ tz, tz = amongV tl th z := ⟨_, rfl⟩
      have hat0 : o.At tl th h 0 (tz, h) := ⟨by rw [htz]; exact hAm.1, by rw [htz]; exact hAm.2, rfl⟩
      rw [← htz]
      have HNI := Lib.hid (fun k : Nat => next_index (k := k) hpos hzl)
      clear htz hAm hzv ok b1 b2 hs
      go_wp2
      go_loopw [13, 14, 15] (fun vt vh vm wr => ∃ (k : Nat) (t : Int) (hb : Bool), k ≤ n + 1 ∧ vm = .int .i64 k ∧ vt = .int .i64 t ∧ vh = .bool hb ∧ o.At tl th h k (t, hb) ∧ LoW w U.heap.size X.heap.size a0 a1 a2 a3 a4 a5 o tl th h n lo hi slo shi wr) (fun _ _ vm _ => (n + 1 - (intOf vm).toNat))
      case atStart => exact ⟨0, tz, h, Nat.zero_le _, rfl, rfl, rfl, hat0, hL0⟩
      case round =>
        clear hat0 hL0
        obtain ⟨k, t, hb, hk, rfl, rfl, rfl, hat, hL⟩ := hrel
        have ⟨⟨l0, l1, l2, l3, l4, l5, o0, o1, o2, o3, o4, o5, t0, t1, hc, mc, hbw, hz⟩, ⟨s0, s1⟩, ⟨z0, z1⟩⟩ := hL
        by_cases hkn : k ≤ n
        · have HX1 := Lib.hid hbw
          obtain ⟨J, hJ, hq, g4, hJ1⟩ := HNI.out k
          obtain ⟨ad', e1, _, hcj⟩ := (HZ.out wr hbw).at_ hJ
          cases e1
          have hzv2 := HZB.out _ (List.getElem_mem hJ)
          generalize zs[J] = z2 at hcj hzv2
          obtain ⟨vw, vc, kw, kc, hw1, hc1, g1, g2, g3, d1, d2, d3⟩ := round_nums HOK2.out.1 HOK2.out.2.1 HOK2.out.2.2 hn HOI.out hkn hat hzv2
          have KW := Lib.hid kw
          have KC := Lib.hid kc
          have HW1 := Lib.hid hw1
          have HC1 := Lib.hid hc1
          have HSK := Lib.hid (skip_ways HKR.out HSF.out hkn hat)
          have HWAYS := Lib.hid (heats_ways2 o t hb)
          have HM := Lib.hid (round_meas hkn)
          have HK1 := Lib.hid (Nat.succ_le_succ hkn)
          have HLL := Lib.hid hL
          clear kw kc hw1 hc1 hzv2 hat hL hJ hrr hpos hip HKR HSF HOI HOK2 HX1 hk hbw hn d1
          rcases HSK.out with e2 | ⟨e2, ⟨f2, rfl, f4, f5⟩ | ⟨f2, f3, rfl, f4, f5⟩ | ⟨f2, f3⟩⟩
          · have f1 : (er2 == 0) = false := beq_false_of_ne e2
            have HE2 := Lib.hid e2
            clear e2 HSK
            rcases HWAYS.out with ⟨y1, hhe⟩ | ⟨y1, y2, y3, hhe⟩ | ⟨y1, y2, y3, hhe⟩ | ⟨y1, y2, hhe⟩
            · have HHe := Lib.hid hhe
              clear hhe
              go_wp2_with fail
              all_goals first | exact (HE2.out (by assumption)).elim | skip
              refine (KW.out _).mono ?_; rintro e Z ⟨rfl, hZ⟩
              have hL2 := HLL.out.under hZ
              clear hZ
              go_wp2
              exact round_end HK1.out g1 g3 (HW1.out HHe.out) hL2
            · subst y3
              have HHe := Lib.hid hhe
              clear hhe
              go_wp2_with fail
              all_goals first | exact (HE2.out (by assumption)).elim | skip
              refine (KW.out _).mono ?_; rintro e Z ⟨rfl, hZ⟩
              have hL2 := HLL.out.under hZ
              clear hZ
              go_wp2
              exact round_end HK1.out g1 g3 (HW1.out HHe.out) hL2
            · subst y3
              have HHe := Lib.hid hhe
              clear hhe
              go_wp2_with fail
              all_goals first | exact (HE2.out (by assumption)).elim | skip
              refine (KC.out _).mono ?_; rintro e Z ⟨rfl, hZ⟩
              have hL2 := HLL.out.under hZ
              clear hZ
              go_wp2
              exact round_end HK1.out g2 g3 (HC1.out HHe.out) hL2
            · have HHe := Lib.hid hhe
              clear hhe
              go_wp2_with fail
              all_goals first | exact (HE2.out (by assumption)).elim | skip
              refine (KC.out _).mono ?_; rintro e Z ⟨rfl, hZ⟩
              have hL2 := HLL.out.under hZ
              clear hZ
              go_wp2
              exact round_end HK1.out g2 g3 (HC1.out HHe.out) hL2
          · subst e2
            clear HSK
            rcases HWAYS.out with ⟨y1, hhe⟩ | ⟨y1, y2, y3, hhe⟩ | ⟨y1, y2, y3, hhe⟩ | ⟨y1, y2, hhe⟩
            · have HHe := Lib.hid hhe
              clear hhe
              go_wp2_with fail
              refine (KW.out _).mono ?_; rintro e Z ⟨rfl, hZ⟩
              have hL2 := HLL.out.under hZ
              clear hZ
              go_wp2
              exact round_end HK1.out g1 g3 (HW1.out HHe.out) hL2
            · subst y3
              have HHe := Lib.hid hhe
              clear hhe
              go_wp2_with fail
              refine (KW.out _).mono ?_; rintro e Z ⟨rfl, hZ⟩
              have hL2 := HLL.out.under hZ
              clear hZ
              go_wp2
              exact round_end HK1.out g1 g3 (HW1.out HHe.out) hL2
            · subst y3
              have HHe := Lib.hid hhe
              clear hhe
              go_wp2_with fail
              refine (KC.out _).mono ?_; rintro e Z ⟨rfl, hZ⟩
              have hL2 := HLL.out.under hZ
              clear hZ
              go_wp2
              exact round_end HK1.out g2 g3 (HC1.out HHe.out) hL2
            · have HHe := Lib.hid hhe
              clear hhe
              go_wp2_with fail
              refine (KC.out _).mono ?_; rintro e Z ⟨rfl, hZ⟩
              have hL2 := HLL.out.under hZ
              clear hZ
              go_wp2
              exact round_end HK1.out g2 g3 (HC1.out HHe.out) hL2
          · subst e2
            clear HSK
            rcases HWAYS.out with ⟨y1, hhe⟩ | ⟨y1, y2, y3, hhe⟩ | ⟨y1, y2, y3, hhe⟩ | ⟨y1, y2, hhe⟩
            · have HHe := Lib.hid hhe
              clear hhe
              go_wp2_with fail
              refine (KW.out _).mono ?_; rintro e Z ⟨rfl, hZ⟩
              have hL2 := HLL.out.under hZ
              clear hZ
              go_wp2
              exact round_end HK1.out g1 g3 (HW1.out HHe.out) hL2
            · subst y3
              have HHe := Lib.hid hhe
              clear hhe
              go_wp2_with fail
              refine (KW.out _).mono ?_; rintro e Z ⟨rfl, hZ⟩
              have hL2 := HLL.out.under hZ
              clear hZ
              go_wp2
              exact round_end HK1.out g1 g3 (HW1.out HHe.out) hL2
            · subst y3
              have HHe := Lib.hid hhe
              clear hhe
              go_wp2_with fail
              refine (KC.out _).mono ?_; rintro e Z ⟨rfl, hZ⟩
              have hL2 := HLL.out.under hZ
              clear hZ
              go_wp2
              exact round_end HK1.out g2 g3 (HC1.out HHe.out) hL2
            · have HHe := Lib.hid hhe
              clear hhe
              go_wp2_with fail
              refine (KC.out _).mono ?_; rintro e Z ⟨rfl, hZ⟩
              have hL2 := HLL.out.under hZ
              clear hZ
              go_wp2
              exact round_end HK1.out g2 g3 (HC1.out HHe.out) hL2
          · subst e2
            clear HSK
            rcases HWAYS.out with ⟨y1, hhe⟩ | ⟨y1, y2, y3, hhe⟩ | ⟨y1, y2, y3, hhe⟩ | ⟨y1, y2, hhe⟩
            · have HHe := Lib.hid hhe
              clear hhe
              go_wp2_with fail
              refine (KW.out _).mono ?_; rintro e Z ⟨rfl, hZ⟩
              have hL2 := HLL.out.under hZ
              clear hZ
              go_wp2
              exact round_end HK1.out g1 g3 (HW1.out HHe.out) hL2
            · subst y3
              have HHe := Lib.hid hhe
              clear hhe
              go_wp2_with fail
              refine (KW.out _).mono ?_; rintro e Z ⟨rfl, hZ⟩
              have hL2 := HLL.out.under hZ
              clear hZ
              go_wp2
              exact round_end HK1.out g1 g3 (HW1.out HHe.out) hL2
            · subst y3
              have HHe := Lib.hid hhe
              clear hhe
              go_wp2_with fail
              refine (KC.out _).mono ?_; rintro e Z ⟨rfl, hZ⟩
              have hL2 := HLL.out.under hZ
              clear hZ
              go_wp2
              exact round_end HK1.out g2 g3 (HC1.out HHe.out) hL2
            · have HHe := Lib.hid hhe
              clear hhe
              go_wp2_with fail
              refine (KC.out _).mono ?_; rintro e Z ⟨rfl, hZ⟩
              have hL2 := HLL.out.under hZ
              clear hZ
              go_wp2
              exact round_end HK1.out g2 g3 (HC1.out HHe.out) hL2
        · obtain rfl : k = n + 1 := by omega
          have d1 : decide (((n + 1 : Nat) : Int) ≤ (n : Int)) = false := by simp; omega
          have d2 : decide (-1 ≤ r) = true := by simpa using hrr.1
          have d3 : decide (r ≤ (n : Int)) = true := by simpa using hrr.2
          clear hat hL hrr
          go_wp2_with fail
          refine (awake_ht _).mono ?_; rintro e Z ⟨rfl, hZ⟩
          go_wp2
          go_ret
          exact ⟨rfl, hbw.trans (hZ.mono hbw.size)⟩
  · have hs1 : (er == 0) = false := by simpa using he
    have h2 : er2 ≠ 0 := fun e => by
      by_cases hl : OkLine a0 a1 a2 a3 a4 a5
      · have := (Q1.out.1 hl).1; exact he (by rw [← this]; exact e)
      · have := Q1.out.2.1 hl; omega
    have hs2 : (er2 == 0) = false := by simpa using h2
    have hs3 : (er2 != 0) = true := by simpa using h2
    have hs4 : (er != 0) = true := by simpa using he
    obtain ⟨rfl, rfl⟩ := HP.out.2 he
    have HE := Lib.hid (And.intro he h2)
    clear he h2 l0 l1 l2 l3 l4 l5 o0 o1 o2 o3 o4 o5 t0 t1 hc mc z0 z1
    have x0 : (X.alloc (.cells #[.int .i64 slo, .int .i64 shi] 31)).cell? ⟨U.heap.size, 0, none⟩ = some (.int .i64 0) := by rw [← HYD.out]; exact s0
    have x1 : (X.alloc (.cells #[.int .i64 slo, .int .i64 shi] 31)).cell? ⟨U.heap.size, 1, none⟩ = some (.int .i64 0) := by rw [← HYD.out]; exact s1
    clear s0 s1
    go_wp2_with fail
    all_goals first | exact (HE.out.2 (by assumption)).elim | skip
    rw [← HYD.out]
    refine (awake_ht _).mono ?_; rintro e Z ⟨rfl, hZ⟩
    go_wp2
    go_ret
    refine ⟨?_, hb.trans (hZ.mono hb.size)⟩
    have h9 := HE.out.2
    first | rfl | (simp [h9]; done)
end Go.Proofs.Ytplipfcnjmgicaa
