/-
  LineLonger: the walk. No statement is proved here.
-/
import Derived.Test.YtplipfcnjmgicaaHt17
namespace Go.Proofs.Ytplipfcnjmgicaa
open Go.RowKit Go.Maps Go.Sort
set_option linter.unusedVariables false
set_option linter.unusedSimpArgs false

theorem Ov.at_wider {o : Ov} {tl th tl' th' : Int} {h : Bool} (h1 : tl' ≤ tl) (h2 : th ≤ th') : ∀ {k : Nat} {m : Mo}, o.At tl th h k m → o.At tl' th' h k m
  | 0, m, hm => ⟨Int.le_trans h1 hm.1, Int.le_trans hm.2.1 h2, hm.2.2⟩
  | k + 1, m, ⟨p, hp, ht⟩ => ⟨p, Ov.at_wider h1 h2 hp, ht⟩
theorem OvenIs.wider {o : Ov} {tl th tl' th' lo hi lo' hi' : Int} {h : Bool} {n n' : Nat} (h1 : tl' ≤ tl) (h2 : th ≤ th') (hn : n ≤ n') (a : OvenIs o tl th h n lo hi) (b : OvenIs o tl' th' h n' lo' hi') : lo' ≤ lo ∧ hi ≤ hi' := by
  obtain ⟨⟨k1, q1, b1, a1⟩, ⟨k2, q2, b2, a2⟩, _⟩ := a
  have c1 := b.2.2 k1 (Nat.le_trans q1 hn) _ (Ov.at_wider h1 h2 a1)
  have c2 := b.2.2 k2 (Nat.le_trans q2 hn) _ (Ov.at_wider h1 h2 a2)
  exact ⟨c1.1, c2.2⟩
theorem KeepsIs.wider {o : Ov} {tl th tl' th' r r' : Int} {h : Bool} {n n' : Nat} {f : Int → Bool} (h1 : tl' ≤ tl) (h2 : th ≤ th') (hn : n ≤ n') (a : KeepsIs o tl th h n f r) (b : KeepsIs o tl' th' h n' f r') : r < 0 ∨ (0 ≤ r' ∧ r' ≤ r) := by
  rcases a with ⟨rfl, _⟩ | ⟨k, hk, rfl, ⟨m, hm, hf⟩, _⟩
  · exact .inl (by decide)
  · right
    rcases b with ⟨rfl, b⟩ | ⟨k', hk', rfl, _, b⟩
    · have := b k (Nat.le_trans hk hn) m (Ov.at_wider h1 h2 hm)
      rw [hf] at this
      cases this
    · refine ⟨by omega, ?_⟩
      by_cases e : k < k'
      · have := b k e m (Ov.at_wider h1 h2 hm)
        rw [hf] at this
        cases this
      · omega
theorem span_any (a b : Int) (w : World) : Calls Try.prog 45 #[.int .i64 a, .int .i64 b] w fun e w' => e = .returned (.agg #[.int .i64 a, .int .i64 b]) ∧ Below w.heap.size w w' := by
  go_enter Try.func45, Try.ntmps45
  go_wp2
  refine bodyPost_ret (v := .agg #[.int .i64 a, .int .i64 b]) (by simp [results, Try.results45, go_sem]) rfl ⟨rfl, ?_⟩
  go_grown
/-- What the longer oven is: minutes, temperatures. -/
def moreMi (mi x : Int) : Int := if mi + x < 200 then mi + x else 200
def moreLo (tl x : Int) : Int := if -500 < tl - x then tl - x else -500
def moreHi (th x : Int) : Int := if th + x < 1000 then th + x else 1000
/-- Three numbers in a block. -/
structure ArW (b : Nat) (x0 x1 x2 : Int) (U : World) : Prop where
  c0 : U.cell? ⟨b, 0, none⟩ = some (.int .u8 x0)
  c1 : U.cell? ⟨b, 1, none⟩ = some (.int .u8 x1)
  c2 : U.cell? ⟨b, 2, none⟩ = some (.int .u8 x2)
theorem ArW.under {b : Nat} {x0 x1 x2 : Int} {U V : World} (h : ArW b x0 x1 x2 U) (hb : Below U.heap.size U V) : ArW b x0 x1 x2 V :=
  have hl := World.block_lt_of_cell? U _ h.c0
  ⟨(hb.cell (p := ⟨b, 0, none⟩) hl).trans h.c0, (hb.cell (p := ⟨b, 1, none⟩) hl).trans h.c1, (hb.cell (p := ⟨b, 2, none⟩) hl).trans h.c2⟩
/-- A span in a block. -/
structure SpW (b : Nat) (lo hi : Int) (U : World) : Prop where
  c0 : U.cell? ⟨b, 0, none⟩ = some (.int .i64 lo)
  c1 : U.cell? ⟨b, 1, none⟩ = some (.int .i64 hi)
theorem SpW.under {b : Nat} {lo hi : Int} {U V : World} (h : SpW b lo hi U) (hb : Below U.heap.size U V) : SpW b lo hi V :=
  have hl := World.block_lt_of_cell? U _ h.c0
  ⟨(hb.cell (p := ⟨b, 0, none⟩) hl).trans h.c0, (hb.cell (p := ⟨b, 1, none⟩) hl).trans h.c1⟩
theorem SpW.new (U : World) (lo hi : Int) (T : TypeId) : SpW U.heap.size lo hi (U.alloc (.cells #[.int .i64 lo, .int .i64 hi] T)) := by constructor <;> simp [go_sem]

theorem SpW.keep {b n : Nat} {lo hi : Int} {U V : World} (h : SpW b lo hi U) (hb : Below n U V) (hn : b < n) : SpW b lo hi V :=
  ⟨(hb.cell (p := ⟨b, 0, none⟩) hn).trans h.c0, (hb.cell (p := ⟨b, 1, none⟩) hn).trans h.c1⟩
theorem LhW.keep {w : World} {a0 a1 a2 a3 a4 a5 : Int} {o : Ov} {tl th : Int} {h : Bool} {mi : Int} {n : Nat} {U V : World} (p : LhW w a0 a1 a2 a3 a4 a5 o tl th h mi U) (hb : Below n U V) (hn : w.heap.size + 1 < n) : LhW w a0 a1 a2 a3 a4 a5 o tl th h mi V := by
  have hs := p.size
  have c : ∀ k j, k ≤ w.heap.size + 1 → V.cell? ⟨k, j, none⟩ = U.cell? ⟨k, j, none⟩ := fun k j hk => hb.cell (p := ⟨k, j, none⟩) (show k < n by omega)
  exact ⟨(c _ _ (by omega)).trans p.l0, (c _ _ (by omega)).trans p.l1, (c _ _ (by omega)).trans p.l2, (c _ _ (by omega)).trans p.l3, (c _ _ (by omega)).trans p.l4, (c _ _ (by omega)).trans p.l5,
    (c _ _ (by omega)).trans p.o0, (c _ _ (by omega)).trans p.o1, (c _ _ (by omega)).trans p.o2, (c _ _ (by omega)).trans p.o3, (c _ _ (by omega)).trans p.o4, (c _ _ (by omega)).trans p.o5,
    (c _ _ (by omega)).trans p.t0, (c _ _ (by omega)).trans p.t1, (c _ _ (by omega)).trans p.hc, (c _ _ (by omega)).trans p.mc, p.below.trans (hb.mono (by omega)), Nat.lt_of_lt_of_le hs hb.size⟩
/-- An oven with its temperatures and minutes, in a block. -/
structure HtC (b : Nat) (o : Ov) (tl th : Int) (h : Bool) (mi : Int) (U : World) : Prop where
  o0 : U.cell? ⟨b, 0, none⟩ = some (.int .i64 o.low)
  o1 : U.cell? ⟨b, 1, none⟩ = some (.int .i64 o.high)
  o2 : U.cell? ⟨b, 2, none⟩ = some (.int .i64 o.wl)
  o3 : U.cell? ⟨b, 3, none⟩ = some (.int .i64 o.wh)
  o4 : U.cell? ⟨b, 4, none⟩ = some (.int .i64 o.cl)
  o5 : U.cell? ⟨b, 5, none⟩ = some (.int .i64 o.ch)
  t0 : U.cell? ⟨b, 6, none⟩ = some (.int .i64 tl)
  t1 : U.cell? ⟨b, 7, none⟩ = some (.int .i64 th)
  hc : U.cell? ⟨b, 8, none⟩ = some (.bool h)
  mc : U.cell? ⟨b, 9, none⟩ = some (.int .i64 mi)
theorem HtC.keep {b n : Nat} {o : Ov} {tl th : Int} {h : Bool} {mi : Int} {U V : World} (p : HtC b o tl th h mi U) (hb : Below n U V) (hn : b < n) : HtC b o tl th h mi V := by
  have c : ∀ j, V.cell? ⟨b, j, none⟩ = U.cell? ⟨b, j, none⟩ := fun j => hb.cell (p := ⟨b, j, none⟩) hn
  exact ⟨(c _).trans p.o0, (c _).trans p.o1, (c _).trans p.o2, (c _).trans p.o3, (c _).trans p.o4, (c _).trans p.o5, (c _).trans p.t0, (c _).trans p.t1, (c _).trans p.hc, (c _).trans p.mc⟩
theorem HtC.lt {b : Nat} {o : Ov} {tl th : Int} {h : Bool} {mi : Int} {U : World} (p : HtC b o tl th h mi U) : b < U.heap.size := World.block_lt_of_cell? U _ p.o0

set_option maxRecDepth 100000 in
set_option maxHeartbeats 1000000 in
theorem longer_walk (w : World) (a0 a1 a2 a3 a4 a5 : Int) (o : Ov) (tl th : Int) (h : Bool) (mi : Int) (wmi : (Lit.int .i64 mi).wf = true) (x0 x1 x2 : Int) (y0 : 0 ≤ x0 ∧ x0 ≤ 255) (y1 : 0 ≤ x1 ∧ x1 ≤ 255) (y2 : 0 ≤ x2 ∧ x2 ≤ 255) :
    Calls Try.prog 18 #[lineV a0 a1 a2 a3 a4 a5, heatedV o tl th h mi, .agg #[.int .u8 x0, .int .u8 x1, .int .u8 x2]] w fun e w' => e = .returned (.bool true) ∧ Below w.heap.size w w' := by
  clear wmi
  have KO := Lib.hid (fun w => oven_any o tl th h mi w)
  have HOK := Lib.hid (fun e => ovenErr_ok (o := o) (tl := tl) (th := th) (mi := mi) e)
  unfold OvenOut at KO
  obtain ⟨er2, f, q1, q2, k1, _⟩ := keeps_two a0 a1 a2 a3 a4 a5 o tl th h mi
  have K1 := Lib.hid k1
  have Q1 := Lib.hid (And.intro q1 q2)
  clear k1 q1 q2
  generalize her : ovenErr o tl th mi = er at *
  clear her
  have hX0 := LhW.new w a0 a1 a2 a3 a4 a5 o tl th h mi
  have hX := hX0.under ((Below.refl _ _).alloc (Nat.le_refl _) (.cells #[.int .u8 x0, .int .u8 x1, .int .u8 x2] 72))
  have hA : ArW (w.heap.size + 1 + 1) x0 x1 x2 ((lhX w a0 a1 a2 a3 a4 a5 o tl th h mi).alloc (.cells #[.int .u8 x0, .int .u8 x1, .int .u8 x2] 72)) := by constructor <;> simp [lhX, go_sem]
  unfold lhX at hX hA
  clear hX0
  have ⟨l0, l1, l2, l3, l4, l5, o0, o1, o2, o3, o4, o5, t0, t1, hc, mc, hb, hz⟩ := hX
  go_enter Try.func18, Try.ntmps18
  go_wp2_with fail
  refine (KO.out _).mono ?_; rintro e U ⟨⟨lo, hi, p1, p2, rfl⟩, hU⟩
  have hX1 := hX.under hU
  have hA1 := hA.under hU
  have HP := Lib.hid p1
  clear p1 p2 hU hX hA l0 l1 l2 l3 l4 l5 o0 o1 o2 o3 o4 o5 t0 t1 hc mc hb hz
  have hab := (Below.refl _ U).alloc (Nat.le_refl _) (.cells #[.int .i64 lo, .int .i64 hi] 31)
  have hX2 := hX1.under hab
  have hA2 := hA1.under hab
  have hS2 := SpW.new U lo hi 31
  clear hX1 hA1 hab
  have ⟨l0, l1, l2, l3, l4, l5, o0, o1, o2, o3, o4, o5, t0, t1, hc, mc, hb, hz⟩ := hX2
  have ⟨s0, s1⟩ := hS2
  go_wp2_with fail
  refine (K1.out _).mono ?_; rintro e V ⟨⟨r, p1, p2, rfl⟩, hV⟩
  have hX3 := hX2.under hV
  have hA3 := hA2.under hV
  have hS3 := hS2.under hV
  have HR := Lib.hid p1
  clear p1 p2 hV hX2 hA2 hS2 l0 l1 l2 l3 l4 l5 o0 o1 o2 o3 o4 o5 t0 t1 hc mc hb hz s0 s1 K1
  by_cases he : er = 0
  · subst he
    by_cases he2 : er2 = 0
    · subst he2
      obtain ⟨ok, b1, b2, hs, m0, m1⟩ := HOK.out rfl
      have hline : OkLine a0 a1 a2 a3 a4 a5 := by
        by_cases hl : OkLine a0 a1 a2 a3 a4 a5
        · exact hl
        · have := Q1.out.2 hl; cases this
      obtain ⟨_, rfl⟩ := Q1.out.1 hline
      obtain ⟨mi', hmi'⟩ : ∃ x, x = moreMi mi x0 := ⟨_, rfl⟩
      obtain ⟨tl', htl'⟩ : ∃ x, x = moreLo tl x1 := ⟨_, rfl⟩
      obtain ⟨th', hth'⟩ : ∃ x, x = moreHi th x2 := ⟨_, rfl⟩
      have e1 : mi ≤ mi' ∧ mi' ≤ 200 := by rw [hmi']; unfold moreMi; split <;> omega
      have e2 : tl' ≤ tl ∧ -500 ≤ tl' := by rw [htl']; unfold moreLo; split <;> omega
      have e3 : th ≤ th' ∧ th' ≤ 1000 := by rw [hth']; unfold moreHi; split <;> omega
      have hov : ovenErr o tl' th' mi' = 0 := ovenErr_of ok e2.2 e3.2 (by omega) ⟨by omega, e1.2⟩
      have KO2 := Lib.hid (fun w => oven_any o tl' th' h mi' w)
      unfold OvenOut at KO2
      rw [hov] at KO2
      obtain ⟨er3, f3, q1, _, k1, _⟩ := keeps_two a0 a1 a2 a3 a4 a5 o tl' th' h mi'
      obtain ⟨rfl, rfl⟩ := q1 hline
      rw [hov] at k1
      have K2 := Lib.hid k1
      have HW := Lib.hid (fun lo' hi' (p : OvenIs o tl' th' h mi'.toNat lo' hi') => OvenIs.wider e2.1 e3.1 (show mi.toNat ≤ mi'.toNat by omega) (HP.out rfl) p)
      have HWK := Lib.hid (fun r' (p : KeepsIs o tl' th' h mi'.toNat (safeB a0 a1 a2 a3 a4 a5) r') => KeepsIs.wider e2.1 e3.1 (show mi.toNat ≤ mi'.toNat by omega) (HR.out rfl) p)
      have w1 : wrap64 (mi + x0) = mi + x0 := wrap_in (by omega) (by omega)
      have w2 : wrap64 (tl - x1) = tl - x1 := wrap_in (by omega) (by omega)
      have w3 : wrap64 (th + x2) = th + x2 := wrap_in (by omega) (by omega)
      have v0 : IntKind.i64.wrap x0 = x0 := by rw [IntKind.wrap_i64]; omega
      have v1 : IntKind.i64.wrap x1 = x1 := by rw [IntKind.wrap_i64]; omega
      have v2 : IntKind.i64.wrap x2 = x2 := by rw [IntKind.wrap_i64]; omega
      have g1 : (if mi + x0 < 200 then mi + x0 else 200) = mi' := hmi'.symm
      have g2 : (if -500 < tl - x1 then tl - x1 else -500) = tl' := htl'.symm
      have g3 : (if th + x2 < 1000 then th + x2 else 1000) = th' := hth'.symm
      clear hmi' htl' hth' e1 e2 e3 hov k1 q1 KO HP HR HOK Q1 b1 b2 hs m0 m1 y0 y1 y2
      have ⟨l0, l1, l2, l3, l4, l5, o0, o1, o2, o3, o4, o5, t0, t1, hc, mc, hb, hz⟩ := hX3
      have ⟨c0, c1, c2⟩ := hA3
      have ⟨s0, s1⟩ := hS3
      have hzA : w.heap.size + 1 + 1 < V.heap.size := World.block_lt_of_cell? V _ c0
      have hzS : U.heap.size < V.heap.size := World.block_lt_of_cell? V _ s0
      go_wp2_with fail
      refine (span_any _ _ _).mono ?_; rintro e X ⟨rfl, hXX⟩
      have hyn : HtC V.heap.size o tl th h mi' (V.alloc (.cells #[.int .i64 o.low, .int .i64 o.high, .int .i64 o.wl, .int .i64 o.wh, .int .i64 o.cl, .int .i64 o.ch, .int .i64 tl, .int .i64 th, .bool h, .int .i64 mi'] 52)) := by constructor <;> simp [go_sem]
      have hfn : ∀ j, (V.alloc (.cells #[.int .i64 o.low, .int .i64 o.high, .int .i64 o.wl, .int .i64 o.wh, .int .i64 o.cl, .int .i64 o.ch, .int .i64 tl, .int .i64 th, .bool h, .int .i64 mi'] 52)).frozen? ⟨V.heap.size, j, none⟩ = false := fun j => by simp [go_sem]
      have hVs : V.heap.size < (V.alloc (.cells #[.int .i64 o.low, .int .i64 o.high, .int .i64 o.wl, .int .i64 o.wh, .int .i64 o.cl, .int .i64 o.ch, .int .i64 tl, .int .i64 th, .bool h, .int .i64 mi'] 52)).heap.size := by simp
      have hY := hyn.keep hXX hVs
      have hfX : ∀ j, X.frozen? ⟨V.heap.size, j, none⟩ = false := fun j => (hXX.frozen (p := ⟨V.heap.size, j, none⟩) hVs).trans (hfn j)
      have f6 := hfX 6
      have f7 := hfX 7
      have hVX : Below V.heap.size V X := ((Below.refl _ V).alloc (Nat.le_refl _) _).trans (hXX.mono (Nat.le_of_lt hVs))
      have hX4 := hX3.under hVX
      have hS4 := hS3.under hVX
      clear hXX hyn hfn hVs hfX hX3 hS3 hA3 l0 l1 l2 l3 l4 l5 o0 o1 o2 o3 o4 o5 t0 t1 hc mc hb hz c0 c1 c2 s0 s1 g1 g2 g3 w1 w2 w3 v0 v1 v2
      have hset : Below V.heap.size X ((X.setCell ⟨V.heap.size, 6, none⟩ (.int .i64 tl')).setCell ⟨V.heap.size, 7, none⟩ (.int .i64 th')) := ((Below.refl _ X).setCell (p := ⟨V.heap.size, 6, none⟩) (Nat.le_refl _) _).setCell (p := ⟨V.heap.size, 7, none⟩) (Nat.le_refl _) _
      have hX5 := hX4.keep hset (by omega)
      have hS5 := hS4.keep hset hzS
      have hY5 : HtC V.heap.size o tl' th' h mi' ((X.setCell ⟨V.heap.size, 6, none⟩ (.int .i64 tl')).setCell ⟨V.heap.size, 7, none⟩ (.int .i64 th')) := by
        obtain ⟨d0, d1, d2, d3, d4, d5, d6, d7, d8, d9⟩ := hY
        constructor <;> simp [go_sem, d0, d1, d2, d3, d4, d5, d6, d7, d8, d9]
      have hzX : V.heap.size < ((X.setCell ⟨V.heap.size, 6, none⟩ (.int .i64 tl')).setCell ⟨V.heap.size, 7, none⟩ (.int .i64 th')).heap.size := hY5.lt
      have HX5 := Lib.hid hX5
      have HS5 := Lib.hid hS5
      have HY5 := Lib.hid hY5
      have ⟨d0, d1, d2, d3, d4, d5, d6, d7, d8, d9⟩ := hY
      clear hX5 hS5 hY5 hX4 hS4 hset hVX hY
      go_wp2_with fail
      refine (KO2.out _).mono ?_; rintro e P ⟨⟨lo', hi', p1, p2, rfl⟩, hP⟩
      have hX6 := HX5.out.under hP
      have hS6 := HS5.out.under hP
      have hY6 := HY5.out.keep hP hzX
      have HWO := Lib.hid (HW.out _ _ (p1 rfl))
      clear p1 p2 hP HX5 HS5 HY5 d0 d1 d2 d3 d4 d5 d6 d7 d8 d9 f6 f7 HW KO2
      have hab := (Below.refl _ P).alloc (Nat.le_refl _) (.cells #[.int .i64 lo', .int .i64 hi'] 31)
      have hX7 := hX6.under hab
      have hS7 := hS6.under hab
      have hY7 := hY6.keep hab hY6.lt
      have hT7 := SpW.new P lo' hi' 31
      clear hX6 hS6 hY6 hab
      have ⟨l0, l1, l2, l3, l4, l5, _, _, _, _, _, _, _, _, _, _, hb, hz⟩ := hX7
      have ⟨d0, d1, d2, d3, d4, d5, d6, d7, d8, d9⟩ := hY7
      go_wp2_with fail
      refine (K2.out _).mono ?_; rintro e R ⟨⟨r', p1, p2, rfl⟩, hR⟩
      have hX8 := hX7.under hR
      have ⟨s0, s1⟩ := hS7.under hR
      have ⟨t0, t1⟩ := hT7.under hR
      have hk := HWK.out _ (p1 rfl)
      have hbR := hX8.below
      have hw1 : lo' ≤ lo := HWO.out.1
      have hw2 : hi ≤ hi' := HWO.out.2
      clear p1 p2 hR hX7 hS7 hT7 hY7 hX8 l0 l1 l2 l3 l4 l5 hb hz d0 d1 d2 d3 d4 d5 d6 d7 d8 d9 HWK HWO K2
      have e1 : decide (lo' ≤ lo) = true := by simpa using hw1
      have e2 : decide (hi ≤ hi') = true := by simpa using hw2
      by_cases hr : r < 0
      · have e3 : decide (r < 0) = true := by simpa using hr
        clear hk hr hw1 hw2
        go_wp2_with fail
        refine (awake_ht _).mono ?_; rintro e Z ⟨rfl, hZ⟩
        go_wp2
        go_ret
        exact ⟨rfl, hbR.trans (hZ.mono hbR.size)⟩
      · have hk2 : 0 ≤ r' ∧ r' ≤ r := hk.resolve_left hr
        have e3 : decide (r < 0) = false := by simpa using hr
        have e4 : decide (0 ≤ r') = true := by simpa using hk2.1
        have e5 : decide (r' ≤ r) = true := by simpa using hk2.2
        clear hk hk2 hr hw1 hw2
        go_wp2_with fail
        refine (awake_ht _).mono ?_; rintro e Z ⟨rfl, hZ⟩
        go_wp2
        go_ret
        exact ⟨rfl, hbR.trans (hZ.mono hbR.size)⟩
    · have hs1 : (er2 == 0) = false := by simpa using he2
      have hb := hX3.below
      clear he2 hX3 hA3 hS3
      go_wp2_with fail
      refine (awake_ht _).mono ?_; rintro e Z ⟨rfl, hZ⟩
      go_wp2
      go_ret
      exact ⟨rfl, hb.trans (hZ.mono hb.size)⟩
  · have hs1 : (er == 0) = false := by simpa using he
    have hb := hX3.below
    clear he hX3 hA3 hS3
    go_wp2_with fail
    refine (awake_ht _).mono ?_; rintro e Z ⟨rfl, hZ⟩
    go_wp2
    go_ret
    exact ⟨rfl, hb.trans (hZ.mono hb.size)⟩
end Go.Proofs.Ytplipfcnjmgicaa
