/-
  OrderUndone: the walk. No statement is proved here.
-/
import Derived.Test.YtmkcijecncdhpaaOProduct
namespace Go.Proofs.Ytmkcijecncdhpaa
open Go.RowKit
set_option linter.unusedVariables false
set_option linter.unusedSimpArgs false

/-- One order that is neither a test, a read, a print nor a halt. -/
theorem one_order {s : MS} {w op f t n : Int} (hw : s.word = w) (h1 : opO w = op) (h2 : fromO w = f) (h3 : toO w = t) (h4 : nextO w = n) (hy : s.why = 0) (hop : op = 1 ∨ op = 2 ∨ op = 3) (ht : untilO op f t n s.time false ≤ 1000000000) :
    s.ends = 0 ∧ s.go = ⟨setI s.store t s.result, s.tape, s.printed, s.taken, untilO op f t n s.time false, n, s.done + 1, 0⟩ := by
  have e1 : s.op = op := by unfold MS.op; rw [hw, h1]
  have e2 : s.frm = f := by unfold MS.frm; rw [hw, h2]
  have e3 : s.to = t := by unfold MS.to; rw [hw, h3]
  have e4 : s.nxt = n := by unfold MS.nxt; rw [hw, h4]
  have e5 : op ≠ 5 := by omega
  have e6 : s.until_ = untilO op f t n s.time false := by
    unfold MS.until_ untilO atO
    rw [e1, e2, e3, e4]
    simp [e5]
  have e7 : s.follow = n := by
    unfold MS.follow atO
    rw [e1, e3, e4]
    simp [e5]
  constructor
  · unfold MS.ends
    rw [if_neg (by simp [hy]), e1, if_neg (by omega), if_neg (by omega), if_neg (by omega), e6, if_neg (by omega)]
  · unfold MS.go MS.does
    rw [e1, e3, e6, e7, if_neg (by omega), if_neg (by omega), hy]
def undL (a b c : Int) : List Int := padL [4260481, 6357634, 2179843, 6357511, a, b, c, 0]
def undS (a b : Int) : MS := ⟨undL a b 0, [], [], 0, 0, 0, 0, 0⟩
def undT1 : Int := untilO 2 4 5 1 0 false
def undT2 : Int := untilO 3 4 5 2 undT1 false
def undT3 : Int := untilO 1 5 6 3 undT2 false
def undT4 : Int := untilO 3 4 4 7 undT3 false
theorem und1 (a b : Int) : (undS a b).ends = 0 ∧ (undS a b).go = ⟨undL a ((b + a) % 16777216) 0, [], [], 0, undT1, 1, 1, 0⟩ :=
  one_order (w := 4260481) (op := 2) (f := 4) (t := 5) (n := 1) rfl (by decide) (by decide) (by decide) (by decide) rfl (by decide) (by show untilO 2 4 5 1 0 false ≤ 1000000000; decide)
theorem und2 (a b : Int) : (⟨undL a b 0, [], [], 0, undT1, 1, 1, 0⟩ : MS).ends = 0 ∧ (⟨undL a b 0, [], [], 0, undT1, 1, 1, 0⟩ : MS).go = ⟨undL a ((b - a) % 16777216) 0, [], [], 0, undT2, 2, 2, 0⟩ :=
  one_order (w := 6357634) (op := 3) (f := 4) (t := 5) (n := 2) rfl (by decide) (by decide) (by decide) (by decide) rfl (by decide) (by show untilO 3 4 5 2 undT1 false ≤ 1000000000; decide)
theorem und3 (a b : Int) : (⟨undL a b 0, [], [], 0, undT2, 2, 2, 0⟩ : MS).ends = 0 ∧ (⟨undL a b 0, [], [], 0, undT2, 2, 2, 0⟩ : MS).go = ⟨undL a b b, [], [], 0, undT3, 3, 3, 0⟩ :=
  one_order (w := 2179843) (op := 1) (f := 5) (t := 6) (n := 3) rfl (by decide) (by decide) (by decide) (by decide) rfl (by decide) (by show untilO 1 5 6 3 undT2 false ≤ 1000000000; decide)
theorem und4 (a b : Int) : (⟨undL a b b, [], [], 0, undT3, 3, 3, 0⟩ : MS).ends = 0 ∧ (⟨undL a b b, [], [], 0, undT3, 3, 3, 0⟩ : MS).go = ⟨undL ((a - a) % 16777216) b b, [], [], 0, undT4, 7, 4, 0⟩ :=
  one_order (w := 6357511) (op := 3) (f := 4) (t := 4) (n := 7) rfl (by decide) (by decide) (by decide) (by decide) rfl (by decide) (by show untilO 3 4 4 7 undT3 false ≤ 1000000000; decide)
theorem und5 (a b : Int) : (⟨undL a b b, [], [], 0, undT4, 7, 4, 0⟩ : MS).ends = 1 := by
  unfold MS.ends
  rw [if_neg (by simp)]
  exact if_pos (show (⟨undL a b b, [], [], 0, undT4, 7, 4, 0⟩ : MS).op = 0 by rfl)
theorem run_go {s s' : MS} {n : Nat} (h : s.ends = 0 ∧ s.go = s') : MS.run (n + 1) s = MS.run n s' := by
  show (if s.ends = 0 then MS.run n s.go else s.ended) = _
  rw [if_pos h.1, h.2]
theorem und_two {a b : Int} (hb : IsW b) : (MS.run 2 (undS a b)).store = undL a b 0 := by
  have e : ((b + a) % 16777216 - a) % 16777216 = b := by unfold IsW at hb; omega
  rw [run_go (und1 a b), run_go (und2 a _), e]
  rfl
theorem und_nine {a b : Int} (hb : IsW b) : MS.run 9 (undS a b) = ⟨undL 0 b b, [], [], 0, undT4, 7, 4, 1⟩ := by
  have e : ((b + a) % 16777216 - a) % 16777216 = b := by unfold IsW at hb; omega
  have e0 : (a - a) % 16777216 = 0 := by omega
  rw [run_go (und1 a b), run_go (und2 a _), e, run_go (und3 a b), run_go (und4 a b), e0]
  show (if (⟨undL 0 b b, [], [], 0, undT4, 7, 4, 0⟩ : MS).ends = 0 then _ else (⟨undL 0 b b, [], [], 0, undT4, 7, 4, 0⟩ : MS).ended) = _
  rw [if_neg (by rw [und5]; decide)]
  unfold MS.ended
  rw [und5]
theorem und_all {a b : Int} (ha : IsW a) (hb : IsW b) : ([4260481, 6357634, 2179843, 6357511, a, b, 0, 0] : List Int).all (inB 16777215) = true := by
  unfold IsW at ha hb
  simp [inB_t ha, inB_t hb]
  unfold inB
  simp
theorem und_ok {a b : Int} (ha : IsW a) (hb : IsW b) : (undS a b).Ok := by
  refine ⟨by simp [undS, undL, padL], ?_, by simp [undS], rfl, by simp [undS], rfl, by simp [undS], by simp [undS], by simp [undS], by simp [undS], by simp [undS], rfl⟩
  show (padL _).all (inB 16777215) = true
  unfold padL
  rw [List.all_append, und_all ha hb]
  unfold inB
  simp
theorem ints8 {U : World} {k : Nat} {l : List Int} (h : RowIs U k 3 (l.map (Value.int .i64))) : IntsAt U U.heap.size (some ⟨k, 0, none⟩) l := ListAt.row (f := Value.int .i64) h
/-- The two runs' states in blocks, three words of the second one's store. -/
structure UnW (ks kt ku : Nat) (ss st su : Value) (u6 u7 : Int) (ad : Addr) (x4 x5 x6 : Int) (U : World) : Prop where
  s0 : U.cell? ⟨ks, 0, none⟩ = some ss
  t0 : U.cell? ⟨kt, 0, none⟩ = some st
  u0 : U.cell? ⟨ku, 0, none⟩ = some su
  w6 : U.cell? ⟨ku, 6, none⟩ = some (.int .i64 u6)
  w7 : U.cell? ⟨ku, 7, none⟩ = some (.int .i64 u7)
  c4 : U.cell? ⟨ad.block, ad.off + 4, none⟩ = some (.int .i64 x4)
  c5 : U.cell? ⟨ad.block, ad.off + 5, none⟩ = some (.int .i64 x5)
  c6 : U.cell? ⟨ad.block, ad.off + 6, none⟩ = some (.int .i64 x6)
  ls : ks < U.heap.size
  lt : kt < U.heap.size
  lu : ku < U.heap.size
  la : ad.block < U.heap.size
theorem UnW.after {ks kt ku : Nat} {ss st su : Value} {u6 u7 : Int} {ad : Addr} {x4 x5 x6 : Int} {U V : World} (h : UnW ks kt ku ss st su u6 u7 ad x4 x5 x6 U) (hb : Below U.heap.size U V) : UnW ks kt ku ss st su u6 u7 ad x4 x5 x6 V :=
  ⟨(hb.cell (p := ⟨ks, 0, none⟩) h.ls).trans h.s0, (hb.cell (p := ⟨kt, 0, none⟩) h.lt).trans h.t0, (hb.cell (p := ⟨ku, 0, none⟩) h.lu).trans h.u0, (hb.cell (p := ⟨ku, 6, none⟩) h.lu).trans h.w6, (hb.cell (p := ⟨ku, 7, none⟩) h.lu).trans h.w7,
    (hb.cell (p := ⟨ad.block, ad.off + 4, none⟩) h.la).trans h.c4, (hb.cell (p := ⟨ad.block, ad.off + 5, none⟩) h.la).trans h.c5, (hb.cell (p := ⟨ad.block, ad.off + 6, none⟩) h.la).trans h.c6, Nat.lt_of_lt_of_le h.ls hb.size, Nat.lt_of_lt_of_le h.lt hb.size, Nat.lt_of_lt_of_le h.lu hb.size, Nat.lt_of_lt_of_le h.la hb.size⟩
set_option maxRecDepth 100000 in
set_option maxHeartbeats 4000000 in
theorem undone_good (a b : Int) (ha : IsW a) (hb : IsW b) (W : World) :
    Calls Try.prog 7 #[.int .i64 a, .int .i64 b] W fun e W' => e = .returned (.bool true) ∧ Below W.heap.size W W' := by
  have W1 : Hid (∀ w, Calls Try.prog 21 #[ordV 2 4 5 1] w fun e w' => e = .returned (.int .i64 4260481) ∧ Below w.heap.size w w') := Lib.hid fun w => rWritten_ok 2 4 5 1 (by decide) w
  have W2 : Hid (∀ w, Calls Try.prog 21 #[ordV 3 4 5 2] w fun e w' => e = .returned (.int .i64 6357634) ∧ Below w.heap.size w w') := Lib.hid fun w => rWritten_ok 3 4 5 2 (by decide) w
  have W3 : Hid (∀ w, Calls Try.prog 21 #[ordV 1 5 6 3] w fun e w' => e = .returned (.int .i64 2179843) ∧ Below w.heap.size w w') := Lib.hid fun w => rWritten_ok 1 5 6 3 (by decide) w
  have W4 : Hid (∀ w, Calls Try.prog 21 #[ordV 3 4 4 7] w fun e w' => e = .returned (.int .i64 6357511) ∧ Below w.heap.size w w') := Lib.hid fun w => rWritten_ok 3 4 4 7 (by decide) w
  have KB : Hid (∀ k w, IntsAt w w.heap.size (some ⟨k, 0, none⟩) [4260481, 6357634, 2179843, 6357511, a, b, 0, 0] → Calls Try.prog 17 #[.slice (some ⟨k, 0, none⟩) 8 8, .slice none 0 0, .int .i64 0] w (BeginOk w [4260481, 6357634, 2179843, 6357511, a, b, 0, 0] [] 0)) := Lib.hid fun k w h =>
    begin_ok (some ⟨k, 0, none⟩) none 8 0 [4260481, 6357634, 2179843, 6357511, a, b, 0, 0] [] 0 (by simp) (by simp) (und_all ha hb) rfl (by omega) w h (ListAt.nil _ _ _)
  have ho := und_ok ha hb
  have he2 : (undS a b).err 2 = 0 := MS.err_ok ho (by omega)
  have he9 : (undS a b).err 9 = 0 := MS.err_ok ho (by omega)
  have KR : ∀ m : Int, (undS a b).err m = 0 → Hid (∀ A0 A1 c0 c1 w, IntsAt w w.heap.size A0 (undL a b 0) → IntsAt w w.heap.size A1 [] → Calls Try.prog 19 #[.agg #[.slice A0 128 c0, .slice A1 0 c1, .int .i64 0, .slice none 0 0, .int .i64 0, .int .i64 0, .int .i64 0, .int .i64 0], .int .i64 m] w (StateOut w (MS.run m.toNat (undS a b)) 0)) := fun m he => Lib.hid fun A0 A1 c0 c1 w h0 h1 => by
    have h := run_any (undS a b) m A0 A1 none c0 c1 0 (by simp [undS, undL, padL, maxLen]) (by simp [undS, maxLen]) (by simp [undS, maxLen]) w h0 h1 (ListAt.nil _ _ _)
    rw [MS.out_ok he, he] at h
    exact h
  have KR2 := KR 2 he2
  have KR9 := KR 9 he9
  have hr2 : (MS.run (2 : Int).toNat (undS a b)).store = undL a b 0 := und_two hb
  have hr9 : MS.run (9 : Int).toNat (undS a b) = ⟨undL 0 b b, [], [], 0, undT4, 7, 4, 1⟩ := und_nine hb
  rw [hr9] at KR9
  generalize MS.run (2 : Int).toNat (undS a b) = r at *
  have hl : r.store.length = 128 := by rw [hr2]; unfold undL padL; simp
  have HR := Lib.hid hr2
  have KI : Hid (∀ A B c d w, IntsAt w w.heap.size A (undL a b 0) → IntsAt w w.heap.size B (undL a b 0) → Calls Try.prog 31 #[.slice A 128 c, .slice B 128 d] w fun e w' => e = .returned (.bool true) ∧ Below w.heap.size w w') := Lib.hid fun A B c d w h1 h2 =>
    ints_same A B c d (undL a b 0) (by unfold undL padL maxLen; simp) w h1 h2
  clear KR hr9 hr2 he2 he9 ho ha hb
  go_enter Try.func7, Try.ntmps7
  go_wp2_with fail
  refine (W1.out _).mono ?_; rintro e V1 ⟨rfl, hb1⟩
  go_wp2_with fail
  refine (W2.out _).mono ?_; rintro e V2 ⟨rfl, hb2⟩
  go_wp2_with fail
  refine (W3.out _).mono ?_; rintro e V3 ⟨rfl, hb3⟩
  go_wp2_with fail
  refine (W4.out _).mono ?_; rintro e V4 ⟨rfl, hb4⟩
  have h12 := hb1.trans (below_lower hb1.size hb2)
  have h13 := h12.trans (below_lower h12.size hb3)
  have HB4 := Lib.hid (h13.trans (below_lower h13.size hb4))
  clear W1 W2 W3 W4 hb1 hb2 hb3 hb4 h12 h13
  go_wp2_with fail
  have hab := alloc_below V4 (.cells #[.int .i64 4260481, .int .i64 6357634, .int .i64 2179843, .int .i64 6357511, .int .i64 a, .int .i64 b, .int .i64 0, .int .i64 0] 3)
  refine (KB.out V4.heap.size _ (ints8 (l := [4260481, 6357634, 2179843, 6357511, a, b, 0, 0]) (RowIs.new V4 _ _))).mono ?_; rintro e V5 ⟨B0, d0, B1, d1, rfl, j0, j1, hb5⟩
  have HB5 := Lib.hid ((HB4.out.trans (below_lower HB4.out.size hab)).trans (below_lower (Nat.le_trans HB4.out.size hab.size) hb5))
  have HJ := Lib.hid (And.intro j0 j1)
  clear hab hb5 j0 j1 KB HB4
  go_wp2_with fail
  have hab := alloc_below V5 (.cells #[.slice B0 128 d0, .slice B1 0 d1, .int .i64 0, .slice none 0 0, .int .i64 0, .int .i64 0, .int .i64 0, .int .i64 0] 24)
  have S5 := StAt.new V5 (.slice B0 128 d0) (.slice B1 0 d1) (.slice none 0 0) 0 0 0 0 0 24
  have hs5 : (V5.alloc (.cells #[.slice B0 128 d0, .slice B1 0 d1, .int .i64 0, .slice none 0 0, .int .i64 0, .int .i64 0, .int .i64 0, .int .i64 0] 24)).heap.size = V5.heap.size + 1 := by simp
  have HB6 := Lib.hid (HB5.out.trans (below_lower HB5.out.size hab))
  have HJ6 := Lib.hid (And.intro (ints_at HJ.out.1 hab) (ints_at HJ.out.2 hab))
  generalize V5.alloc (.cells #[.slice B0 128 d0, .slice B1 0 d1, .int .i64 0, .slice none 0 0, .int .i64 0, .int .i64 0, .int .i64 0, .int .i64 0] 24) = V6 at *
  generalize V5.heap.size = ks at *
  clear hab HJ HB5
  refine (KR2.out B0 B1 d0 d1 V6 HJ6.out.1 HJ6.out.2).mono ?_; rintro e V7 ⟨C0, C1, C3, g0, g1, g3, rfl, r0, _, _, hb7⟩
  have S7 := S5.below hb7 (by omega)
  have HB7 := Lib.hid (HB6.out.trans (below_lower HB6.out.size hb7))
  have HJ7 := Lib.hid (And.intro (ints_at HJ6.out.1 hb7) (ints_at HJ6.out.2 hb7))
  have hs7 := hb7.size
  rw [HR.out] at r0
  have HC7 := Lib.hid r0
  have hks : ks < V7.heap.size := by omega
  obtain ⟨y0, y1, y2, y3, y4, y5, y6, y7⟩ := S7
  clear S5 hb7 r0 KR2 HJ6 HB6
  simp only [stV, hl]
  go_wp2_with fail
  have hab := alloc_below V7 (.cells #[.slice C0 128 g0, .slice C1 r.tape.length g1, .int .i64 r.taken, .slice C3 r.printed.length g3, .int .i64 r.time, .int .i64 r.at_, .int .i64 r.done, .int .i64 r.why] 24)
  have T8 := StAt.new V7 (.slice C0 128 g0) (.slice C1 r.tape.length g1) (.slice C3 r.printed.length g3) r.taken r.time r.at_ r.done r.why 24
  have S8 := (StAt.mk y0 y1 y2 y3 y4 y5 y6 y7).below hab hks
  have hs8 : (V7.alloc (.cells #[.slice C0 128 g0, .slice C1 r.tape.length g1, .int .i64 r.taken, .slice C3 r.printed.length g3, .int .i64 r.time, .int .i64 r.at_, .int .i64 r.done, .int .i64 r.why] 24)).heap.size = V7.heap.size + 1 := by simp
  have HB8 := Lib.hid (HB7.out.trans (below_lower HB7.out.size hab))
  have HJ8 := Lib.hid (And.intro (ints_at HJ7.out.1 hab) (ints_at HJ7.out.2 hab))
  have HC8 := Lib.hid (ints_at HC7.out hab)
  generalize V7.alloc (.cells #[.slice C0 128 g0, .slice C1 r.tape.length g1, .int .i64 r.taken, .slice C3 r.printed.length g3, .int .i64 r.time, .int .i64 r.at_, .int .i64 r.done, .int .i64 r.why] 24) = V8 at *
  generalize V7.heap.size = kt at *
  clear hab y0 y1 y2 y3 y4 y5 y6 y7 HJ7 HC7 HB7
  refine (KR9.out B0 B1 d0 d1 V8 HJ8.out.1 HJ8.out.2).mono ?_; rintro e V9 ⟨D0, D1, D3, f0, f1, f3, rfl, r0, _, _, hb9⟩
  obtain ⟨ad, rfl, hlt, hc⟩ := r0 (by unfold undL padL; simp)
  have hul : (undL 0 b b).length = 128 := by unfold undL padL; simp
  have hc4 : V9.cell? (ad.add 4) = some (.int .i64 0) := hc 4 (by show 4 < (undL 0 b b).length; omega)
  have hc5 : V9.cell? (ad.add 5) = some (.int .i64 b) := hc 5 (by show 5 < (undL 0 b b).length; omega)
  have hc6 : V9.cell? (ad.add 6) = some (.int .i64 b) := hc 6 (by show 6 < (undL 0 b b).length; omega)
  have S9 := S8.below hb9 (by omega)
  have T9 := T8.below hb9 (by omega)
  have h9s := hb9.size
  have HB9 := Lib.hid (HB8.out.trans (below_lower HB8.out.size hb9))
  have HJ9 := Lib.hid (And.intro (ints_at HJ8.out.1 hb9) (ints_at HC8.out hb9))
  have hab := alloc_below V9 (.cells #[.slice (some ad) 128 f0, .slice D1 0 f1, .int .i64 0, .slice D3 0 f3, .int .i64 undT4, .int .i64 7, .int .i64 4, .int .i64 1] 24)
  have U10 := StAt.new V9 (.slice (some ad) 128 f0) (.slice D1 0 f1) (.slice D3 0 f3) 0 undT4 7 4 1 24
  have S10 := S9.below hab (by omega)
  have T10 := T9.below hab (by omega)
  have P10 : UnW ks kt V9.heap.size (.slice B0 128 d0) (.slice C0 128 g0) (.slice (some ad) 128 f0) 4 1 ad 0 b b (V9.alloc (.cells #[.slice (some ad) 128 f0, .slice D1 0 f1, .int .i64 0, .slice D3 0 f3, .int .i64 undT4, .int .i64 7, .int .i64 4, .int .i64 1] 24)) :=
    ⟨S10.c0, T10.c0, U10.c0, U10.c6, U10.c7, (hab.cell (p := ⟨ad.block, ad.off + 4, none⟩) hlt).trans hc4, (hab.cell (p := ⟨ad.block, ad.off + 5, none⟩) hlt).trans hc5, (hab.cell (p := ⟨ad.block, ad.off + 6, none⟩) hlt).trans hc6, by simp; omega, by simp; omega, by simp, by simp; omega⟩
  have HB10 := Lib.hid (HB9.out.trans (below_lower HB9.out.size hab))
  have HJ10 := Lib.hid (And.intro (ints_at HJ9.out.1 hab) (ints_at HJ9.out.2 hab))
  clear hab U10 S10 T10 S9 T9 S8 T8 hb9 hc hc4 hc5 hc6 hlt HJ8 HJ9 HC8 HB8 HB9 KR9
  obtain ⟨y1, y2, y3, y4, y5, y6, y7, y8, l1, l2, l3, l4⟩ := P10
  simp only [stV, hul, List.length_nil]
  go_wp2_with fail
  generalize V9.alloc (.cells #[.slice (some ad) 128 f0, .slice D1 0 f1, .int .i64 0, .slice D3 0 f3, .int .i64 undT4, .int .i64 7, .int .i64 4, .int .i64 1] 24) = V10 at *
  generalize V9.heap.size = ku at *
  refine (KI.out B0 C0 d0 g0 V10 HJ10.out.1 HJ10.out.2).mono ?_; rintro e V11 ⟨rfl, hb11⟩
  have P11 := (UnW.mk y1 y2 y3 y4 y5 y6 y7 y8 l1 l2 l3 l4).after hb11
  have HB11 := Lib.hid (HB10.out.trans (below_lower HB10.out.size hb11))
  clear y1 y2 y3 y4 y5 y6 y7 y8 l1 l2 l3 l4 hb11 KI HJ10
  obtain ⟨y1, y2, y3, y4, y5, y6, y7, y8, l1, l2, l3, l4⟩ := P11
  go_wp2_with fail
  refine (awake_p _).mono ?_; rintro e w7 ⟨rfl, hb7⟩
  go_wp2
  go_ret
  exact ⟨rfl, HB11.out.trans (below_lower HB11.out.size hb7)⟩
set_option maxRecDepth 100000 in
set_option maxHeartbeats 4000000 in
theorem undone_bad (a b : Int) (h : ¬ (IsW a ∧ IsW b)) (W : World) :
    Calls Try.prog 7 #[.int .i64 a, .int .i64 b] W fun e W' => e = .returned (.bool true) ∧ Below W.heap.size W W' := by
  have W1 : Hid (∀ w, Calls Try.prog 21 #[ordV 2 4 5 1] w fun e w' => e = .returned (.int .i64 4260481) ∧ Below w.heap.size w w') := Lib.hid fun w => rWritten_ok 2 4 5 1 (by decide) w
  have W2 : Hid (∀ w, Calls Try.prog 21 #[ordV 3 4 5 2] w fun e w' => e = .returned (.int .i64 6357634) ∧ Below w.heap.size w w') := Lib.hid fun w => rWritten_ok 3 4 5 2 (by decide) w
  have W3 : Hid (∀ w, Calls Try.prog 21 #[ordV 1 5 6 3] w fun e w' => e = .returned (.int .i64 2179843) ∧ Below w.heap.size w w') := Lib.hid fun w => rWritten_ok 1 5 6 3 (by decide) w
  have W4 : Hid (∀ w, Calls Try.prog 21 #[ordV 3 4 4 7] w fun e w' => e = .returned (.int .i64 6357511) ∧ Below w.heap.size w w') := Lib.hid fun w => rWritten_ok 3 4 4 7 (by decide) w
  have hg : begGood [4260481, 6357634, 2179843, 6357511, a, b, 0, 0] [] 0 = false := by
    cases hb : begGood [4260481, 6357634, 2179843, 6357511, a, b, 0, 0] [] 0 with
    | false => rfl
    | true =>
      unfold begGood at hb
      simp only [List.all_cons, List.all_nil, Bool.and_true, Bool.and_eq_true, MS.inB_iff] at hb
      exact absurd ⟨hb.1.2.2.2.2.1, hb.1.2.2.2.2.2.1⟩ h
  have KB : Hid (∀ k w, IntsAt w w.heap.size (some ⟨k, 0, none⟩) [4260481, 6357634, 2179843, 6357511, a, b, 0, 0] → Calls Try.prog 17 #[.slice (some ⟨k, 0, none⟩) 8 8, .slice none 0 0, .int .i64 0] w (BeginNo w 7)) := Lib.hid fun k w h =>
    begin_bad (some ⟨k, 0, none⟩) none 8 0 [4260481, 6357634, 2179843, 6357511, a, b, 0, 0] [] 0 (by simp) (by simp) hg w h (ListAt.nil _ _ _)
  have KA := Lib.hid (rword_any a)
  have KC := Lib.hid (rword_any b)
  have hab2 : inB 16777215 a = true → inB 16777215 b = false := fun h1 => by
    cases h2 : inB 16777215 b with
    | false => rfl
    | true => exact absurd ⟨MS.inB_iff.1 h1, MS.inB_iff.1 h2⟩ h
  have HI := Lib.hid hab2
  clear h hg hab2
  go_enter Try.func7, Try.ntmps7
  go_wp2_with fail
  refine (W1.out _).mono ?_; rintro e V1 ⟨rfl, hb1⟩
  go_wp2_with fail
  refine (W2.out _).mono ?_; rintro e V2 ⟨rfl, hb2⟩
  go_wp2_with fail
  refine (W3.out _).mono ?_; rintro e V3 ⟨rfl, hb3⟩
  go_wp2_with fail
  refine (W4.out _).mono ?_; rintro e V4 ⟨rfl, hb4⟩
  have h12 := hb1.trans (below_lower hb1.size hb2)
  have h13 := h12.trans (below_lower h12.size hb3)
  have HB4 := Lib.hid (h13.trans (below_lower h13.size hb4))
  clear W1 W2 W3 W4 hb1 hb2 hb3 hb4 h12 h13
  go_wp2_with fail
  have hab := alloc_below V4 (.cells #[.int .i64 4260481, .int .i64 6357634, .int .i64 2179843, .int .i64 6357511, .int .i64 a, .int .i64 b, .int .i64 0, .int .i64 0] 3)
  refine (KB.out V4.heap.size _ (ints8 (l := [4260481, 6357634, 2179843, 6357511, a, b, 0, 0]) (RowIs.new V4 _ _))).mono ?_; rintro e V5 ⟨rfl, hb5⟩
  have HB5 := Lib.hid ((HB4.out.trans (below_lower HB4.out.size hab)).trans (below_lower (Nat.le_trans HB4.out.size hab.size) hb5))
  have HB6 := Lib.hid (HB5.out.trans (below_lower HB5.out.size (alloc_below V5 zeroC)))
  clear hab hb5 KB HB4
  go_wp2_with fail
  refine (KA.out _).mono ?_; rintro e V6 ⟨rfl, rfl⟩
  cases h1 : inB 16777215 a with
  | false =>
    go_wp2_with fail
    refine (awake_p _).mono ?_; rintro e w7 ⟨rfl, hb7⟩
    go_wp2
    go_ret
    exact ⟨rfl, HB6.out.trans (below_lower HB6.out.size hb7)⟩
  | true =>
    have h2 := HI.out h1
    have KC' := KC.out
    rw [h2] at KC'
    have KD := Lib.hid KC'
    clear KC' KC KA h2 h1
    go_wp2_with fail
    refine (KD.out _).mono ?_; rintro e V7 ⟨rfl, rfl⟩
    go_wp2_with fail
    refine (awake_p _).mono ?_; rintro e w7 ⟨rfl, hb7⟩
    go_wp2
    go_ret
    exact ⟨rfl, HB6.out.trans (below_lower HB6.out.size hb7)⟩
theorem orderUndone_walk (a : Int) (wa : (Lit.int .i64 a).wf = true) (b : Int) (wb : (Lit.int .i64 b).wf = true) (W : World) :
    Calls Try.prog 7 #[.int .i64 a, .int .i64 b] W fun e W' => e = .returned (.bool true) ∧ Below W.heap.size W W' := by
  by_cases h : IsW a ∧ IsW b
  · exact undone_good a b h.1 h.2 W
  · exact undone_bad a b h W
end Go.Proofs.Ytmkcijecncdhpaa
