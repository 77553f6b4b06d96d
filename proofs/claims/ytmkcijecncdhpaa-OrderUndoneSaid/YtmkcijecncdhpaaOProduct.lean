/-
  OrderProduct: the walk. No statement is proved here.
-/
import Derived.Test.YtmkcijecncdhpaaSt6
import Derived.Test.YtmkcijecncdhpaaOwB
import Derived.Test.YtmkcijecncdhpaaOAwake
namespace Go.Proofs.Ytmkcijecncdhpaa
open Go.RowKit
set_option linter.unusedVariables false
set_option linter.unusedSimpArgs false

theorem awake_p (w : World) : Calls Try.prog 22 #[] w (fun e w' => e = .returned (.bool true) ∧ Below w.heap.size w w') := Ev.awake w
def prodS (a b : Int) : MS := ⟨padL [8405251, a, b], [], [], 0, 0, 0, 0, 0⟩
def prodW (a b : Int) : Int := (signO a * signO b / 8388608) % 16777216
theorem prod_word (a b : Int) : (prodS a b).word = 8405251 := rfl
theorem prod_until (a b : Int) : (prodS a b).until_ = 19 := by
  show untilO (opO 8405251) (fromO 8405251) (toO 8405251) (nextO 8405251) 0 (prodS a b).neg = 19
  generalize (prodS a b).neg = n
  cases n <;> decide
theorem prod_ends (a b : Int) : (prodS a b).ends = 0 := by
  unfold MS.ends
  rw [prod_until]
  rfl
theorem prod_ok {a b : Int} (ha : IsW a) (hb : IsW b) : (prodS a b).Ok := by
  unfold IsW at ha hb
  refine ⟨by simp [prodS, padL], ?_, by simp [prodS], rfl, by simp [prodS], rfl, by simp [prodS], by simp [prodS], by simp [prodS], by simp [prodS], by simp [prodS], rfl⟩
  show (padL [8405251, a, b]).all (inB 16777215) = true
  unfold padL
  simp [inB_t ha, inB_t hb]
  unfold inB
  simp
theorem prod_run (a b : Int) : (MS.run 1 (prodS a b)).store = padL [8405251, a, prodW a b] := by
  have e : MS.run 1 (prodS a b) = (prodS a b).go := by
    show (if (prodS a b).ends = 0 then MS.run 0 (prodS a b).go else (prodS a b).ended) = _
    rw [if_pos (prod_ends a b)]
    rfl
  rw [e]
  rfl
theorem prod_fact {a b : Int} (ha : IsW a) (hb : IsW b) : (signO a = -8388608 ∧ signO b = -8388608) ∨ (signO (prodW a b) * 8388608 ≤ signO a * signO b ∧ signO a * signO b - signO (prodW a b) * 8388608 < 8388608) := by
  have hx := signO_bd ha
  have hy := signO_bd hb
  have hp := mul_bd hx hy
  unfold prodW
  by_cases h : signO a * signO b = 70368744177664
  · left
    have h1 : (signO a).natAbs ≤ 8388608 := by omega
    have h2 : (signO b).natAbs ≤ 8388608 := by omega
    have h3 : (signO a).natAbs * (signO b).natAbs = 8388608 * 8388608 := by rw [← Int.natAbs_mul, h]; rfl
    have h4 : (signO a).natAbs = 8388608 := by
      rcases Nat.lt_or_eq_of_le h1 with h5 | h5
      · have := Nat.mul_le_mul (Nat.le_of_lt_succ (show (signO a).natAbs < 8388607 + 1 by omega)) h2
        omega
      · exact h5
    have h5 : (signO b).natAbs = 8388608 := by
      rw [h4] at h3
      omega
    omega
  · right
    generalize signO a * signO b = p at *
    unfold signO
    split <;> omega
theorem ints3 {U : World} {k : Nat} {a b c : Int} (h : RowIs U k 3 [.int .i64 a, .int .i64 b, .int .i64 c]) : IntsAt U U.heap.size (some ⟨k, 0, none⟩) [a, b, c] := ListAt.row (f := Value.int .i64) (xs := [a, b, c]) h
/-- The run's state in a block, two words of its store. -/
structure PrW (k : Nat) (s : Value) (ad : Addr) (a z : Int) (U : World) : Prop where
  c0 : U.cell? ⟨k, 0, none⟩ = some s
  c1 : U.cell? ⟨ad.block, ad.off + 1, none⟩ = some (.int .i64 a)
  c2 : U.cell? ⟨ad.block, ad.off + 2, none⟩ = some (.int .i64 z)
  lk : k < U.heap.size
  la : ad.block < U.heap.size
theorem PrW.after {k : Nat} {s : Value} {ad : Addr} {a z : Int} {U V : World} (h : PrW k s ad a z U) (hb : Below U.heap.size U V) : PrW k s ad a z V :=
  ⟨(hb.cell (p := ⟨k, 0, none⟩) h.lk).trans h.c0, (hb.cell (p := ⟨ad.block, ad.off + 1, none⟩) h.la).trans h.c1, (hb.cell (p := ⟨ad.block, ad.off + 2, none⟩) h.la).trans h.c2, Nat.lt_of_lt_of_le h.lk hb.size, Nat.lt_of_lt_of_le h.la hb.size⟩
theorem prW_new {U : World} {s v1 v3 : Value} {ad : Addr} {a z a2 a4 a5 a6 a7 : Int} {T : TypeId} (h1 : U.cell? (ad.add 1) = some (.int .i64 a)) (h2 : U.cell? (ad.add 2) = some (.int .i64 z)) (hl : ad.block < U.heap.size) :
    PrW U.heap.size s ad a z (U.alloc (.cells #[s, v1, .int .i64 a2, v3, .int .i64 a4, .int .i64 a5, .int .i64 a6, .int .i64 a7] T)) := by
  have hb := alloc_below U (.cells #[s, v1, .int .i64 a2, v3, .int .i64 a4, .int .i64 a5, .int .i64 a6, .int .i64 a7] T)
  exact ⟨by simp [go_sem], (hb.cell (p := ⟨ad.block, ad.off + 1, none⟩) hl).trans h1, (hb.cell (p := ⟨ad.block, ad.off + 2, none⟩) hl).trans h2, by simp, by simp; omega⟩
set_option maxRecDepth 100000 in
set_option maxHeartbeats 4000000 in
theorem product_good (a b : Int) (ha : IsW a) (hb : IsW b) (W : World) :
    Calls Try.prog 8 #[.int .i64 a, .int .i64 b] W fun e W' => e = .returned (.bool true) ∧ Below W.heap.size W W' := by
  have KW : Hid (∀ w, Calls Try.prog 21 #[ordV 4 1 2 3] w fun e w' => e = .returned (.int .i64 8405251) ∧ Below w.heap.size w w') := Lib.hid fun w => rWritten_ok 4 1 2 3 (by decide) w
  have KB : Hid (∀ k w, IntsAt w w.heap.size (some ⟨k, 0, none⟩) [8405251, a, b] → Calls Try.prog 17 #[.slice (some ⟨k, 0, none⟩) 3 3, .slice none 0 0, .int .i64 0] w (BeginOk w [8405251, a, b] [] 0)) := Lib.hid fun k w h =>
    begin_ok (some ⟨k, 0, none⟩) none 3 0 [8405251, a, b] [] 0 (by simp) (by simp) (by unfold IsW at ha hb; simp [inB_t ha, inB_t hb]; unfold inB; simp) rfl (by omega) w h (ListAt.nil _ _ _)
  have ho := prod_ok ha hb
  have hr := prod_run a b
  have he : (prodS a b).err 1 = 0 := MS.err_ok ho (by omega)
  have KR : Hid (∀ A0 A1 c0 c1 w, IntsAt w w.heap.size A0 (padL [8405251, a, b]) → IntsAt w w.heap.size A1 [] → Calls Try.prog 19 #[.agg #[.slice A0 128 c0, .slice A1 0 c1, .int .i64 0, .slice none 0 0, .int .i64 0, .int .i64 0, .int .i64 0, .int .i64 0], .int .i64 1] w (StateOut w (MS.run 1 (prodS a b)) 0)) := Lib.hid fun A0 A1 c0 c1 w h0 h1 => by
    have h := run_any (prodS a b) 1 A0 A1 none c0 c1 0 (by simp [prodS, padL, maxLen]) (by simp [prodS, maxLen]) (by simp [prodS, maxLen]) w h0 h1 (ListAt.nil _ _ _)
    rw [MS.out_ok he, he] at h
    exact h
  have hxb := signO_bd ha
  have hyb := signO_bd hb
  have hzw : IsW (prodW a b) := MS.isW_emod _
  have hzb := signO_bd hzw
  have hpb := mul_bd hxb hyb
  have hfact := prod_fact ha hb
  have KX : Hid (∀ w, Calls Try.prog 27 #[.int .i64 a] w fun e w' => e = .returned (.tuple #[.int .i64 (signO a), .int .i64 0]) ∧ Below w.heap.size w w') := Lib.hid fun w => by
    have h := Signed_any a w
    unfold sgnV at h
    rw [if_pos (by exact ha)] at h
    exact h
  have KY : Hid (∀ w, Calls Try.prog 27 #[.int .i64 b] w fun e w' => e = .returned (.tuple #[.int .i64 (signO b), .int .i64 0]) ∧ Below w.heap.size w w') := Lib.hid fun w => by
    have h := Signed_any b w
    unfold sgnV at h
    rw [if_pos (by exact hb)] at h
    exact h
  have KZ : Hid (∀ w, Calls Try.prog 27 #[.int .i64 (prodW a b)] w fun e w' => e = .returned (.tuple #[.int .i64 (signO (prodW a b)), .int .i64 0]) ∧ Below w.heap.size w w') := Lib.hid fun w => by
    have h := Signed_any (prodW a b) w
    unfold sgnV at h
    rw [if_pos (by exact hzw)] at h
    exact h
  generalize hR : MS.run 1 (prodS a b) = r at *
  generalize prodW a b = zz at *
  generalize signO a = x at *
  generalize signO b = y at *
  generalize signO zz = z at *
  clear ha hb ho he hR hzw
  have hl : r.store.length = 128 := by rw [hr]; unfold padL; simp
  have HR := Lib.hid hr
  have HF := Lib.hid hfact
  clear hr hfact
  go_enter Try.func8, Try.ntmps8
  go_wp2_with fail
  refine (KW.out _).mono ?_; rintro e V1 ⟨rfl, hb1⟩
  have HB1 := Lib.hid hb1
  clear hb1 KW
  go_wp2_with fail
  have hab := alloc_below V1 (.cells #[.int .i64 8405251, .int .i64 a, .int .i64 b] 3)
  refine (KB.out V1.heap.size _ (ints3 (RowIs.new V1 _ [.int .i64 8405251, .int .i64 a, .int .i64 b]))).mono ?_; rintro e V2 ⟨B0, d0, B1, d1, rfl, j0, j1, hb2⟩
  have HB2 := Lib.hid ((HB1.out.trans (below_lower HB1.out.size hab)).trans (below_lower (Nat.le_trans HB1.out.size hab.size) hb2))
  have HJ := Lib.hid (And.intro j0 j1)
  clear hab hb2 j0 j1 KB HB1
  go_wp2_with fail
  have hab := alloc_below V2 (.cells #[.slice B0 128 d0, .slice B1 0 d1, .int .i64 0, .slice none 0 0, .int .i64 0, .int .i64 0, .int .i64 0, .int .i64 0] 24)
  refine (KR.out B0 B1 d0 d1 _ (ints_at HJ.out.1 hab) (ints_at HJ.out.2 hab)).mono ?_; rintro e V3 ⟨C0, C1, C3, g0, g1, g3, rfl, r0, _, _, hb3⟩
  have HB3 := Lib.hid ((HB2.out.trans (below_lower HB2.out.size hab)).trans (below_lower (Nat.le_trans HB2.out.size hab.size) hb3))
  obtain ⟨ad, rfl, hlt, hc⟩ := r0 (by omega)
  have hc1 := hc 1 (by omega)
  have hc2 := hc 2 (by omega)
  have hv1 : r.store[1] = a := by simp only [HR.out]; rfl
  have hv2 : r.store[2] = zz := by simp only [HR.out]; rfl
  rw [hv1] at hc1
  rw [hv2] at hc2
  have P3 := prW_new (s := .slice (some ad) 128 g0) (v1 := .slice C1 r.tape.length g1) (v3 := .slice C3 r.printed.length g3) (a2 := r.taken) (a4 := r.time) (a5 := r.at_) (a6 := r.done) (a7 := r.why) (T := 24) hc1 hc2 hlt
  have HB4 := Lib.hid (HB3.out.trans (below_lower HB3.out.size (alloc_below V3 (.cells #[.slice (some ad) 128 g0, .slice C1 r.tape.length g1, .int .i64 r.taken, .slice C3 r.printed.length g3, .int .i64 r.time, .int .i64 r.at_, .int .i64 r.done, .int .i64 r.why] 24))))
  clear hab hb3 hc hc1 hc2 hv1 hv2 KR HJ HB2
  simp only [stV, hl]
  go_wp2_with fail
  generalize V3.heap.size = k0 at *
  generalize V3.alloc (.cells #[.slice (some ad) 128 g0, .slice C1 r.tape.length g1, .int .i64 r.taken, .slice C3 r.printed.length g3, .int .i64 r.time, .int .i64 r.at_, .int .i64 r.done, .int .i64 r.why] 24) = V4 at *
  refine (KX.out V4).mono ?_; rintro e V5 ⟨rfl, hb5⟩
  have P5 := P3.after hb5
  have HB5 := Lib.hid (HB4.out.trans (below_lower HB4.out.size hb5))
  clear hb5 P3 KX
  go_wp2_with fail
  refine (KY.out V5).mono ?_; rintro e V6 ⟨rfl, hb6⟩
  have P6 := P5.after hb6
  have HB6 := Lib.hid (HB5.out.trans (below_lower HB5.out.size hb6))
  obtain ⟨y0, y1, y2, yk, ya⟩ := P6
  clear hb6 P5 KY
  go_wp2_with fail
  refine (KZ.out V6).mono ?_; rintro e V7 ⟨rfl, hb7⟩
  have P7 := (PrW.mk y0 y1 y2 yk ya).after hb7
  have HB7 := Lib.hid (HB6.out.trans (below_lower HB6.out.size hb7))
  clear y0 y1 y2 yk ya hb7 KZ
  obtain ⟨y0, y1, y2, yk, ya⟩ := P7
  generalize hpr : x * y = p at *
  have hpr2 : IntKind.i64.wrap p = p := by rw [IntKind.wrap_i64]; omega
  rcases HF.out with ⟨rfl, rfl⟩ | ⟨hf1, hf2⟩
  · go_wp2_with fail
    refine (awake_p _).mono ?_; rintro e w7 ⟨rfl, hb7⟩
    go_wp2
    go_ret
    exact ⟨rfl, HB7.out.trans (below_lower HB7.out.size hb7)⟩
  · by_cases hx : x = -8388608
    · by_cases hy : y = -8388608
      · exfalso
        subst hx
        subst hy
        omega
      · subst hx
        subst hpr
        have q2 : (y == -8388608) = false := by simpa using hy
        go_wp2_with fail
        refine (awake_p _).mono ?_; rintro e w7 ⟨rfl, hb7⟩
        go_wp2
        go_ret
        exact ⟨rfl, HB7.out.trans (below_lower HB7.out.size hb7)⟩
    · have q1 : (x == -8388608) = false := by simpa using hx
      go_wp2_with fail
      refine (awake_p _).mono ?_; rintro e w7 ⟨rfl, hb7⟩
      go_wp2
      go_ret
      exact ⟨rfl, HB7.out.trans (below_lower HB7.out.size hb7)⟩
set_option maxRecDepth 100000 in
set_option maxHeartbeats 4000000 in
theorem product_bad (a b : Int) (h : ¬ (IsW a ∧ IsW b)) (W : World) :
    Calls Try.prog 8 #[.int .i64 a, .int .i64 b] W fun e W' => e = .returned (.bool true) ∧ Below W.heap.size W W' := by
  have KW : Hid (∀ w, Calls Try.prog 21 #[ordV 4 1 2 3] w fun e w' => e = .returned (.int .i64 8405251) ∧ Below w.heap.size w w') := Lib.hid fun w => rWritten_ok 4 1 2 3 (by decide) w
  have hg : begGood [8405251, a, b] [] 0 = false := by
    cases hb : begGood [8405251, a, b] [] 0 with
    | false => rfl
    | true =>
      unfold begGood at hb
      simp only [List.all_cons, List.all_nil, Bool.and_true, Bool.and_eq_true, MS.inB_iff] at hb
      exact absurd ⟨hb.1.2.1, hb.1.2.2⟩ h
  have KB : Hid (∀ k w, IntsAt w w.heap.size (some ⟨k, 0, none⟩) [8405251, a, b] → Calls Try.prog 17 #[.slice (some ⟨k, 0, none⟩) 3 3, .slice none 0 0, .int .i64 0] w (BeginNo w 7)) := Lib.hid fun k w h =>
    begin_bad (some ⟨k, 0, none⟩) none 3 0 [8405251, a, b] [] 0 (by simp) (by simp) hg w h (ListAt.nil _ _ _)
  have KA := Lib.hid (rword_any a)
  have KC := Lib.hid (rword_any b)
  have hab2 : inB 16777215 a = true → inB 16777215 b = false := fun h1 => by
    cases h2 : inB 16777215 b with
    | false => rfl
    | true => exact absurd ⟨MS.inB_iff.1 h1, MS.inB_iff.1 h2⟩ h
  have HI := Lib.hid hab2
  clear h hg hab2
  go_enter Try.func8, Try.ntmps8
  go_wp2_with fail
  refine (KW.out _).mono ?_; rintro e V1 ⟨rfl, hb1⟩
  have HB1 := Lib.hid hb1
  clear hb1 KW
  go_wp2_with fail
  have hab := alloc_below V1 (.cells #[.int .i64 8405251, .int .i64 a, .int .i64 b] 3)
  refine (KB.out V1.heap.size _ (ints3 (RowIs.new V1 _ [.int .i64 8405251, .int .i64 a, .int .i64 b]))).mono ?_; rintro e V2 ⟨rfl, hb2⟩
  have HB2 := Lib.hid ((HB1.out.trans (below_lower HB1.out.size hab)).trans (below_lower (Nat.le_trans HB1.out.size hab.size) hb2))
  clear hab hb2 KB HB1
  have HB4 := Lib.hid (HB2.out.trans (below_lower HB2.out.size (alloc_below V2 zeroC)))
  go_wp2_with fail
  refine (KA.out _).mono ?_; rintro e V5 ⟨rfl, rfl⟩
  cases h1 : inB 16777215 a with
  | false =>
    go_wp2_with fail
    refine (awake_p _).mono ?_; rintro e w7 ⟨rfl, hb7⟩
    go_wp2
    go_ret
    exact ⟨rfl, HB4.out.trans (below_lower HB4.out.size hb7)⟩
  | true =>
    have h2 := HI.out h1
    have KC' := KC.out
    rw [h2] at KC'
    have KD := Lib.hid KC'
    clear KC' KC KA h2 h1
    go_wp2_with fail
    refine (KD.out _).mono ?_; rintro e V6 ⟨rfl, rfl⟩
    go_wp2_with fail
    refine (awake_p _).mono ?_; rintro e w7 ⟨rfl, hb7⟩
    go_wp2
    go_ret
    exact ⟨rfl, HB4.out.trans (below_lower HB4.out.size hb7)⟩
theorem orderProduct_walk (a : Int) (wa : (Lit.int .i64 a).wf = true) (b : Int) (wb : (Lit.int .i64 b).wf = true) (W : World) :
    Calls Try.prog 8 #[.int .i64 a, .int .i64 b] W fun e W' => e = .returned (.bool true) ∧ Below W.heap.size W W' := by
  by_cases h : IsW a ∧ IsW b
  · exact product_good a b h.1 h.2 W
  · exact product_bad a b h W
end Go.Proofs.Ytmkcijecncdhpaa
