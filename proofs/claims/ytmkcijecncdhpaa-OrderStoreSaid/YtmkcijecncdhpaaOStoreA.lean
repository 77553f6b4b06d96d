/-
  OrderStore: the walk and the frame: for every argument the law answers true. No condition.
-/
import Derived.Test.YtmkcijecncdhpaaSt8
import Derived.Test.YtmkcijecncdhpaaOAwake
import Derived.Lib.QuietBelow
import Derived.Test.YtmkcijecncdhpaaOFrame
import Derived.Test.YtmkcijecncdhpaaOFrame2
namespace Go.Proofs.Ytmkcijecncdhpaa
open Go.RowKit Go.Sort
set_option linter.unusedVariables false
set_option linter.unusedSimpArgs false

theorem awake_s (w : World) : Calls Try.prog 22 #[] w (fun e w' => e = .returned (.bool true) ∧ Below w.heap.size w w') := Ev.awake w
/-- What one order changes. -/
structure OneF (s t : MS) (nl : Nat) : Prop where
  n0 : s.store.length = 128
  m0 : t.store.length = 128
  n1 : s.tape.length ≤ 200
  n3 : t.printed.length ≤ 200
  tape : t.tape = s.tape
  pre : t.printed.take s.printed.length = s.printed
  le : s.printed.length ≤ t.printed.length
  nl1 : nl = 0 ∨ nl = 1
  rd : t.taken - s.taken = if nl = 1 ∧ s.op = 6 then 1 else 0
  pr : (t.printed.length : Int) - s.printed.length = if nl = 1 ∧ s.op = 7 then 1 else 0
  tk : 0 ≤ s.taken ∧ s.taken ≤ 200 ∧ 0 ≤ t.taken ∧ t.taken ≤ 201
  word : ∀ (k : Nat) (h1 : k < s.store.length) (h2 : k < t.store.length), s.store[k] = t.store[k] ∨ (nl = 1 ∧ s.to = k ∧ s.op ≠ 5 ∧ s.op ≠ 7)
theorem one_ended {s : MS} (h : s.Ok) : OneF s s.ended 0 := by
  have := h.taken
  have := h.n1
  exact ⟨h.n0, h.n0, h.n1, h.n3, rfl, List.take_length, Nat.le_refl _, .inl rfl, by simp [MS.ended], by simp [MS.ended], by show _ ∧ _ ∧ 0 ≤ s.taken ∧ s.taken ≤ 201; omega, fun k _ _ => .inl rfl⟩
theorem one_go {s : MS} (h : s.Ok) (he : s.ends = 0) : OneF s s.go 1 := by
  have hg := h.go he
  have := h.taken
  have := h.n1
  obtain ⟨t, ht⟩ := Int.eq_ofNat_of_zero_le h.order.to_.1
  refine ⟨h.n0, hg.n0, h.n1, hg.n3, rfl, ?_, ?_, .inr rfl, ?_, ?_, ?_, fun k h1 h2 => ?_⟩
  · show (if s.op = 7 then s.printed ++ [s.operand] else s.printed).take _ = _
    split
    · exact List.take_left
    · exact List.take_length
  · show _ ≤ (if s.op = 7 then s.printed ++ [s.operand] else s.printed).length
    split <;> simp
  · show (if s.op = 6 then s.taken + 1 else s.taken) - s.taken = _
    by_cases h6 : s.op = 6
    · simp [h6]; omega
    · simp [h6]
  · show (((if s.op = 7 then s.printed ++ [s.operand] else s.printed).length : Nat) : Int) - _ = _
    by_cases h7 : s.op = 7
    · simp [h7]; omega
    · simp [h7]
  · show _ ∧ _ ∧ 0 ≤ (if s.op = 6 then s.taken + 1 else s.taken) ∧ (if s.op = 6 then s.taken + 1 else s.taken) ≤ 201
    split <;> omega
  · have e : s.go.store = setI s.store s.to s.result := rfl
    by_cases hk : k = t
    · subst hk
      by_cases hop : s.op = 5 ∨ s.op = 7
      · left
        have hr : s.result = s.other := by
          unfold MS.result
          rcases hop with hop | hop <;> simp [hop]
        have h3 : s.go.store = s.store := by
          rw [e, hr, ht]
          unfold MS.other
          rw [ht]
          exact setI_self _ _ h1
        simp only [h3]
      · exact .inr ⟨rfl, ht, fun e => hop (.inl e), fun e => hop (.inr e)⟩
    · left
      have h4 : s.go.store[k]? = s.store[k]? := by
        rw [e, ht]
        unfold setI
        rw [Int.toNat_natCast]
        exact List.getElem?_set_ne (fun e => hk e.symm)
      rw [List.getElem?_eq_getElem h2, List.getElem?_eq_getElem h1] at h4
      exact (Option.some.inj h4).symm
/-- Trace's list of one order at most. -/
def OneL (W : World) (s : MS) (nl : Nat) (e : Ending) (W' : World) : Prop :=
  ∃ AL cL, e = .returned (.tuple #[.slice AL nl cL, .int .i64 0]) ∧ (nl = 1 → ∃ g, AL = some ⟨g, 0, none⟩ ∧ g < W'.heap.size ∧ W'.cell? ⟨g, 1, none⟩ = some (.int .i64 s.op) ∧ W'.cell? ⟨g, 3, none⟩ = some (.int .i64 s.to)) ∧ Below W.heap.size W W'
theorem TraceOut.one {W W' : World} {s : MS} {e : Ending} (h : TraceOut W 1 s e W') : OneL W s (if s.ends = 0 then 1 else 0) e W' := by
  obtain ⟨v, xs, rfl, ⟨k, hk, rfl, hgo, hst⟩, ho, hb⟩ := h
  have hkk : k = if s.ends = 0 then 1 else 0 := by
    split
    · rename_i he
      rcases Nat.lt_or_ge k 1 with h | h
      · obtain rfl : k = 0 := by omega
        exact absurd he (hst (by omega))
      · omega
    · rename_i he
      rcases Nat.lt_or_ge k 1 with h | h
      · omega
      · exact absurd (hgo 0 (by omega)) he
  rw [MS.taken_length] at ho
  rw [← hkk]
  clear hkk hgo hst
  rcases ho.2 with ⟨rfl, h0⟩ | ⟨g, cap, cur, rfl, hbg, hg, _⟩
  · exact ⟨none, 0, by rw [h0], fun h1 => by omega, hb⟩
  · refine ⟨some ⟨g, 0, none⟩, cap, rfl, fun h1 => ?_, hb⟩
    subst h1
    exact ⟨g, rfl, (Array.getElem?_eq_some_iff.1 hg).1, ho.cellAt 1 (by decide), ho.cellAt 3 (by decide)⟩
theorem ints_take {U : World} {B : Nat} {A : Option Addr} {l p : List Int} (h : IntsAt U B A l) {n : Nat} (hp : l.take n = p) : IntsAt U B A p := fun h0 => by
  subst hp
  have hl : 0 < l.length := by
    rw [List.length_take] at h0
    omega
  obtain ⟨ad, e, hlt, hc⟩ := h hl
  refine ⟨ad, e, hlt, fun j hj => ?_⟩
  have hj2 : j < l.length := by
    rw [List.length_take] at hj
    omega
  rw [List.getElem_take]
  exact hc j hj2
theorem oneL_keep {s : MS} {AL : Option Addr} {U V : World} (h : ∃ g, AL = some ⟨g, 0, none⟩ ∧ g < U.heap.size ∧ U.cell? ⟨g, 1, none⟩ = some (.int .i64 s.op) ∧ U.cell? ⟨g, 3, none⟩ = some (.int .i64 s.to)) (hb : Below U.heap.size U V) :
    ∃ g, AL = some ⟨g, 0, none⟩ ∧ g < V.heap.size ∧ V.cell? ⟨g, 1, none⟩ = some (.int .i64 s.op) ∧ V.cell? ⟨g, 3, none⟩ = some (.int .i64 s.to) := by
  obtain ⟨g, e, hl, h1, h3⟩ := h
  exact ⟨g, e, Nat.lt_of_lt_of_le hl hb.size, (hb.cell (p := ⟨g, 1, none⟩) hl).trans h1, (hb.cell (p := ⟨g, 3, none⟩) hl).trans h3⟩
set_option maxRecDepth 100000 in
set_option maxHeartbeats 8000000 in
theorem store_of (s t : MS) (nl : Nat) (hF : OneF s t nl) (A0 A1 A3 : Option Addr) (n0 n1 n3 : Nat) (W : World) (i0 : IntsAt W W.heap.size A0 s.store) (i1 : IntsAt W W.heap.size A1 s.tape) (i3 : IntsAt W W.heap.size A3 s.printed)
    (KR : Hid (∀ w, IntsAt w w.heap.size A0 s.store → IntsAt w w.heap.size A1 s.tape → IntsAt w w.heap.size A3 s.printed → Calls Try.prog 19 #[stV A0 A1 A3 n0 n1 n3 s.store s.tape s.printed s.taken s.time s.at_ s.done s.why, .int .i64 1] w (StateOutC w t 0)))
    (KT : Hid (∀ w, IntsAt w w.heap.size A0 s.store → IntsAt w w.heap.size A1 s.tape → IntsAt w w.heap.size A3 s.printed → Calls Try.prog 37 #[stV A0 A1 A3 n0 n1 n3 s.store s.tape s.printed s.taken s.time s.at_ s.done s.why, .int .i64 1] w (OneL w s nl))) :
    Calls Try.prog 13 #[stV A0 A1 A3 n0 n1 n3 s.store s.tape s.printed s.taken s.time s.at_ s.done s.why] W fun e W' => e = .returned (.bool true) ∧ Below W.heap.size W W' := by
  have H := Lib.hid (And.intro i0 (And.intro i1 i3))
  have HF := Lib.hid hF
  clear i0 i1 i3 hF
  have S0 := StAt.new W (.slice A0 s.store.length n0) (.slice A1 s.tape.length n1) (.slice A3 s.printed.length n3) s.taken s.time s.at_ s.done s.why 24
  have hb0 := alloc_below W (.cells #[.slice A0 s.store.length n0, .slice A1 s.tape.length n1, .int .i64 s.taken, .slice A3 s.printed.length n3, .int .i64 s.time, .int .i64 s.at_, .int .i64 s.done, .int .i64 s.why] 24)
  have hs0 : W.heap.size < (W.alloc (.cells #[.slice A0 s.store.length n0, .slice A1 s.tape.length n1, .int .i64 s.taken, .slice A3 s.printed.length n3, .int .i64 s.time, .int .i64 s.at_, .int .i64 s.done, .int .i64 s.why] 24)).heap.size := by simp
  go_enter Try.func13, Try.ntmps13
  go_wp2_with fail
  generalize W.alloc (.cells #[.slice A0 s.store.length n0, .slice A1 s.tape.length n1, .int .i64 s.taken, .slice A3 s.printed.length n3, .int .i64 s.time, .int .i64 s.at_, .int .i64 s.done, .int .i64 s.why] 24) = V0 at *
  refine (KR.out V0 (ints_at H.out.1 hb0) (ints_at H.out.2.1 hb0) (ints_at H.out.2.2 hb0)).mono ?_; rintro e V1 ⟨C0, C1, C3, g0, g1, g3, rfl, r0, r1, r3, hb1, hcap⟩
  have S1 := S0.below hb1 hs0
  have hb01 := hb0.trans (below_lower (Nat.le_of_lt hs0) hb1)
  have hs1 := Nat.lt_of_lt_of_le hs0 hb1.size
  have hab := alloc_below V1 (.cells #[.slice C0 t.store.length g0, .slice C1 t.tape.length g1, .int .i64 t.taken, .slice C3 t.printed.length g3, .int .i64 t.time, .int .i64 t.at_, .int .i64 t.done, .int .i64 t.why] 24)
  have T2 := StAt.new V1 (.slice C0 t.store.length g0) (.slice C1 t.tape.length g1) (.slice C3 t.printed.length g3) t.taken t.time t.at_ t.done t.why 24
  have S2 := S1.below hab hs1
  have hs2 : (V1.alloc (.cells #[.slice C0 t.store.length g0, .slice C1 t.tape.length g1, .int .i64 t.taken, .slice C3 t.printed.length g3, .int .i64 t.time, .int .i64 t.at_, .int .i64 t.done, .int .i64 t.why] 24)).heap.size = V1.heap.size + 1 := by simp
  have hb02 := hb01.trans (below_lower hb01.size hab)
  have HR2 := Lib.hid (And.intro (ints_at r0 hab) (And.intro (ints_at r1 hab) (ints_at r3 hab)))
  obtain ⟨q0, q1, q2, q3, q4, q5, q6, q7⟩ := S1
  clear S0 hb0 hb1 hs0 KR r0 r1 r3 hab
  go_wp2_with fail
  clear q0 q1 q2 q3 q4 q5 q6 q7
  generalize V1.alloc (.cells #[.slice C0 t.store.length g0, .slice C1 t.tape.length g1, .int .i64 t.taken, .slice C3 t.printed.length g3, .int .i64 t.time, .int .i64 t.at_, .int .i64 t.done, .int .i64 t.why] 24) = V2 at *
  generalize hkt : V1.heap.size = kt at *
  refine (KT.out V2 (ints_at H.out.1 hb02) (ints_at H.out.2.1 hb02) (ints_at H.out.2.2 hb02)).mono ?_; rintro e V3 ⟨AL, cL, rfl, hL, hb3⟩
  have S3 := S2.below hb3 (by omega)
  have T3 := T2.below hb3 (by omega)
  have hs3 := hb3.size
  have hlt1 : W.heap.size < V3.heap.size := by omega
  have hlt2 : kt < V3.heap.size := by omega
  have hb03 := hb02.trans (below_lower hb02.size hb3)
  have HI := Lib.hid (And.intro (ints_at H.out.1 hb03) (And.intro (ints_at H.out.2.1 hb03) (ints_at H.out.2.2 hb03)))
  have HR := Lib.hid (And.intro (ints_at HR2.out.1 hb3) (And.intro (ints_at HR2.out.2.1 hb3) (ints_at HR2.out.2.2 hb3)))
  have HL := Lib.hid hL
  have HB := Lib.hid hb03
  obtain ⟨x0, x1, x2, x3, x4, x5, x6, x7⟩ := S3
  obtain ⟨y0, y1, y2, y3, y4, y5, y6, y7⟩ := T3
  clear S2 T2 hb02 HR2 hb3 hb03 hL H hb01 hs2 hs3 hkt hs1 KT
  go_wp2_with fail
  have hmx : Try.prog.follows .mixedOrders = true := by kernel_rfl
  have k0 := cell_regrown x0
  have k1 := cell_regrown x1
  have k3 := cell_regrown x3
  have m0 := cell_regrown y0
  have m1 := cell_regrown y1
  have m3 := cell_regrown y3
  have e0 : ((t.store.length : Int) != (s.store.length : Int)) = false := by rw [HF.out.n0, HF.out.m0]; rfl
  have e1 : ¬ (1 : Int) < (nl : Int) := by have := HF.out.nl1; omega
  have e3 : ¬ (t.printed.length : Int) < (s.printed.length : Int) := by have := HF.out.le; omega
  have c1 : ∀ d os, Calls Try.prog 31 #[.slice C1 t.tape.length g1, .slice A1 s.tape.length n1] (grow (redrawn V3 d) os) fun e w'' => e = .returned (.bool true) ∧ ∃ p : Regrown, w'' = grow (redrawn V3 p.d) p.os := fun d os => Calls.regrown_of (by
    have hb := below_regrown V3 d os
    have h1 := ints_at HR.out.2.1 hb
    have h2 := ints_at HI.out.2.1 hb
    rw [HF.out.tape] at h1 ⊢
    exact ints_same C1 A1 g1 n1 s.tape (by have := HF.out.n1; unfold maxLen; omega) _ h1 h2)
  have c3 : ∀ d os, Calls Try.prog 31 #[.slice C3 s.printed.length g3, .slice A3 s.printed.length n3] (grow (redrawn V3 d) os) fun e w'' => e = .returned (.bool true) ∧ ∃ p : Regrown, w'' = grow (redrawn V3 p.d) p.os := fun d os => Calls.regrown_of (by
    have hb := below_regrown V3 d os
    have h1 := ints_at (ints_take HR.out.2.2 HF.out.pre) hb
    have h2 := ints_at HI.out.2.2 hb
    exact ints_same C3 A3 g3 n3 s.printed (by have := HF.out.n3; have := HF.out.le; unfold maxLen; omega) _ h1 h2)
  have hsl : ∀ w, (Instr.slice 22 (.slice C3 t.printed.length g3) none (some (.int .i64 (s.printed.length : Int))) none).run Try.prog w = .ok (.slice C3 s.printed.length g3) w := fun w => by
    have hle := HF.out.le
    have hz : (sizeOf (Try.prog.elem 22)).run Try.prog w = .ok 1 w := by kernel_rfl
    rw [run_slice_h (P := Try.prog) w 22 C3 t.printed.length g3 (by kernel_rfl) .i64 (s.printed.length : Int) (by omega) (by omega), hz]
    simp only [Result.andThen, sliced, Int.toNat_natCast, Nat.sub_zero]
    have ea : (C3.map fun x => x.add (0 * 1)) = C3 := by
      cases C3 with
      | none => rfl
      | some ad => simp [Addr.add]
    rw [ea, ite_self]
  refine wp_region_quiet_below rfl (by kernel_rfl) ?_
  repeat (quiet_step (first | with_reducible exact c1 _ _ | with_reducible exact c3 _ _))
  refine wpQuiet_nil ?_
  intro _ hw'
  obtain ⟨⟨dq, osq⟩, hw''⟩ := hw'
  subst hw''
  have hb4 := below_regrown V3 dq osq
  have S4 := (StAt.mk x0 x1 x2 x3 x4 x5 x6 x7).below hb4 hlt1
  have T4 := (StAt.mk y0 y1 y2 y3 y4 y5 y6 y7).below hb4 hlt2
  have hI4 := Lib.hid (And.intro (ints_at HI.out.1 hb4) (ints_at HR.out.1 hb4))
  have hL4 := Lib.hid (fun h => oneL_keep (HL.out h) hb4)
  have HB4 := Lib.hid (HB.out.trans (below_lower HB.out.size hb4))
  have hl1 := Nat.lt_of_lt_of_le hlt1 hb4.size
  have hl2 := Nat.lt_of_lt_of_le hlt2 hb4.size
  clear x0 x1 x2 x3 x4 x5 x6 x7 y0 y1 y2 y3 y4 y5 y6 y7 k0 k1 k3 m0 m1 m3 c1 c3 hsl HL HI HR HB hb4 hlt1 hlt2 e0 e1 e3
  generalize grow (redrawn V3 dq) osq = V4 at *
  obtain ⟨x0, x1, x2, x3, x4, x5, x6, x7⟩ := S4
  obtain ⟨y0, y1, y2, y3, y4, y5, y6, y7⟩ := T4
  have HN := Lib.hid (And.intro HF.out.n0 HF.out.m0)
  go_wp2
  have hrd := HF.out.rd
  have hpr := HF.out.pr
  have htk := HF.out.tk
  have hpl := HF.out.le
  have hp3 := HF.out.n3
  clear hmx hcap
  rcases HF.out.nl1 with hnl | hnl
  · subst hnl
    go_loopw [6] (fun i wr => ∃ k : Nat, k ≤ 128 ∧ i = .int .i64 k ∧ Below V4.heap.size V4 wr) (fun i _ => 128 - (intOf i).toNat)
    case atStart => exact ⟨0, by omega, rfl, Below.refl _ _⟩
    case round =>
      obtain ⟨k, hk, rfl, hb⟩ := hrel
      obtain ⟨w0, w1, w2, w3, w4, w5, w6, w7⟩ := (StAt.mk x0 x1 x2 x3 x4 x5 x6 x7).below hb hl1
      obtain ⟨v0, v1, v2, v3, v4, v5, v6, v7⟩ := (StAt.mk y0 y1 y2 y3 y4 y5 y6 y7).below hb hl2
      by_cases hlt : k < s.store.length
      · have hlt2 : k < t.store.length := by have := HN.out; omega
        have hk1 : k + 1 ≤ 128 := by have := HN.out; omega
        have HW := Lib.hid (HF.out.word k hlt hlt2)
        obtain ⟨ad, rfl, hlb, hc⟩ := (hI4.out.1.below hb).at_ hlt
        obtain ⟨bd, rfl, hlb2, hc2⟩ := (hI4.out.2.below hb).at_ hlt2
        rcases HW.out with hw | ⟨h1, h2, h3, h4⟩
        · have hq : (s.store[k] == t.store[k]) = true := by simp [hw]
          clear hw HW
          generalize s.store[k] = x at *
          generalize t.store[k] = y at *
          go_wp2_with fail
          go_quiet (fail)
          go_wp2
          go_roundw
          case rel => exact ⟨k + 1, hk1, by go_num, below_drewN hb⟩
          case measure => simp [intOf]; omega
        · exact absurd h1 (by decide)
      · have r1 : t.taken - s.taken = 0 := by simpa using hrd
        have r2 : (t.printed.length : Int) - s.printed.length = 0 := by simpa using hpr
        go_wp2_with fail
        refine (awake_s _).mono ?_; rintro e w9 ⟨rfl, hb9⟩
        go_wp2
        go_ret
        exact ⟨rfl, HB4.out.trans (below_lower HB4.out.size (hb.trans (below_lower hb.size hb9)))⟩
  · subst hnl
    go_loopw [6] (fun i wr => ∃ k : Nat, k ≤ 128 ∧ i = .int .i64 k ∧ Below V4.heap.size V4 wr) (fun i _ => 128 - (intOf i).toNat)
    case atStart => exact ⟨0, by omega, rfl, Below.refl _ _⟩
    case round =>
      obtain ⟨k, hk, rfl, hb⟩ := hrel
      obtain ⟨w0, w1, w2, w3, w4, w5, w6, w7⟩ := (StAt.mk x0 x1 x2 x3 x4 x5 x6 x7).below hb hl1
      obtain ⟨v0, v1, v2, v3, v4, v5, v6, v7⟩ := (StAt.mk y0 y1 y2 y3 y4 y5 y6 y7).below hb hl2
      by_cases hlt : k < s.store.length
      · have hlt2 : k < t.store.length := by have := HN.out; omega
        have hk1 : k + 1 ≤ 128 := by have := HN.out; omega
        have HW := Lib.hid (HF.out.word k hlt hlt2)
        obtain ⟨ad, rfl, hlb, hc⟩ := (hI4.out.1.below hb).at_ hlt
        obtain ⟨bd, rfl, hlb2, hc2⟩ := (hI4.out.2.below hb).at_ hlt2
        rcases HW.out with hw | ⟨h1, h2, h3, h4⟩
        · have hq : (s.store[k] == t.store[k]) = true := by simp [hw]
          clear hw HW
          generalize s.store[k] = x at *
          generalize t.store[k] = y at *
          go_wp2_with fail
          go_quiet (fail)
          go_wp2
          refine ⟨?_, by simp [intOf]; omega⟩
          (repeat apply Exists.intro)
          exact ⟨⟨k + 1, hk1, by go_num, below_drewN hb⟩, rfl⟩
        · by_cases hw : s.store[k] = t.store[k]
          · have hq : (s.store[k] == t.store[k]) = true := by simp [hw]
            clear hw HW
            generalize s.store[k] = x at *
            generalize t.store[k] = y at *
            go_wp2_with fail
            go_quiet (fail)
            go_wp2
            refine ⟨?_, by simp [intOf]; omega⟩
            (repeat apply Exists.intro)
            exact ⟨⟨k + 1, hk1, by go_num, below_drewN hb⟩, rfl⟩
          · have hq : (s.store[k] == t.store[k]) = false := by simpa using hw
            obtain ⟨g, rfl, hgl, z1, z3⟩ := oneL_keep (hL4.out rfl) hb
            rw [h2] at z3
            have p5 : (s.op == 5) = false := by simpa using h3
            have p7 : (s.op == 7) = false := by simpa using h4
            clear hw HW
            generalize s.store[k] = x at *
            generalize t.store[k] = y at *
            go_wp2_with fail
            go_quiet (fail)
            go_wp2
            refine ⟨?_, by simp [intOf]; omega⟩
            (repeat apply Exists.intro)
            exact ⟨⟨k + 1, hk1, by go_num, below_drewN hb⟩, rfl⟩
      · obtain ⟨g, rfl, hgl, z1, z3⟩ := oneL_keep (hL4.out rfl) hb
        by_cases h6 : s.op = 6
        · have r1 : t.taken - s.taken = 1 := by simpa [h6] using hrd
          have r2 : (t.printed.length : Int) - s.printed.length = 0 := by simpa [h6] using hpr
          have p6 : (s.op == 6) = true := by simpa using h6
          have p7 : (s.op == 7) = false := by simp [h6]
          go_wp2_with fail
          refine (awake_s _).mono ?_; rintro e w9 ⟨rfl, hb9⟩
          go_wp2
          go_ret
          exact ⟨rfl, HB4.out.trans (below_lower HB4.out.size (hb.trans (below_lower hb.size hb9)))⟩
        · have r1 : t.taken - s.taken = 0 := by simpa [h6] using hrd
          have p6 : (s.op == 6) = false := by simpa using h6
          by_cases h7 : s.op = 7
          · have r2 : (t.printed.length : Int) - s.printed.length = 1 := by simpa [h7] using hpr
            have p7 : (s.op == 7) = true := by simpa using h7
            go_wp2_with fail
            refine (awake_s _).mono ?_; rintro e w9 ⟨rfl, hb9⟩
            go_wp2
            go_ret
            exact ⟨rfl, HB4.out.trans (below_lower HB4.out.size (hb.trans (below_lower hb.size hb9)))⟩
          · have r2 : (t.printed.length : Int) - s.printed.length = 0 := by simpa [h7] using hpr
            have p7 : (s.op == 7) = false := by simpa using h7
            go_wp2_with fail
            refine (awake_s _).mono ?_; rintro e w9 ⟨rfl, hb9⟩
            go_wp2
            go_ret
            exact ⟨rfl, HB4.out.trans (below_lower HB4.out.size (hb.trans (below_lower hb.size hb9)))⟩
end Go.Proofs.Ytmkcijecncdhpaa
namespace Go.Proofs.Ytmkcijecncdhpaa
open Go.RowKit Go.Sort
set_option linter.unusedVariables false
set_option linter.unusedSimpArgs false
set_option maxRecDepth 100000 in
set_option maxHeartbeats 4000000 in
theorem store_bad (s : MS) (A0 A1 A3 : Option Addr) (n0 n1 n3 : Nat) (k : Int) (hk : k ≠ 0) (W : World) (i0 : IntsAt W W.heap.size A0 s.store) (i1 : IntsAt W W.heap.size A1 s.tape) (i3 : IntsAt W W.heap.size A3 s.printed)
    (K : Hid (∀ w, IntsAt w w.heap.size A0 s.store → IntsAt w w.heap.size A1 s.tape → IntsAt w w.heap.size A3 s.printed → Calls Try.prog 19 #[stV A0 A1 A3 n0 n1 n3 s.store s.tape s.printed s.taken s.time s.at_ s.done s.why, .int .i64 1] w (StateOut w MS.zero k))) :
    Calls Try.prog 13 #[stV A0 A1 A3 n0 n1 n3 s.store s.tape s.printed s.taken s.time s.at_ s.done s.why] W fun e W' => e = .returned (.bool true) ∧ Below W.heap.size W W' := by
  have H := Lib.hid (And.intro i0 (And.intro i1 i3))
  clear i0 i1 i3
  have q : (k != 0) = true := by simpa using hk
  have hb0 := alloc_below W (.cells #[.slice A0 s.store.length n0, .slice A1 s.tape.length n1, .int .i64 s.taken, .slice A3 s.printed.length n3, .int .i64 s.time, .int .i64 s.at_, .int .i64 s.done, .int .i64 s.why] 24)
  go_enter Try.func13, Try.ntmps13
  go_wp2_with fail
  generalize W.alloc (.cells #[.slice A0 s.store.length n0, .slice A1 s.tape.length n1, .int .i64 s.taken, .slice A3 s.printed.length n3, .int .i64 s.time, .int .i64 s.at_, .int .i64 s.done, .int .i64 s.why] 24) = V0 at *
  refine (K.out V0 (ints_at H.out.1 hb0) (ints_at H.out.2.1 hb0) (ints_at H.out.2.2 hb0)).mono ?_; rintro e V1 ⟨B0, B1, B3, d0, d1, d3, rfl, j0, j1, j3, hb1⟩
  have HB := Lib.hid (hb0.trans (below_lower hb0.size hb1))
  clear hb0 hb1 j0 j1 j3
  simp only [MS.zero, List.length_nil]
  go_wp2_with fail
  refine (awake_s _).mono ?_; rintro e w7 ⟨rfl, hb7⟩
  go_wp2
  go_ret
  exact ⟨rfl, HB.out.trans (below_lower HB.out.size ((alloc_below V1 _).trans (below_lower (by simp) hb7)))⟩
theorem orderStore_walk (w : World) (A0 A1 A3 : Option Addr) (n0 n1 n3 : Nat) (z0 z1 z3 : List Int) (a2 a4 a5 a6 a7 : Int)
    (s0 : z0.length ≤ maxLen ∧ IntsAt w w.heap.size A0 z0 ∧ ∀ n ∈ z0, (Lit.int .i64 n).wf = true) (s1 : z1.length ≤ maxLen ∧ IntsAt w w.heap.size A1 z1 ∧ ∀ n ∈ z1, (Lit.int .i64 n).wf = true) (s3 : z3.length ≤ maxLen ∧ IntsAt w w.heap.size A3 z3 ∧ ∀ n ∈ z3, (Lit.int .i64 n).wf = true)
    (w2 : (Lit.int .i64 a2).wf = true) (w4 : (Lit.int .i64 a4).wf = true) (w5 : (Lit.int .i64 a5).wf = true) (w6 : (Lit.int .i64 a6).wf = true) (w7 : (Lit.int .i64 a7).wf = true) :
    Calls Try.prog 13 #[stV A0 A1 A3 n0 n1 n3 z0 z1 z3 a2 a4 a5 a6 a7] w fun e w' => e = .returned (.bool true) ∧ Below w.heap.size w w' := by
  obtain ⟨s, hs⟩ : ∃ s : MS, s = ⟨z0, z1, z3, a2, a4, a5, a6, a7⟩ := ⟨_, rfl⟩
  have l0 : s.store.length ≤ maxLen := by rw [hs]; exact s0.1
  have l1 : s.tape.length ≤ maxLen := by rw [hs]; exact s1.1
  have l3 : s.printed.length ≤ maxLen := by rw [hs]; exact s3.1
  show Calls Try.prog _ #[stV A0 A1 A3 n0 n1 n3 (⟨z0, z1, z3, a2, a4, a5, a6, a7⟩ : MS).store (⟨z0, z1, z3, a2, a4, a5, a6, a7⟩ : MS).tape (⟨z0, z1, z3, a2, a4, a5, a6, a7⟩ : MS).printed (⟨z0, z1, z3, a2, a4, a5, a6, a7⟩ : MS).taken (⟨z0, z1, z3, a2, a4, a5, a6, a7⟩ : MS).time (⟨z0, z1, z3, a2, a4, a5, a6, a7⟩ : MS).at_ (⟨z0, z1, z3, a2, a4, a5, a6, a7⟩ : MS).done (⟨z0, z1, z3, a2, a4, a5, a6, a7⟩ : MS).why] _ _
  have i0 : IntsAt w w.heap.size A0 s.store := by rw [hs]; exact s0.2.1
  have i1 : IntsAt w w.heap.size A1 s.tape := by rw [hs]; exact s1.2.1
  have i3 : IntsAt w w.heap.size A3 s.printed := by rw [hs]; exact s3.2.1
  rw [← hs]
  clear hs s0 s1 s3
  by_cases he : s.err 1 = 0
  · obtain ⟨ho, _, _⟩ := MS.err_zero he
    have KE := fun w j0 j1 j3 => errorOfRun_any s 1 A0 A1 A3 n0 n1 n3 l0 l1 l3 w j0 j1 j3
    rw [he] at KE
    have KR := fun w j0 j1 j3 => run_okC s ho 1 (by omega) A0 A1 A3 n0 n1 n3 w j0 j1 j3 (Lib.hid KE)
    have KT := fun w j0 j1 j3 => (trace_ok s ho 1 (by omega) A0 A1 A3 n0 n1 n3 w j0 j1 j3 (Lib.hid KE)).mono fun e W' h => h.one
    have hr : MS.run 1 s = if s.ends = 0 then s.go else s.ended := rfl
    rw [hr] at KR
    by_cases hz : s.ends = 0
    · rw [if_pos hz] at KR KT
      exact store_of s s.go 1 (one_go ho hz) A0 A1 A3 n0 n1 n3 w i0 i1 i3 (Lib.hid KR) (Lib.hid KT)
    · rw [if_neg hz] at KR KT
      exact store_of s s.ended 0 (one_ended ho) A0 A1 A3 n0 n1 n3 w i0 i1 i3 (Lib.hid KR) (Lib.hid KT)
  · have K := fun w j0 j1 j3 => run_any s 1 A0 A1 A3 n0 n1 n3 l0 l1 l3 w j0 j1 j3
    rw [MS.out_bad he] at K
    exact store_bad s A0 A1 A3 n0 n1 n3 _ he w i0 i1 i3 (Lib.hid K)
end Go.Proofs.Ytmkcijecncdhpaa
namespace Go.Proofs.Ytmkcijecncdhpaa
open Go.ChangeShapes Go.WideShapes Go.ChangeAt Go.RowKit
set_option linter.unusedVariables false
set_option linter.unusedSimpArgs false
set_option maxRecDepth 100000 in
theorem orderStore_lifted (os : Os) (started : os.Started) (H : Type) (enc : TypeId × Value → H) :
    ReturnsInHanded {} Try.checked os 13 .any (Rows.orderStoreSpec.pre6 enc Try.prog Try.f13 Rows.orderStoreRow.domain false) (Rows.orderStoreSpec.post enc Try.prog Try.f13 false true false false) := by
  refine returnsInHanded_of_change (C := Try.checked) seat_own started (by kernel_rfl) Try.func13
    (ChangeSpec.witness6 (enc := enc) (C := Try.checked) false ⟨#[], #[.agg #[.slice none 0 0, .slice none 0 0, .int .i64 0, .slice none 0 0, .int .i64 0, .int .i64 0, .int .i64 0, .int .i64 0]], []⟩ 8 (by kernel_rfl) (by kernel_rfl) (by kernel_rfl) (by kernel_rfl)) ?_
  intro W base args ds gs before hval0 hW hcnd _
  have hval : ∀ (j : Nat) t v, Try.f13.params[j]? = some t → args[j]? = some v → Value.okWide Try.prog W .any base t v := hval0
  have hW' := hW
  obtain ⟨p, q, hA0, hV, rfl, hfz, hnd⟩ := hW
  have hA : DataW.TrodAll enc Try.prog W 0 (fun _ => true) true Try.f13.params.toList args.toList ds p := hA0
  rw [Try.params13] at hA hval
  obtain ⟨v0, vs0, d0, ds0, p0, q0, hargs, rfl, rfl, h0, r0⟩ := trodAll_cons hA
  obtain ⟨rfl, rfl, rfl⟩ := trodAll_nil r0
  obtain rfl : args = #[v0] := by cases args; simp_all
  obtain ⟨rfl, rfl⟩ := trodVars_none hV
  have k0 := h0
  have lt0 : ∀ x ∈ p0, x.block < W.heap.size := by obtain ⟨m, hm⟩ := k0; exact DataW.trod_lt m _ _ _ hm
  obtain ⟨A0, A1, A3, n0, n1, n3, z0, z1, z3, a2, a4, a5, a6, a7, rfl, s0, s1, s3, w2, w4, w5, w6, w7⟩ := state_open (hval 0 24 v0 rfl rfl) h0
  clear hA0 hval0
  refine (orderStore_walk W A0 A1 A3 n0 n1 n3 z0 z1 z3 a2 a4 a5 a6 a7 s0 s1 s3 w2 w4 w5 w6 w7).mono fun e W' ⟨he, bel⟩ => ?_
  subst he
  exact ⟨_, rfl, _, _, _, [], _, [], hW', trodAll_mk1 (shut_bool Try.underlying4 _), (trodAll_cons_mk (Below.trod seat_laidOut (by kernel_rfl) (of_decide_eq_true (by kernel_rfl)) k0 bel lt0) trodAll_mk0), rfl, bel.frame _, fun h => by cases h⟩

theorem orderStore_fn : Try.pinned.checked.prog.funcNamed Rows.orderStoreRow.func = some 13 := by kernel_rfl
theorem orderStore_closed : joinedFacts Try.pinned.checked.prog 13 Try.f13 Rows.orderStoreSpec Rows.orderStoreRow = true := by
  show joinedFacts Try.prog 13 Try.f13 Rows.orderStoreSpec Rows.orderStoreRow = true
  unfold joinedFacts
  rw [prog_mayEnter, prog_lifts, prog_make]
  kernel_rfl
theorem orderStore_inst : Try.f13.isInstance Try.pinned.checked.prog Rows.orderStoreRow.origin Rows.orderStoreRow.targs := of_decide_eq_true (by kernel_rfl)
theorem orderStore_wrap : Try.f13.isWrapper Try.pinned.checked.prog Rows.orderStoreRow.wrapper Rows.orderStoreRow.mainSum := by unfold Func.isWrapper; first | (rw [if_pos (by decide +kernel)]; kernel_rfl) | (rw [if_neg (by decide +kernel)]; exact ⟨rfl, rfl⟩)

theorem orderStore_over : Rows.orderStoreRow.holds Try.pinned (OpenSpec.ofChange Rows.orderStoreSpec) :=
  OpenClaim.holds_of_wide 13 Try.f13 rfl rfl rfl rfl rfl rfl rfl ⟨rfl, rfl, rfl, rfl, rfl⟩ rfl rfl rfl rfl rfl orderStore_fn Try.func13 orderStore_closed
    orderStore_inst orderStore_wrap
    (fun os started H enc _ => orderStore_lifted os started H enc)

/-- The statement. -/
theorem orderStore_holds : Rows.OrderStoreSaid := orderStore_over
end Go.Proofs.Ytmkcijecncdhpaa
