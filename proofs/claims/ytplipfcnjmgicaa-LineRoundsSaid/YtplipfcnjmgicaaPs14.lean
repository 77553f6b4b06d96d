/-
  The reference's Pass, where it answers. No statement is proved here.
-/
import Derived.Test.YtplipfcnjmgicaaPs13
import Derived.Lib.QuietBelow
namespace Go.Proofs.Ytplipfcnjmgicaa
open Go.RowKit Go.Shelf Go.Sort
set_option linter.unusedVariables false
set_option linter.unusedSimpArgs false

/-- Pulses after rounds, and in which of them they were lost first, round by round. -/
def curOf (xs : List (Int × Bool)) (bs : List Bool) : List Bool := match xs.findIdx? (·.2) with
  | none => rotAll xs bs
  | some _ => List.replicate bs.length false
def atOf (xs : List (Int × Bool)) : Int := match xs.findIdx? (·.2) with
  | none => -1
  | some i => i
theorem findIdx_snoc (xs : List (Int × Bool)) (x : Int × Bool) : (xs ++ [x]).findIdx? (·.2) = match xs.findIdx? (·.2) with
    | none => if x.2 then some xs.length else none
    | some i => some i := by
  rw [List.findIdx?_append]
  cases h : xs.findIdx? (·.2) with
  | none => cases hx : x.2 <;> simp [List.findIdx?_cons, hx]
  | some i => rfl
theorem rot_replicate {α : Type} (s n : Nat) (x : α) : rot s (List.replicate n x) = List.replicate n x := by
  unfold rot
  simp only [List.length_replicate, List.drop_replicate, List.take_replicate, List.replicate_append_replicate]
  congr 1; omega
theorem curOf_length (xs : List (Int × Bool)) (bs : List Bool) : (curOf xs bs).length = bs.length := by
  unfold curOf
  split
  · exact rotAll_length bs xs
  · simp
theorem curOf_snoc (xs : List (Int × Bool)) (x : Int × Bool) (bs : List Bool) : curOf (xs ++ [x]) bs = if x.2 then List.replicate bs.length false else rot (x.1 % (bs.length : Int)).toNat (curOf xs bs) := by
  unfold curOf
  rw [findIdx_snoc]
  cases h : xs.findIdx? (·.2) with
  | none =>
    cases hx : x.2 with
    | true => rfl
    | false =>
      have := rotAll_snoc xs x bs
      rw [rotAll_length] at this
      simpa using this
  | some i =>
    cases hx : x.2 with
    | true => rfl
    | false => simp [rot_replicate]
theorem atOf_snoc (xs : List (Int × Bool)) (x : Int × Bool) : atOf (xs ++ [x]) = if x.2 then (if atOf xs < 0 then (xs.length : Int) else atOf xs) else atOf xs := by
  unfold atOf
  rw [findIdx_snoc]
  cases h : xs.findIdx? (·.2) with
  | none => cases hx : x.2 <;> simp
  | some i => cases hx : x.2 <;> simp <;> omega
theorem atOf_ge (xs : List (Int × Bool)) : -1 ≤ atOf xs := by
  unfold atOf
  split <;> omega
theorem wordsOf_false (b W n : Nat) : wordsOf b W (List.replicate n false) = List.replicate W 0 := by
  unfold wordsOf
  apply List.ext_getElem?
  intro i
  simp only [List.getElem?_map, List.getElem?_replicate]
  by_cases h : i < W
  · rw [List.getElem?_range h, if_pos h, Option.map_some]
    rw [valOf_zero _ (fun x hx => by
      have h1 := List.mem_of_mem_take hx
      have h2 := List.mem_of_mem_drop h1
      exact (List.mem_replicate.1 h2).2)]
    rfl
  · rw [List.getElem?_eq_none (by simpa using h), if_neg h]; rfl
theorem passOf_eq (b W : Nat) (xs : List (Int × Bool)) (bs : List Bool) : passOf b W xs bs = (wordsOf b W (curOf xs bs), atOf xs) := by
  unfold passOf curOf atOf
  cases h : xs.findIdx? (·.2) with
  | none => rfl
  | some i => simp only [wordsOf_false]

/-- What the reference's Pass keeps between two rounds. -/
structure RpW (w : World) (a1 a2 a3 a4 a5 : Int) (W : Nat) (At : Option Addr) (ts : List Int) (A : Option Addr) (bs : List Bool) (U : World) : Prop where
  line : LineAt U w.heap.size W a1 a2 a3 a4 a5
  temps : IntsAt U w.heap.size At ts
  pulses : IntsAt U U.heap.size A (bi bs)
  below : Below w.heap.size w U
  size : w.heap.size < U.heap.size

theorem RpW.after {w U V : World} {a1 a2 a3 a4 a5 : Int} {W : Nat} {At A A' : Option Addr} {ts : List Int} {bs bs' : List Bool} (h : RpW w a1 a2 a3 a4 a5 W At ts A bs U) (hb : Below U.heap.size U V) (hp : IntsAt V V.heap.size A' (bi bs')) : RpW w a1 a2 a3 a4 a5 W At ts A' bs' V :=
  ⟨h.line.below hb h.size, h.temps.below (below_down h.below.size hb), hp, h.below.trans (below_down h.below.size hb), Nat.lt_of_lt_of_le h.size hb.size⟩
theorem RpW.same {w U V : World} {a1 a2 a3 a4 a5 : Int} {W : Nat} {At A : Option Addr} {ts : List Int} {bs : List Bool} (h : RpW w a1 a2 a3 a4 a5 W At ts A bs U) (hb : Below U.heap.size U V) : RpW w a1 a2 a3 a4 a5 W At ts A bs V :=
  h.after hb ((h.pulses.below hb).more hb.size)

set_option maxRecDepth 100000 in
set_option maxHeartbeats 4000000 in
theorem rpass_ok (f : Int → Int × Bool) (b : Nat) (a2 a3 a4 a5 : Int) (Aw At : Option Addr) (zs ts : List Int) (h : OkLine zs.length b a2 a3 a4 a5) (cw ct : Nat) (hnt : ts.length ≤ 60) (w : World)
    (HS : Hid (∀ T ∈ ts, ∀ w, Calls Try.prog 58 #[.agg #[.int .i64 zs.length, .int .i64 b, .int .i64 a2, .int .i64 a3, .int .i64 a4, .int .i64 a5], .int .i64 T] w fun e w' => e = .returned (.tuple #[.int .i64 (f T).1, .bool (!(f T).2)]) ∧ Below w.heap.size w w'))
    (HF : Hid (∀ T ∈ ts, -1099511627776 ≤ (f T).1 ∧ (f T).1 ≤ 1099511627776))
    (hR : IntsAt w w.heap.size Aw zs) (hT : IntsAt w w.heap.size At ts) (hx : wordsErr zs.length b zs = 0) (hts : ts.all tempB = true) (hwd : Hid (∀ z ∈ zs, 0 ≤ z ∧ z < 9223372036854775808)) :
    Calls Try.prog 30 #[.agg #[.int .i64 zs.length, .int .i64 b, .int .i64 a2, .int .i64 a3, .int .i64 a4, .int .i64 a5], .slice Aw zs.length cw, .slice At ts.length ct] w (PassOk (passOf b zs.length (ts.map f) (pulsesOf b zs)).1 (passOf b zs.length (ts.map f) (pulsesOf b zs)).2 w) := by
  have hb0 := h.h1
  have hW0 := h.h0
  have KE := words_any zs.length b a2 a3 a4 a5 h Aw cw zs (by unfold maxLen; omega)
  rw [hx] at KE
  have KH := Lib.hid KE
  have HT := Lib.hid hts
  clear KE hx hts
  go_enter Try.func30, Try.ntmps30
  go_wp2_with fail
  refine (rcheck_ok zs.length b a2 a3 a4 a5 h _).mono ?_; rintro e U ⟨rfl, hU⟩
  have hB0 : Below w.heap.size w U := by rw [hU]; go_grown
  have hL : LineAt U w.heap.size zs.length b a2 a3 a4 a5 := by rw [hU]; constructor <;> simp [go_sem]
  have hsU : w.heap.size < U.heap.size := by rw [hU]; simp; omega
  clear hU
  obtain ⟨l0, l1, l2, l3, l4, l5⟩ := hL
  go_wp2_with fail
  refine (KH.out _ ((hR.below hB0).more hB0.size)).mono ?_; rintro e V ⟨rfl, hV⟩
  have hB := hB0.trans (below_down hB0.size hV)
  have hLV : LineAt V w.heap.size zs.length b a2 a3 a4 a5 := (LineAt.mk l0 l1 l2 l3 l4 l5).below hV hsU
  have hsV : w.heap.size < V.heap.size := Nat.lt_of_lt_of_le hsU hV.size
  clear l0 l1 l2 l3 l4 l5 hV hB0 hsU
  have hd : decide ((60 : Int) < (ts.length : Int)) = false := by simp; omega
  go_wp2
  clear hd
  have hT4 := hT.below hB
  go_loop [9, 10] (fun E i => E = .int .i64 0 ∧ ∃ k : Nat, k ≤ ts.length ∧ i = .int .i64 k) (fun _ i => ts.length - (intOf i).toNat)
  case atStart => exact ⟨rfl, 0, by omega, rfl⟩
  case round =>
    obtain ⟨rfl, k, hk, rfl⟩ := hrel
    by_cases hlt : k < ts.length
    · obtain ⟨ad, rfl, hlb, hc⟩ := hT4.at_ hlt
      have ht := tempB_t (List.all_eq_true.1 HT.out _ (List.getElem_mem hlt))
      go_wp2_with fail
      refine (rtemp_t _ ht _).mono ?_; rintro e w' ⟨rfl, rfl⟩
      go_wp2
      go_round
      case rel => exact ⟨rfl, k + 1, by omega, by go_num⟩
      case measure => simp [intOf]; omega
    · obtain rfl : k = ts.length := by omega
      obtain ⟨l0, l1, l2, l3, l4, l5⟩ := hLV
      go_wp2_with fail
      refine (rPulses_any b (by omega) Aw cw zs (by omega) hwd.out V ((hR.below hB).more hB.size)).mono ?_; rintro e X ⟨A, c, rfl, hcap, hnewA, hA, hX⟩
      have T0 : RpW w b a2 a3 a4 a5 zs.length At ts A (curOf ((ts.take 0).map f) (pulsesOf b zs)) X :=
        ⟨(LineAt.mk l0 l1 l2 l3 l4 l5).below hX hsV, hT4.below (below_down hB.size hX), by simpa [curOf, rotAll] using hA, hB.trans (below_down hB.size hX), Nat.lt_of_lt_of_le hsV hX.size⟩
      have hl : (pulsesOf b zs).length = zs.length * b := pulsesOf_length b zs
      obtain ⟨bs, hbs⟩ : ∃ bs, bs = pulsesOf b zs := ⟨_, rfl⟩
      rw [bi_length] at hcap ⊢
      rw [← hbs] at hcap T0 hl ⊢
      have HL := Lib.hid hl
      have HBS := Lib.hid hbs
      clear hbs hl hA hX hnewA l0 l1 l2 l3 l4 l5 hB hT4 hsV
      go_wp2
      go_loopw [11, 12, 13] (fun p a i U => ∃ (k : Nat) (A : Option Addr) (c : Nat), k ≤ ts.length ∧ i = .int .i64 k ∧ p = .slice A bs.length c ∧ a = .int .i64 (atOf ((ts.take k).map f)) ∧ RpW w b a2 a3 a4 a5 zs.length At ts A (curOf ((ts.take k).map f) bs) U) (fun _ _ i _ => ts.length - (intOf i).toNat)
      case atStart => exact ⟨0, A, c, by omega, rfl, rfl, rfl, T0⟩
      case round =>
        clear T0 hcap
        obtain ⟨k, A, c, hk, rfl, rfl, rfl, T⟩ := hrel
        by_cases hlt : k < ts.length
        · obtain ⟨ad, rfl, hlb, hc⟩ := T.temps.at_ hlt
          have hst : (ts.take (k + 1)).map f = (ts.take k).map f ++ [f ts[k]] := by rw [List.take_succ_eq_append_getElem hlt, List.map_append]; rfl
          have hcs := curOf_snoc ((ts.take k).map f) (f ts[k]) bs
          have has := atOf_snoc ((ts.take k).map f) (f ts[k])
          rw [← hst] at hcs has
          have hkl : ((ts.take k).map f).length = k := by simp; omega
          rw [hkl] at has
          have hcl := curOf_length ((ts.take k).map f) bs
          have hat := atOf_ge ((ts.take k).map f)
          have KS := HS.out ts[k] (List.getElem_mem _)
          have hfb := HF.out ts[k] (List.getElem_mem _)
          generalize curOf ((ts.take k).map f) bs = cur at *
          generalize atOf ((ts.take k).map f) = at_ at *
          generalize f ts[k] = x at *
          obtain ⟨s, lost⟩ := x
          obtain ⟨t, ht⟩ : ∃ t, t = ts[k] := ⟨_, rfl⟩
          rw [← ht] at hc KS
          have HCS := Lib.hid hcs
          have HAS := Lib.hid has
          have HCL := Lib.hid hcl
          have KS' := Lib.hid KS
          clear hcs has hst hkl ht hcl KS
          obtain ⟨l0, l1, l2, l3, l4, l5⟩ := T.line
          go_wp2
          have k0 := cell_regrown l0
          have k1 := cell_regrown l1
          have k2 := cell_regrown l2
          have k3 := cell_regrown l3
          have k4 := cell_regrown l4
          have k5 := cell_regrown l5
          have kc := cell_regrown hc
          have cN : ∀ d os, Calls Try.prog 58 #[.agg #[.int .i64 zs.length, .int .i64 b, .int .i64 a2, .int .i64 a3, .int .i64 a4, .int .i64 a5], .int .i64 t] (grow (redrawn wr d) os) fun e w'' => e = .returned (.tuple #[.int .i64 s, .bool (!lost)]) ∧ ∃ p : Regrown, w'' = grow (redrawn wr p.d) p.os := fun d os => Calls.regrown_of (KS'.out _)
          refine wp_region_quiet_below rfl (by kernel_rfl) ?_
          repeat (quiet_step (with_reducible exact cN _ _))
          refine wpQuiet_nil ?_
          intro _ hw'
          obtain ⟨⟨dq, osq⟩, hw''⟩ := hw'
          subst hw''
          have hbr := below_regrown wr dq osq
          have T1 := T.same hbr
          obtain ⟨X2, hX2⟩ : ∃ X2, X2 = grow (redrawn wr dq) osq := ⟨_, rfl⟩
          rw [← hX2] at T1 ⊢
          clear hX2 hbr cN k0 k1 k2 k3 k4 k5 kc l0 l1 l2 l3 l4 l5 hc T
          have hbl : bs.length ≤ 2560 := by
            have h1 := HL.out
            have h2 : zs.length * b ≤ 64 * 40 := Nat.mul_le_mul (by omega) (by omega)
            omega
          have hbi : (bi cur).length = bs.length := by rw [bi_length, HCL.out]
          have KL := rLate_any A c (bi cur) (by omega) s hfb X2 T1.pulses
          rw [hbi, ← bi_rot] at KL
          have KL' := Lib.hid KL
          have hrl : (bi (rot (s % (bs.length : Int)).toNat cur)).length = bs.length := by rw [bi_length, rot_length, HCL.out]
          have HRL := Lib.hid hrl
          clear hbi KL hrl
          go_wp2_with fail
          refine KL'.out.mono ?_; rintro e X3 ⟨A3, c3, rfl, hcap3, hnew3, hA3, hX3⟩
          rw [HRL.out]
          have T2 := T1.after hX3 hA3
          clear KL' T1 hX3 hA3 hcap3 hnew3
          cases lost with
          | false =>
            have HC : Hid (curOf ((ts.take (k + 1)).map f) bs = rot (s % (bs.length : Int)).toNat cur) := Lib.hid (by rw [HCS.out]; rfl)
            have HA : Hid (atOf ((ts.take (k + 1)).map f) = at_) := Lib.hid (by rw [HAS.out]; rfl)
            clear HCS HAS
            go_wp2
            go_roundw
            case rel => exact ⟨k + 1, A3, c3, by omega, by go_num, rfl, by rw [HA.out], by rw [HC.out]; exact T2⟩
            case measure => simp [intOf]; omega
          | true =>
            have HC : Hid (curOf ((ts.take (k + 1)).map f) bs = List.replicate bs.length false) := Lib.hid (by rw [HCS.out]; rfl)
            have HA : Hid (atOf ((ts.take (k + 1)).map f) = if at_ < 0 then (k : Int) else at_) := Lib.hid (by rw [HAS.out]; rfl)
            clear HCS HAS
            by_cases hneg : at_ < 0
            · have HA' := Lib.hid (HA.out.trans (if_pos hneg))
              clear HA
              go_wp2_with (with_reducible refine wp_make sliceInt rfl _ _ rfl w.heap.size bs.length bs.length bs.length rfl rfl rfl rfl ?m2 ?m3 ?_)
              case m2 => omega
              case m3 => exact T2.below.size
              intro X4 hown hg
              have T3 : RpW w b a2 a3 a4 a5 zs.length (some ad) ts (some ⟨X3.heap.size, 0, none⟩) (List.replicate bs.length false) X4 := by
                refine T2.after (below_grown0 (Below.refl _ _) hg (Nat.le_refl _)) ?_
                have hr := row_full hown
                refine ListAt.row (e := 3) (f := Value.int .i64) ?_
                rw [hr]
                simp [bi, bitN]
              clear hown hg T2
              go_wp2
              go_roundw
              case rel => exact ⟨k + 1, _, _, by omega, by go_num, rfl, by rw [HA'.out], by rw [HC.out]; exact T3⟩
              case measure => simp [intOf]; omega
            · have HA' := Lib.hid (HA.out.trans (if_neg hneg))
              clear HA
              go_wp2_with (with_reducible refine wp_make sliceInt rfl _ _ rfl w.heap.size bs.length bs.length bs.length rfl rfl rfl rfl ?m4 ?m5 ?_)
              case m4 => omega
              case m5 => exact T2.below.size
              intro X4 hown hg
              have T3 : RpW w b a2 a3 a4 a5 zs.length (some ad) ts (some ⟨X3.heap.size, 0, none⟩) (List.replicate bs.length false) X4 := by
                refine T2.after (below_grown0 (Below.refl _ _) hg (Nat.le_refl _)) ?_
                have hr := row_full hown
                refine ListAt.row (e := 3) (f := Value.int .i64) ?_
                rw [hr]
                simp [bi, bitN]
              clear hown hg T2
              go_wp2
              go_roundw
              case rel => exact ⟨k + 1, _, _, by omega, by go_num, rfl, by rw [HA'.out], by rw [HC.out]; exact T3⟩
              case measure => simp [intOf]; omega
        · obtain rfl : k = ts.length := by omega
          rw [List.take_length] at T ⊢
          have hcl := curOf_length (ts.map f) bs
          have HP := Lib.hid (passOf_eq b zs.length (ts.map f) bs)
          generalize curOf (ts.map f) bs = cur at *
          generalize atOf (ts.map f) = at_ at *
          have KJ := rJoined_any b zs.length (by omega) (by omega) A c cur (by rw [hcl]; exact HL.out) wr T.pulses
          rw [hcl] at KJ
          have KJ' := Lib.hid KJ
          have HWL := Lib.hid (wordsOf_length b zs.length cur)
          clear hcl KJ
          obtain ⟨l0, l1, l2, l3, l4, l5⟩ := T.line
          go_wp2_with fail
          refine KJ'.out.mono ?_; rintro e X3 ⟨A3, c3, rfl, hcap3, hnew3, hA3, hX3⟩
          have hB3 := T.below.trans (below_down T.below.size hX3)
          clear KJ' T l0 l1 l2 l3 l4 l5 hX3
          go_wp2
          go_ret3
          rw [← HBS.out, HP.out]
          exact ⟨A3, c3, rfl, hA3, hB3⟩
end Go.Proofs.Ytplipfcnjmgicaa
