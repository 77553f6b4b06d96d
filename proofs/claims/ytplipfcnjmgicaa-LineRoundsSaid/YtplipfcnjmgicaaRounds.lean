/-
  LineRounds: the walk. No statement is proved here.
-/
import Derived.Test.YtplipfcnjmgicaaRdM
import Derived.Test.YtplipfcnjmgicaaAwake
import Derived.Lib.QuietBelow
import Derived.Deep.RegionHeld3
namespace Go.Proofs.Ytplipfcnjmgicaa
open Go.RowKit Go.Sort
set_option linter.unusedVariables false
set_option linter.unusedSimpArgs false

set_option maxRecDepth 100000 in
set_option maxHeartbeats 2000000 in
/-- Where Pass refuses. -/
theorem rounds_bad (a0 a1 a2 a3 a4 a5 er : Int) (he : er ≠ 0) (Aw At : Option Addr) (zs ts : List Int) (cw ct : Nat) (w : World) (hR : IntsAt w w.heap.size Aw zs) (hT : IntsAt w w.heap.size At ts)
    (KP : Hid (∀ w, IntsAt w w.heap.size Aw zs → IntsAt w w.heap.size At ts → Calls Try.prog 29 #[.agg #[.int .i64 a0, .int .i64 a1, .int .i64 a2, .int .i64 a3, .int .i64 a4, .int .i64 a5], .slice Aw zs.length cw, .slice At ts.length ct] w (PassOut [] 0 er w))) :
    Calls Try.prog 12 #[.agg #[.int .i64 a0, .int .i64 a1, .int .i64 a2, .int .i64 a3, .int .i64 a4, .int .i64 a5], .slice Aw zs.length cw, .slice At ts.length ct] w fun e w' => e = .returned (.bool true) ∧ Below w.heap.size w w' := by
  have he' : (er != 0) = true := by simpa using he
  have HE := Lib.hid he
  clear he
  go_enter Try.func12, Try.ntmps12
  go_wp2_with fail
  have hB0 : Below w.heap.size w (w.alloc (.cells #[.int .i64 a0, .int .i64 a1, .int .i64 a2, .int .i64 a3, .int .i64 a4, .int .i64 a5] 25)) := by go_grown
  refine (KP.out _ ((hR.below hB0).more hB0.size) ((hT.below hB0).more hB0.size)).mono ?_; rintro e U ⟨A, c, rfl, hA, hU⟩
  have hB := hB0.trans (below_down hB0.size hU)
  clear hB0 hU hA
  go_wp2_with fail
  refine (awake_pa _).mono ?_; rintro e Y ⟨rfl, hY⟩
  go_wp2
  go_ret
  exact ⟨rfl, hB.trans (below_down hB.size hY)⟩

/-- A slice of n numbers that a call hands back, the row new or old. -/
def SlcIs (w0 : Nat) (V : World) (b : Nat) (n : Nat) (xs : List Int) (e : Ending) (w' : World) : Prop :=
  ∃ A c, e = .returned (.slice A n c) ∧ IntsAt w' w'.heap.size A xs ∧ w'.cell? ⟨w0, 1, none⟩ = some (.int .i64 b) ∧ Below V.heap.size V w'
def NumIs (w0 : Nat) (V : World) (b : Nat) (u : Value) (e : Ending) (w' : World) : Prop :=
  e = .returned u ∧ w'.cell? ⟨w0, 1, none⟩ = some (.int .i64 b) ∧ Below V.heap.size V w'
theorem slcIs_new {w0 : Nat} {V X : World} {b n : Nat} {xs : List Int} (hn : xs.length = n) (h1 : X.cell? ⟨w0, 1, none⟩ = some (.int .i64 b)) (h2 : Below V.heap.size V X) (e : Ending) (w' : World) (h : NewInts xs X e w') : SlcIs w0 V b n xs e w' := by
  obtain ⟨A, c, he, _, _, hA, hb⟩ := h
  subst hn
  exact ⟨A, c, he, hA, (hb.cell (block_lt_of_cell h1)).trans h1, h2.trans (below_down h2.size hb)⟩
theorem numIs_below {w0 : Nat} {V X : World} {b : Nat} {u : Value} (h1 : X.cell? ⟨w0, 1, none⟩ = some (.int .i64 b)) (h2 : Below V.heap.size V X) (e : Ending) (w' : World) (h : e = .returned u ∧ Below X.heap.size X w') : NumIs w0 V b u e w' :=
  ⟨h.1, (h.2.cell (block_lt_of_cell h1)).trans h1, h2.trans (below_down h2.size h.2)⟩
theorem numIs_same {w0 : Nat} {V X : World} {b : Nat} {u : Value} (h1 : X.cell? ⟨w0, 1, none⟩ = some (.int .i64 b)) (h2 : Below V.heap.size V X) (e : Ending) (w' : World) (h : e = .returned u ∧ w' = X) : NumIs w0 V b u e w' := by
  obtain ⟨h3, rfl⟩ := h
  exact ⟨h3, h1, h2⟩

/-- What the loop keeps. -/
structure RdW (V : World) (ts : List Int) (k : Nat) (v : Value) (U : World) : Prop where
  own : U.ownsRow V.heap.size 3 1 v k (ints (ts.reverse.take k))
  below : Below V.heap.size V U

set_option maxRecDepth 100000 in
set_option maxHeartbeats 2000000 in
theorem rounds_ok (f : Int → Int × Bool) (a2 a3 a4 a5 at_ : Int) (W b : Nat) (Aw At : Option Addr) (zs ts ws : List Int) (cw ct : Nat) (w : World) (HZ : Hid (zs.length = W)) (hb : (1 ≤ W ∧ W ≤ 64) ∧ 1 ≤ b ∧ b ≤ 40) (hn : ts.length ≤ 60)
    (hR : IntsAt w w.heap.size Aw zs) (hT : IntsAt w w.heap.size At ts) (HWL : Hid (ws.length = W))
    (KP : Hid (∀ w, IntsAt w w.heap.size Aw zs → IntsAt w w.heap.size At ts → Calls Try.prog 29 #[.agg #[.int .i64 W, .int .i64 b, .int .i64 a2, .int .i64 a3, .int .i64 a4, .int .i64 a5], .slice Aw zs.length cw, .slice At ts.length ct] w (PassOut ws at_ 0 w)))
    (KQ : Hid (∃ at2 : Int, ∀ (A2 : Option Addr) (c2 : Nat) (w : World), IntsAt w w.heap.size Aw zs → IntsAt w w.heap.size A2 ts.reverse → Calls Try.prog 29 #[.agg #[.int .i64 W, .int .i64 b, .int .i64 a2, .int .i64 a3, .int .i64 a4, .int .i64 a5], .slice Aw zs.length cw, .slice A2 ts.length c2] w (PassOut ws at2 0 w)))
    (KS : Hid (∀ T ∈ ts, ∀ w, Calls Try.prog 23 #[.agg #[.int .i64 W, .int .i64 b, .int .i64 a2, .int .i64 a3, .int .i64 a4, .int .i64 a5], .int .i64 T] w (Shifted (f T).1 (f T).2 0 w)))
    (HF : Hid (∀ T ∈ ts, -2000000000 ≤ (f T).1 ∧ (f T).1 ≤ 2000000000))
    (hat : Hid (at_ = atOf (ts.map f))) (hws : Hid (ws = (passOf b W (ts.map f) (pulsesOf b zs)).1)) (hv : Hid (∀ z ∈ zs, 0 ≤ z ∧ z < 2 ^ b)) :
    Calls Try.prog 12 #[.agg #[.int .i64 W, .int .i64 b, .int .i64 a2, .int .i64 a3, .int .i64 a4, .int .i64 a5], .slice Aw zs.length cw, .slice At ts.length ct] w fun e w' => e = .returned (.bool true) ∧ Below w.heap.size w w' := by
  go_enter Try.func12, Try.ntmps12
  go_wp2_with fail
  have hB0 : Below w.heap.size w (w.alloc (.cells #[.int .i64 W, .int .i64 b, .int .i64 a2, .int .i64 a3, .int .i64 a4, .int .i64 a5] 25)) := by go_grown
  have hL : LineAt (w.alloc (.cells #[.int .i64 W, .int .i64 b, .int .i64 a2, .int .i64 a3, .int .i64 a4, .int .i64 a5] 25)) w.heap.size W b a2 a3 a4 a5 := by constructor <;> simp [go_sem]
  have hsz : w.heap.size < (w.alloc (.cells #[.int .i64 W, .int .i64 b, .int .i64 a2, .int .i64 a3, .int .i64 a4, .int .i64 a5] 25)).heap.size := by simp
  refine (KP.out _ ((hR.below hB0).more hB0.size) ((hT.below hB0).more hB0.size)).mono ?_; rintro e V ⟨A, c, rfl, hA, hV⟩
  have hLV := hL.below hV hsz
  have hBV := hB0.trans (below_down hB0.size hV)
  have hlt0 : w.heap.size < V.heap.size := Nat.lt_of_lt_of_le hsz hV.size
  have hRV := (hR.below hBV).more hBV.size
  have hTV := (hT.below hBV).more hBV.size
  clear hB0 hL hsz hV
  go_wp2
  have T0 : RdW V ts 0 (.slice none 0 0) V := ⟨by rw [List.take_zero]; exact World.ownsRow_nil _ _ _ _, Below.refl _ _⟩
  go_loopw [10, 11, 12] (fun v s i U => ∃ k : Nat, k ≤ ts.length ∧ i = .int .i64 k ∧ s = .int .i64 (sumOf ((ts.map f).take k)) ∧ RdW V ts k v U) (fun _ _ i _ => ts.length - (intOf i).toNat)
  case atStart => exact ⟨0, by omega, rfl, rfl, T0⟩
  case round =>
    clear T0
    obtain ⟨k, hk, rfl, rfl, T1⟩ := hrel
    by_cases hlt : k < ts.length
    · obtain ⟨T, hTk⟩ : ∃ T, ts[k]? = some T := ⟨ts[k], List.getElem?_eq_getElem hlt⟩
      have hTm : T ∈ ts := List.mem_of_getElem? hTk
      have hxk : (ts.map f)[k]? = some (f T) := by rw [List.getElem?_map, hTk]; rfl
      have HX := Lib.hid (show (ts.map f).take (k + 1) = (ts.map f).take k ++ [f T] by
        rw [List.take_succ_eq_append_getElem (by simpa using hlt)]
        congr 2
        exact Option.some.inj ((List.getElem?_eq_getElem (by simpa using hlt)).symm.trans hxk))
      have HR2 := Lib.hid (rev_take ts k hlt)
      obtain ⟨R, hRr⟩ : ∃ R, R = ts[ts.length - 1 - k]'(by omega) := ⟨_, rfl⟩
      rw [← hRr] at HR2
      obtain ⟨ad, rfl, hadB, hcj⟩ := hTV.at_ (show ts.length - 1 - k < ts.length by omega)
      obtain ⟨ad', e1, _, hck⟩ := hTV.at_ hlt
      cases e1
      rw [← hRr] at hcj
      have hTk' : ts[k] = T := Option.some.inj ((List.getElem?_eq_getElem hlt).symm.trans hTk)
      rw [hTk'] at hck
      have HK := Lib.hid hck
      have hcj' := (T1.below.cell (p := ad.add (ts.length - 1 - k)) (by rw [add_block]; exact hadB)).trans hcj
      clear hRr hcj hTk' hck hTk
      go_wp2_with (with_reducible refine wp_push sliceInt rfl (.tmp 44) (.tmp 53) rfl V.heap.size _ _ _ (T1.own.alloc _) wr.heap.size (.int .i64 R) rfl rfl ?c4 rfl ?c3 ?c5 ?_)
      case c4 => simp [go_sem]
      case c3 => omega
      case c5 => have := T1.below.size; simp; omega
      intro v' U' hown hg
      have hBg : Below V.heap.size V U' := below_grown (T1.below.alloc T1.below.size _) hg (by have := T1.below.size; simp; omega) (T1.own.alloc _) (Nat.le_refl _)
      have T2 : RdW V ts (k + 1) v' U' := ⟨by rw [HR2.out]; simpa [ints] using hown, hBg⟩
      clear T1 hown hg hcj'
      obtain ⟨l0, l1, l2, l3, l4, l5⟩ := hLV.below hBg hlt0
      have lT := (hBg.cell (p := ad.add k) (by rw [add_block]; exact hadB)).trans HK.out
      clear hBg
      have KT := Lib.hid (KS.out T hTm)
      obtain ⟨x, hx⟩ : ∃ x, x = f T := ⟨_, rfl⟩
      rw [← hx] at KT HX hxk
      have HXB := Lib.hid (show -2000000000 ≤ x.1 ∧ x.1 ≤ 2000000000 by rw [hx]; exact HF.out T hTm)
      clear hx
      obtain ⟨n, lost⟩ := x
      dsimp only at KT
      go_wp2
      have k0 := cell_regrown l0
      have k1 := cell_regrown l1
      have k2 := cell_regrown l2
      have k3 := cell_regrown l3
      have k4 := cell_regrown l4
      have k5 := cell_regrown l5
      have kT := cell_regrown lT
      have cA : ∀ d os, Calls Try.prog 23 #[.agg #[.int .i64 W, .int .i64 b, .int .i64 a2, .int .i64 a3, .int .i64 a4, .int .i64 a5], .int .i64 T] (grow (redrawn U' d) os) fun e w'' => e = .returned (.tuple #[.int .i64 n, .bool lost, .int .i64 0]) ∧ ∃ p : Regrown, w'' = grow (redrawn U' p.d) p.os := fun d os =>
        Calls.regrown_of (Calls.mono (KT.out _) fun e w' h => h)
      clear l0 l1 l2 l3 l4 l5 lT
      have hki : (k : Int) < (ts.length : Int) := by omega
      have hk0 : (0 : Int) ≤ (k : Int) := by omega
      refine wp_region_quiet_below rfl (by kernel_rfl) ?_
      repeat (quiet_step (first | with_reducible exact cA _ _))
      refine wpQuiet_nil ?_
      intro _ hw'
      obtain ⟨⟨dq, osq⟩, hw''⟩ := hw'
      subst hw''
      have b3 := below_regrown U' dq osq
      obtain ⟨X, hX⟩ : ∃ X, X = grow (redrawn U' dq) osq := ⟨_, rfl⟩
      rw [← hX] at b3 ⊢
      clear hX cA k0 k1 k2 k3 k4 k5 kT
      have T3 : RdW V ts (k + 1) v' X := ⟨ownsRow_below T2.own b3, T2.below.trans (below_down T2.below.size b3)⟩
      clear T2 b3
      have hsum : sumOf ((ts.map f).take (k + 1)) = sumOf ((ts.map f).take k) + n := by rw [HX.out, sumOf_append]; simp [sumOf]
      have hsb := sumOf_bound ((ts.map f).take k) (fun y hy => by
        obtain ⟨T, hT, rfl⟩ := List.mem_map.1 (List.mem_of_mem_take hy)
        exact HF.out T hT)
      rw [List.length_take, List.length_map, Nat.min_eq_left hk] at hsb
      have hxb := HXB.out
      have HS := Lib.hid hsum
      obtain ⟨sm, hsm⟩ : ∃ sm, sm = sumOf ((ts.map f).take k) := ⟨_, rfl⟩
      rw [← hsm] at HS hsb ⊢
      have hws : wrap64 (sm + n) = sm + n := wrap_in (by omega) (by omega)
      have HAT := Lib.hid hat.out
      cases lost with
      | true =>
        have hl := at_lost _ k _ hxk rfl
        rw [← hat.out] at hl
        have d1 : decide (at_ < 0) = false := by simp; omega
        have d2 : decide ((k : Int) < at_) = false := by simp; omega
        clear hsum hsb hxb hsm HAT hl
        go_wp2
        go_roundw
        case rel => exact ⟨k + 1, by omega, by go_num, by rw [HS.out, hws], T3⟩
        case measure => simp [intOf]; omega
      | false =>
        have hl := at_kept _ k _ hxk rfl
        rw [← hat.out] at hl
        have d1 : (at_ == (k : Int)) = false := by simpa using hl
        clear hsum hsb hxb hsm HAT hl
        go_wp2
        go_roundw
        case rel => exact ⟨k + 1, by omega, by go_num, by rw [HS.out, hws], T3⟩
        case measure => simp [intOf]; omega
    · obtain rfl : k = ts.length := by omega
      have hown := T1.own
      rw [List.take_of_length_le (by simp)] at hown
      obtain ⟨At2, ct2, rfl, hlen, _, _, hT2⟩ := ListAt.own hown
      clear hlen hown
      obtain ⟨at2, KQ'⟩ := KQ.out
      have KQH := Lib.hid KQ'
      have HFk := HF
      clear KQ KQ' KS KP HF
      obtain ⟨l0, l1, l2, l3, l4, l5⟩ := hLV.below T1.below hlt0
      go_wp2_with fail
      refine (KQH.out At2 ct2 wr ((hRV.below T1.below).more T1.below.size) hT2).mono ?_; rintro e X ⟨A2, c2, rfl, hA2, hX⟩
      have hBX : Below V.heap.size V X := T1.below.trans (below_down T1.below.size hX)
      have hAX : IntsAt X X.heap.size A ws := (hA.below hBX).more hBX.size
      clear hX l0 l1 l2 l3 l4 l5 T1 hT2
      go_wp2_with fail
      have hws64 : ws.length ≤ 64 := by have := HWL.out; omega
      refine (ints_any A A2 c c2 ws ws (by unfold maxLen; omega) (by unfold maxLen; omega) _ hAX hA2).mono ?_; rintro e Y ⟨rfl, hY⟩
      have hBY : Below V.heap.size V Y := hBX.trans (below_down hBX.size hY)
      have hAY : IntsAt Y Y.heap.size A ws := (hA.below hBY).more hBY.size
      have hwY : Below w.heap.size w Y := hBV.trans (below_down hBV.size hBY)
      have heq : intsEq ws ws = true := by simp [intsEq]
      rw [heq]
      clear heq hA2 hY hBX hAX
      have hrg := at_range (ts.map f)
      rw [← hat.out, List.length_map] at hrg
      have d1 : decide (at_ < -1) = false := by simp; omega
      have d2 : decide ((ts.length : Int) ≤ at_) = false := by simp; omega
      have hv2 := hv.out
      have hZ := HZ.out
      by_cases hpos : 0 ≤ at_
      · have HC : Hid (cnt (pulsesOf b ws) = 0 ∧ ∀ z ∈ ws, 0 ≤ z ∧ z < 2 ^ b) := Lib.hid (by
          have e := hws.out
          rw [pass_gone b W _ _ (by rw [← hat.out]; exact hpos)] at e
          rw [e]
          refine ⟨cnt_zeros b W, fun z hz => ?_⟩
          rw [List.eq_of_mem_replicate hz]
          exact ⟨by omega, Int.pow_pos (by decide)⟩)
        have d3 : decide (0 ≤ at_) = true := by simpa using hpos
        clear hrg hpos hZ hv2
        go_wp2_with fail
        refine (ones_any b hb.2 A c ws hws64 HC.out.2 _ hAY).mono ?_; rintro e Y2 ⟨rfl, rfl⟩
        rw [HC.out.1]
        go_wp2_with fail
        refine (awake_pa _).mono ?_; rintro e Y3 ⟨rfl, hY3⟩
        go_wp2
        go_ret
        exact ⟨rfl, hwY.trans (below_down hwY.size hY3)⟩
      · have d3 : decide (0 ≤ at_) = false := by simpa using hpos
        have hwk : ws = wordsOf b W (rot (sumOf (ts.map f) % ((W * b : Nat) : Int)).toNat (pulsesOf b zs)) := by
          have e := hws.out
          have hl : (pulsesOf b zs).length = W * b := by rw [pulsesOf_length, hZ]
          have h0 : 0 < W * b := Nat.mul_pos (by omega) (by omega)
          rw [pass_kept b W _ _ (by omega) (by rw [← hat.out]; omega), hl] at e
          exact e
        have hl1 : (bi (pulsesOf b zs)).length = W * b := by rw [bi_length, pulsesOf_length, hZ]
        have hm0 : W * b ≤ 64 * 40 := Nat.mul_le_mul (by omega) (by omega)
        have hvv : ∀ z ∈ zs, 0 ≤ z ∧ z < 9223372036854775808 := fun z hz => by
          have h1 := hv2 z hz
          have e1 : (2 : Int) ^ b = ((2 ^ b : Nat) : Int) := by simp
          have e3 : 2 ^ b ≤ 2 ^ 40 := Nat.pow_le_pow_right (by decide) hb.2.2
          omega
        have hsb := sumOf_bound (ts.map f) (fun y hy => by
          obtain ⟨T, hT, rfl⟩ := List.mem_map.1 hy
          exact HFk.out T hT)
        rw [List.length_map] at hsb
        have htk : (ts.map f).take ts.length = ts.map f := List.take_of_length_le (by simp)
        rw [htk]
        obtain ⟨sm, hsm⟩ : ∃ sm, sm = sumOf (ts.map f) := ⟨_, rfl⟩
        rw [← hsm] at hsb hwk ⊢
        obtain ⟨m, hm⟩ : ∃ m, m = cnt (pulsesOf b zs) := ⟨_, rfl⟩
        have hrl : (rot (sm % ((W * b : Nat) : Int)).toNat (pulsesOf b zs)).length = W * b := by rw [rot_length, pulsesOf_length, hZ]
        have hcw : cnt (pulsesOf b ws) = m := by
          rw [hwk, cnt_words b W _ (by omega) _ (by rw [pulsesOf_length, hZ]), hm]
        have hwr : ∀ z ∈ ws, 0 ≤ z ∧ z < 2 ^ b := by
          rw [hwk]
          intro z hz
          obtain ⟨i, hi, hzi⟩ := List.mem_iff_getElem.1 hz
          rw [wordsOf_length] at hi
          have hg := wordsOf_get b W (rot (sm % ((W * b : Nat) : Int)).toNat (pulsesOf b zs)) i hi
          rw [List.getElem?_eq_getElem (by rw [wordsOf_length]; exact hi), hzi] at hg
          injection hg with hg
          rw [hg]
          have h1 := valOf_lt (wordAt b (rot (sm % ((W * b : Nat) : Int)).toNat (pulsesOf b zs)) i)
          have h2 : (wordAt b (rot (sm % ((W * b : Nat) : Int)).toNat (pulsesOf b zs)) i).length ≤ b := by unfold wordAt; rw [List.length_take]; omega
          have h3 := Nat.pow_le_pow_right (n := 2) (by decide) h2
          have e1 : (2 : Int) ^ b = ((2 ^ b : Nat) : Int) := by simp
          omega
        have c51 : ∀ X, (X.cell? ⟨w.heap.size, 1, none⟩ = some (.int .i64 b) ∧ Below V.heap.size V X) → Calls Try.prog 51 #[.slice Aw zs.length cw, .int .i64 b] X (SlcIs w.heap.size V b (W * b) (bi (pulsesOf b zs))) := fun X ⟨h1, h2⟩ =>
          (rPulses_any b hb.2 Aw cw zs (by omega) hvv X ((hRV.below h2).more h2.size)).mono (slcIs_new hl1 h1 h2)
        have c50 : ∀ A1 c1 X, (X.cell? ⟨w.heap.size, 1, none⟩ = some (.int .i64 b) ∧ Below V.heap.size V X) → IntsAt X X.heap.size A1 (bi (pulsesOf b zs)) → Calls Try.prog 50 #[.slice A1 (W * b) c1, .int .i64 sm] X (SlcIs w.heap.size V b (W * b) (bi (rot (sm % ((W * b : Nat) : Int)).toNat (pulsesOf b zs)))) := fun A1 c1 X ⟨h1, h2⟩ h3 => by
          have h := rLate_any A1 c1 (bi (pulsesOf b zs)) (by omega) sm (by omega) X h3
          rw [hl1, ← bi_rot] at h
          exact h.mono (slcIs_new (by rw [bi_length]; exact hrl) h1 h2)
        have c49 : ∀ A1 c1 X, (X.cell? ⟨w.heap.size, 1, none⟩ = some (.int .i64 b) ∧ Below V.heap.size V X) → IntsAt X X.heap.size A1 (bi (rot (sm % ((W * b : Nat) : Int)).toNat (pulsesOf b zs))) → Calls Try.prog 49 #[.slice A1 (W * b) c1, .int .i64 b] X (SlcIs w.heap.size V b ws.length ws) := fun A1 c1 X ⟨h1, h2⟩ h3 => by
          have h := rJoined_any b W hb.2 hb.1.2 A1 c1 _ hrl X h3
          rw [hrl, ← hwk] at h
          exact h.mono (slcIs_new rfl h1 h2)
        have c31 : ∀ A1 c1 X, (X.cell? ⟨w.heap.size, 1, none⟩ = some (.int .i64 b) ∧ Below V.heap.size V X) → IntsAt X X.heap.size A1 ws → Calls Try.prog 31 #[.slice A ws.length c, .slice A1 ws.length c1] X (NumIs w.heap.size V b (.bool true)) := fun A1 c1 X ⟨h1, h2⟩ h3 => by
          have h := ints_any A A1 c c1 ws ws (by unfold maxLen; omega) (by unfold maxLen; omega) X ((hA.below h2).more h2.size) h3
          rw [show intsEq ws ws = true by simp [intsEq]] at h
          exact h.mono (numIs_below h1 h2)
        have c48 : ∀ X, (X.cell? ⟨w.heap.size, 1, none⟩ = some (.int .i64 b) ∧ Below V.heap.size V X) → Calls Try.prog 48 #[.slice A ws.length c] X (NumIs w.heap.size V b (.int .i64 m)) := fun X ⟨h1, h2⟩ => by
          have h := ones_any b hb.2 A c ws hws64 hwr X ((hA.below h2).more h2.size)
          rw [hcw] at h
          exact h.mono (numIs_same h1 h2)
        have c48' : ∀ X, (X.cell? ⟨w.heap.size, 1, none⟩ = some (.int .i64 b) ∧ Below V.heap.size V X) → Calls Try.prog 48 #[.slice Aw zs.length cw] X (NumIs w.heap.size V b (.int .i64 m)) := fun X ⟨h1, h2⟩ => by
          have h := ones_any b hb.2 Aw cw zs (by omega) hv2 X ((hRV.below h2).more h2.size)
          rw [← hm] at h
          exact h.mono (numIs_same h1 h2)
        have c22 : ∀ X, (X.cell? ⟨w.heap.size, 1, none⟩ = some (.int .i64 b) ∧ Below V.heap.size V X) → Calls Try.prog 22 #[] X (NumIs w.heap.size V b (.bool true)) := fun X ⟨h1, h2⟩ =>
          (awake_pa X).mono (numIs_below h1 h2)
        have hs1 : Y.cell? ⟨w.heap.size, 1, none⟩ = some (.int .i64 b) := (hLV.below hBY hlt0).l1
        have hs2 := hBY
        have hdrew : ∀ Z, Below V.heap.size V Z → Below V.heap.size V Z.drew := fun Z h => ⟨h.os, h.tape, h.output, h.size, h.block⟩
        have C51 := Lib.hid c51
        have C50 := Lib.hid c50
        have C49 := Lib.hid c49
        have C31 := Lib.hid c31
        have C48 := Lib.hid c48
        have C48' := Lib.hid c48'
        have C22 := Lib.hid c22
        clear c51 c50 c49 c31 c48 c48' c22 hrg hpos hsb hwk hrl hcw hwr hvv hv2 hl1 htk hm hsm hm0 hZ
        go_wp2_with fail
        go_region_held3 (fun w' => w'.cell? ⟨w.heap.size, 1, none⟩ = some (.int .i64 b) ∧ Below V.heap.size V w') (first | exact ⟨hs1, hs2⟩ | exact ⟨hs1, hdrew _ hs2⟩ | exact ⟨by assumption, by assumption⟩ | go_keep)
          (first
            | (go_at_call 51; refine (C51.out _ (by assumption)).mono ?_; rintro e X1 ⟨A1, c1, rfl, hA1, hs1, hs2⟩)
            | (go_at_call 50; refine (C50.out _ _ _ (by assumption) (by assumption)).mono ?_; rintro e X2 ⟨A2, c2, rfl, hA2, hs1, hs2⟩)
            | (go_at_call 49; refine (C49.out _ _ _ (by assumption) (by assumption)).mono ?_; rintro e X3 ⟨A3, c3, rfl, hA3, hs1, hs2⟩)
            | (go_at_call 31; refine (C31.out _ _ _ (by assumption) (by assumption)).mono ?_; rintro e X4 ⟨rfl, hs1, hs2⟩)
            | (go_at_call 48; (with_reducible refine (C48.out _ (by assumption)).mono ?_); rintro e X5 ⟨rfl, hs1, hs2⟩)
            | (go_at_call 48; (with_reducible refine (C48'.out _ (by assumption)).mono ?_); rintro e X6 ⟨rfl, hs1, hs2⟩)
            | (go_at_call 22; refine (C22.out _ (by assumption)).mono ?_; rintro e X7 ⟨rfl, hs1, hs2⟩))
        go_wp2
        go_ret
        refine ⟨rfl, hBV.trans (below_down hBV.size ?_)⟩
        first | exact hs2 | assumption | exact And.right (by assumption)
end Go.Proofs.Ytplipfcnjmgicaa
