/-
  LineBack: the walk. No statement is proved here.
-/
import Derived.Test.YtplipfcnjmgicaaRots
import Derived.Test.YtplipfcnjmgicaaPasses
namespace Go.Proofs.Ytplipfcnjmgicaa
open Go.RowKit
set_option linter.unusedVariables false
set_option linter.unusedSimpArgs false

/-- What Pass answers, in each case. -/
theorem wordsErr_zero {a0 a1 : Int} {zs : List Int} (h : wordsErr a0 a1 zs = 0) : (zs.length : Int) = a0 ∧ zs.all (wordB a1) = true := by
  unfold wordsErr at h
  by_cases e : (zs.length : Int) = a0
  · rw [if_pos e] at h
    refine ⟨e, ?_⟩
    unfold wordsE at h
    by_cases e2 : zs.all (wordB a1) = true
    · exact e2
    · rw [if_neg e2] at h; cases h
  · rw [if_neg e] at h; cases h
theorem words_fit {b : Nat} {zs : List Int} (h : zs.all (wordB b) = true) : ∀ z ∈ zs, 0 ≤ z ∧ z < 2 ^ b := fun z hz => by
  have h1 := List.all_eq_true.1 h z hz
  simp only [wordB, Bool.and_eq_true, decide_eq_true_eq, Int.toNat_natCast] at h1
  omega

structure BkW (w : World) (a0 a1 a2 a3 a4 a5 : Int) (Aw : Option Addr) (zs : List Int) (T : Int) (k : Nat) (v : Value) (U : World) : Prop where
  line : LineAt U w.heap.size a0 a1 a2 a3 a4 a5
  words : IntsAt U w.heap.size Aw zs
  own : U.ownsRow (w.heap.size + 1) 3 1 v k (ints (List.replicate k T))
  below : Below w.heap.size w U
  size : w.heap.size + 1 ≤ U.heap.size

theorem sum_replicate (n : Nat) (x : Int × Bool) : sumOf (List.replicate n x) = n * x.1 := by
  induction n with
  | zero => simp [sumOf]
  | succ n ih =>
    rw [List.replicate_succ]
    show x.1 + sumOf (List.replicate n x) = _
    rw [ih, Int.natCast_add, Int.add_mul]
    omega

/-- As many rounds as there are beats. -/
theorem pass_round (b W : Nat) (zs : List Int) (hb : 0 < b) (hW : 0 < zs.length) (hv : ∀ z ∈ zs, 0 ≤ z ∧ z < 2 ^ b) (n : Nat) (hn : n = zs.length * b) (x : Int × Bool) :
    passOf b zs.length (List.replicate n x) (pulsesOf b zs) = if x.2 then (List.replicate zs.length 0, 0) else (zs, -1) := by
  have hn0 : 0 < n := by rw [hn]; exact Nat.mul_pos hW hb
  cases hx : x.2 with
  | true =>
    have h := findIdx_some [] x (List.replicate (n - 1) x) rfl hx
    have e : [] ++ [x] ++ List.replicate (n - 1) x = List.replicate n x := by
      rw [List.nil_append, List.singleton_append, ← List.replicate_succ]
      congr 1; omega
    rw [e] at h
    unfold passOf
    rw [h]
    rfl
  | false =>
    have h : (List.replicate n x).findIdx? (·.2) = none := findIdx_none _ (by rw [List.all_eq_true]; intro y hy; rw [(List.mem_replicate.1 hy).2, hx]; rfl)
    have hl : (pulsesOf b zs).length = n := by rw [pulsesOf_length, hn]
    unfold passOf
    rw [h]
    simp only
    rw [rotAll_sum _ (by omega), sum_replicate, hl, Int.mul_comm, Int.mul_emod_left, Int.toNat_zero, rot_zero, words_back b hb zs hv]
    rfl

set_option maxRecDepth 100000 in
set_option maxHeartbeats 4000000 in
/-- Where Shift refuses. -/
theorem back_bad (a0 a1 a2 a3 a4 a5 T : Int) (Aw : Option Addr) (nw cw : Nat) (w : World)
    (K : Hid (∀ w, Calls Try.prog 23 #[.agg #[.int .i64 a0, .int .i64 a1, .int .i64 a2, .int .i64 a3, .int .i64 a4, .int .i64 a5], .int .i64 T] w (Shifted 0 false 7 w))) :
    Calls Try.prog 13 #[.agg #[.int .i64 a0, .int .i64 a1, .int .i64 a2, .int .i64 a3, .int .i64 a4, .int .i64 a5], .slice Aw nw cw, .int .i64 T] w fun e w' => e = .returned (.bool true) ∧ Below w.heap.size w w' := by
  go_enter Try.func13, Try.ntmps13
  go_wp2_with fail
  have hB0 : Below w.heap.size w (w.alloc (.cells #[.int .i64 a0, .int .i64 a1, .int .i64 a2, .int .i64 a3, .int .i64 a4, .int .i64 a5] 25)) := by go_grown
  refine (K.out _).mono ?_; rintro e U ⟨rfl, hU⟩
  have hB := hB0.trans (below_down hB0.size hU)
  clear hB0 hU
  go_wp2_with fail
  refine (awake_pa _).mono ?_; rintro e Y ⟨rfl, hY⟩
  go_wp2
  go_ret
  exact ⟨rfl, hB.trans (below_down hB.size hY)⟩

set_option maxRecDepth 100000 in
set_option maxHeartbeats 4000000 in
/-- Where there are too many beats. -/
theorem back_many (a0 a1 a2 a3 a4 a5 T n : Int) (lost : Bool) (Aw : Option Addr) (nw cw : Nat) (w : World) (hb : (1 ≤ a0 ∧ a0 ≤ 64) ∧ 1 ≤ a1 ∧ a1 ≤ 40) (hm : 60 < a0 * a1)
    (K : Hid (∀ w, Calls Try.prog 23 #[.agg #[.int .i64 a0, .int .i64 a1, .int .i64 a2, .int .i64 a3, .int .i64 a4, .int .i64 a5], .int .i64 T] w (Shifted n lost 0 w))) :
    Calls Try.prog 13 #[.agg #[.int .i64 a0, .int .i64 a1, .int .i64 a2, .int .i64 a3, .int .i64 a4, .int .i64 a5], .slice Aw nw cw, .int .i64 T] w fun e w' => e = .returned (.bool true) ∧ Below w.heap.size w w' := by
  have hmb := mul_bound hb
  go_enter Try.func13, Try.ntmps13
  go_wp2_with fail
  have hB0 : Below w.heap.size w (w.alloc (.cells #[.int .i64 a0, .int .i64 a1, .int .i64 a2, .int .i64 a3, .int .i64 a4, .int .i64 a5] 25)) := by go_grown
  have hL : LineAt (w.alloc (.cells #[.int .i64 a0, .int .i64 a1, .int .i64 a2, .int .i64 a3, .int .i64 a4, .int .i64 a5] 25)) w.heap.size a0 a1 a2 a3 a4 a5 := by constructor <;> simp [go_sem]
  have hsz : w.heap.size < (w.alloc (.cells #[.int .i64 a0, .int .i64 a1, .int .i64 a2, .int .i64 a3, .int .i64 a4, .int .i64 a5] 25)).heap.size := by simp
  refine (K.out _).mono ?_; rintro e U ⟨rfl, hU⟩
  have hB := hB0.trans (below_down hB0.size hU)
  obtain ⟨l0, l1, l2, l3, l4, l5⟩ := hL.below hU hsz
  clear hB0 hU hL hsz
  have hw : wrap64 (a0 * a1) = a0 * a1 := wrap_in (by omega) (by omega)
  have hd : decide (60 < a0 * a1) = true := by simpa using hm
  go_wp2_with fail
  refine (awake_pa _).mono ?_; rintro e Y ⟨rfl, hY⟩
  go_wp2
  go_ret
  exact ⟨rfl, hB.trans (below_down hB.size hY)⟩

set_option maxRecDepth 100000 in
set_option maxHeartbeats 4000000 in
theorem back_ok (a2 a3 a4 a5 T s : Int) (W b : Nat) (lost : Bool) (Aw : Option Addr) (zs : List Int) (cw : Nat) (w : World) (hz : zs.length ≤ maxLen) (hb : (1 ≤ W ∧ W ≤ 64) ∧ 1 ≤ b ∧ b ≤ 40) (hm : W * b ≤ 60)
    (K : Hid (∀ w, Calls Try.prog 23 #[.agg #[.int .i64 W, .int .i64 b, .int .i64 a2, .int .i64 a3, .int .i64 a4, .int .i64 a5], .int .i64 T] w (Shifted s lost 0 w)))
    (ws : List Int) (at_ er : Int) (hwl : ws.length ≤ 64)
    (KP : Hid (∀ (At : Option Addr) (ct : Nat) (w : World), IntsAt w w.heap.size Aw zs → IntsAt w w.heap.size At (List.replicate (W * b) T) → Calls Try.prog 29 #[.agg #[.int .i64 W, .int .i64 b, .int .i64 a2, .int .i64 a3, .int .i64 a4, .int .i64 a5], .slice Aw zs.length cw, .slice At (W * b) ct] w (PassOut ws at_ er w)))
    (hout : (er ≠ 0 ∧ ws = []) ∨ (er = 0 ∧ lost = true ∧ at_ = 0) ∨ (er = 0 ∧ lost = false ∧ at_ = -1 ∧ ws = zs)) (hR : IntsAt w w.heap.size Aw zs) :
    Calls Try.prog 13 #[.agg #[.int .i64 W, .int .i64 b, .int .i64 a2, .int .i64 a3, .int .i64 a4, .int .i64 a5], .slice Aw zs.length cw, .int .i64 T] w fun e w' => e = .returned (.bool true) ∧ Below w.heap.size w w' := by
  have HO := Lib.hid hout
  clear hout
  have hw : wrap64 ((W : Int) * (b : Int)) = ((W * b : Nat) : Int) := by rw [← Int.natCast_mul]; exact wrap_in (by omega) (by omega)
  have HM := Lib.hid hw
  obtain ⟨n, hn⟩ : ∃ n, n = W * b := ⟨_, rfl⟩
  rw [← hn] at hm hw KP
  have hn0 : 0 < n := by rw [hn]; exact Nat.mul_pos (by omega) (by omega)
  clear hn HM
  go_enter Try.func13, Try.ntmps13
  go_wp2_with fail
  have hB0 : Below w.heap.size w (w.alloc (.cells #[.int .i64 W, .int .i64 b, .int .i64 a2, .int .i64 a3, .int .i64 a4, .int .i64 a5] 25)) := by go_grown
  have hL : LineAt (w.alloc (.cells #[.int .i64 W, .int .i64 b, .int .i64 a2, .int .i64 a3, .int .i64 a4, .int .i64 a5] 25)) w.heap.size W b a2 a3 a4 a5 := by constructor <;> simp [go_sem]
  have hsz : w.heap.size < (w.alloc (.cells #[.int .i64 W, .int .i64 b, .int .i64 a2, .int .i64 a3, .int .i64 a4, .int .i64 a5] 25)).heap.size := by simp
  refine (K.out _).mono ?_; rintro e U ⟨rfl, hU⟩
  have hB := hB0.trans (below_down hB0.size hU)
  have T0 : BkW w W b a2 a3 a4 a5 Aw zs T 0 (.slice none 0 0) U := ⟨hL.below hU hsz, hR.below hB, World.ownsRow_nil _ _ _ _, hB, Nat.le_trans hsz hU.size⟩
  obtain ⟨l0, l1, l2, l3, l4, l5⟩ := T0.line
  clear hB0 hU hL hsz hB
  have hd : decide ((60 : Int) < (n : Int)) = false := by simp; omega
  go_wp2
  rw [hw]
  clear hd l0 l1 l2 l3 l4 l5
  go_loopw [10, 11] (fun v i U => ∃ k : Nat, k ≤ n ∧ i = .int .i64 k ∧ BkW w W b a2 a3 a4 a5 Aw zs T k v U) (fun _ i _ => n - (intOf i).toNat)
  case atStart => exact ⟨0, by omega, rfl, T0⟩
  case round =>
    clear T0
    obtain ⟨k, hk, rfl, T1⟩ := hrel
    obtain ⟨l0, l1, l2, l3, l4, l5⟩ := T1.line
    by_cases hlt : k < n
    · have hsz := T1.size
      go_wp2_with (with_reducible refine wp_push sliceInt rfl (.tmp 41) (.tmp 43) rfl (w.heap.size + 1) _ _ _ (T1.own.alloc _) wr.heap.size (.int .i64 T) rfl rfl ?c4 rfl ?c3 ?c5 ?_)
      case c4 => simp [go_sem]
      case c3 => omega
      case c5 => simp; omega
      intro v' U' hown hg
      have T2 : BkW w W b a2 a3 a4 a5 Aw zs T (k + 1) v' U' := by
        have hb1 : Below w.heap.size w (wr.alloc (.cells #[.int .i64 T] 3)) := T1.below.alloc (by omega) _
        have hb2 := below_grown hb1 hg (by simp; omega) (T1.own.alloc _) (Nat.le_succ _)
        have hbk : Below (w.heap.size + 1) wr U' := below_grown ((Below.refl (w.heap.size + 1) wr).alloc hsz _) hg (by simp; omega) (T1.own.alloc _) (Nat.le_refl _)
        refine ⟨T1.line.below hbk (Nat.lt_succ_self _), hR.below hb2, ?_, hb2, Nat.le_trans hsz hbk.size⟩
        rw [List.replicate_succ']
        simpa [ints] using hown
      clear T1 hown hg hsz l0 l1 l2 l3 l4 l5
      go_wp2
      go_roundw
      case rel => exact ⟨k + 1, by omega, by go_num, T2⟩
      case measure => simp [intOf]; omega
    · obtain rfl : k = n := by omega
      obtain ⟨At, ct, rfl, hlen, _, _, hT⟩ := ListAt.own T1.own
      clear hlen
      go_wp2_with fail
      refine (KP.out At ct wr ((hR.below T1.below).more T1.below.size) hT).mono ?_; rintro e V ⟨A2, c2, rfl, hA2, hV⟩
      have hBV := T1.below.trans (below_down T1.below.size hV)
      have hRV := (hR.below hBV).more hBV.size
      clear T1 hT hV l0 l1 l2 l3 l4 l5
      rcases HO.out with ⟨h1, rfl⟩ | ⟨rfl, rfl, rfl⟩ | ⟨rfl, rfl, rfl, rfl⟩
      · have he : (er != 0) = true := by simpa using h1
        have H1 := Lib.hid h1
        clear h1
        go_wp2_with fail
        refine (awake_pa _).mono ?_; rintro e Y ⟨rfl, hY⟩
        go_wp2
        go_ret
        exact ⟨rfl, hBV.trans (below_down hBV.size hY)⟩
      · go_wp2_with fail
        refine (awake_pa _).mono ?_; rintro e Y ⟨rfl, hY⟩
        go_wp2
        go_ret
        exact ⟨rfl, hBV.trans (below_down hBV.size hY)⟩
      · go_wp2_with fail
        refine (ints_any A2 Aw c2 cw ws ws (by unfold maxLen; omega) (by unfold maxLen; omega) _ hA2 hRV).mono ?_; rintro e X ⟨rfl, hX⟩
        have hBX := hBV.trans (below_down hBV.size hX)
        have heq : intsEq ws ws = true := by simp [intsEq]
        rw [heq]
        clear heq hA2 hRV hX hBV
        go_wp2_with fail
        refine (awake_pa _).mono ?_; rintro e Y ⟨rfl, hY⟩
        go_wp2
        go_ret
        exact ⟨rfl, hBX.trans (below_down hBX.size hY)⟩

/-- LineBack answers true. -/
theorem back_walk (a0 a1 a2 a3 a4 a5 : Int) (Aw : Option Addr) (zs : List Int) (cw : Nat) (T : Int) (hz : zs.length ≤ maxLen) (w : World) (hR : IntsAt w w.heap.size Aw zs) :
    Calls Try.prog 13 #[.agg #[.int .i64 a0, .int .i64 a1, .int .i64 a2, .int .i64 a3, .int .i64 a4, .int .i64 a5], .slice Aw zs.length cw, .int .i64 T] w fun e w' => e = .returned (.bool true) ∧ Below w.heap.size w w' := by
  by_cases h : OkLine a0 a1 a2 a3 a4 a5
  · by_cases hT : -500 ≤ T ∧ T ≤ 1000
    · have K := shift_ok a0 a1 a2 a3 a4 a5 T h hT
      have g0 := h.h0
      have g1 := h.h1
      by_cases hm : 60 < a0 * a1
      · exact back_many a0 a1 a2 a3 a4 a5 T _ _ Aw zs.length cw w ⟨g0, g1⟩ hm (Lib.hid K)
      · obtain ⟨W, rfl⟩ : ∃ W : Nat, a0 = W := ⟨a0.toNat, by omega⟩
        obtain ⟨b, rfl⟩ : ∃ b : Nat, a1 = b := ⟨a1.toNat, by omega⟩
        have hm' : W * b ≤ 60 := by rw [← Int.natCast_mul] at hm; omega
        have hb : (1 ≤ W ∧ W ≤ 64) ∧ 1 ≤ b ∧ b ≤ 40 := by omega
        have hrl : (List.replicate (W * b) T).length = W * b := List.length_replicate
        by_cases hx : wordsErr W b zs = 0
        · obtain ⟨hl, hall⟩ := wordsErr_zero hx
          have hl' : zs.length = W := by omega
          subst hl'
          have hv := words_fit hall
          have hpr := pass_round b zs.length zs (by omega) (by omega) hv (zs.length * b) rfl (fOf zs.length b a2 a3 a4 a5 T)
          have KP := fun (At : Option Addr) (ct : Nat) (w : World) (h1 : IntsAt w w.heap.size Aw zs) (h2 : IntsAt w w.heap.size At (List.replicate (zs.length * b) T)) =>
            pass_ok (fOf zs.length b a2 a3 a4 a5) b a2 a3 a4 a5 Aw At zs (List.replicate (zs.length * b) T) h cw ct (by rw [hrl]; exact hm') w
              (Lib.hid fun S hS w => by rw [(List.mem_replicate.1 hS).2]; exact shiftAt_any zs.length b a2 a3 a4 a5 T h hT w) h1 h2 hx (by rw [List.all_eq_true]; intro S hS; rw [(List.mem_replicate.1 hS).2]; simp [tempB, hT]) (Lib.hid (words_valid g1 hall))
          rw [List.map_replicate, hpr, hrl] at KP
          cases hlost : (fOf zs.length b a2 a3 a4 a5 T).2 with
          | true =>
            rw [hlost, if_pos rfl] at KP
            have hlost' : lostOf a2 a5 (lateOf zs.length b a2 a3 a4 T) = true := hlost
            rw [hlost'] at K
            exact back_ok a2 a3 a4 a5 T _ zs.length b true Aw zs cw w hz hb hm' (Lib.hid K) (List.replicate zs.length 0) 0 0 (by simp; omega) (Lib.hid KP) (.inr (.inl ⟨rfl, rfl, rfl⟩)) hR
          | false =>
            rw [hlost, if_neg (by decide)] at KP
            have hlost' : lostOf a2 a5 (lateOf zs.length b a2 a3 a4 T) = false := hlost
            rw [hlost'] at K
            exact back_ok a2 a3 a4 a5 T _ zs.length b false Aw zs cw w hz hb hm' (Lib.hid K) zs (-1) 0 (by omega) (Lib.hid KP) (.inr (.inr ⟨rfl, rfl, rfl, rfl⟩)) hR
        · exact back_ok a2 a3 a4 a5 T _ W b _ Aw zs cw w hz hb hm' (Lib.hid K) [] 0 _ (by simp) (Lib.hid fun At ct w h1 h2 => (pass_badwords W b a2 a3 a4 a5 h Aw At zs hz cw (W * b) ct w h1 hx).mono fun _ _ => passOut_ref) (.inl ⟨hx, rfl⟩) hR
    · exact back_bad a0 a1 a2 a3 a4 a5 T Aw zs.length cw w (Lib.hid (shift_far a0 a1 a2 a3 a4 a5 T h hT))
  · exact back_bad a0 a1 a2 a3 a4 a5 T Aw zs.length cw w (Lib.hid (shift_bad a0 a1 a2 a3 a4 a5 T h))
end Go.Proofs.Ytplipfcnjmgicaa
