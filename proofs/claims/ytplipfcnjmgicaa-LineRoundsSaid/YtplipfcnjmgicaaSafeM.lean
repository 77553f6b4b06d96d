/-
  ARITHMETIC OF LineSafe: safe temperatures lie together; a round of one pulse. No statement is proved here.
-/
import Derived.Test.YtplipfcnjmgicaaBack
import Derived.Test.YtplipfcnjmgicaaSafe3
namespace Go.Proofs.Ytplipfcnjmgicaa
open Go.RowKit
set_option linter.unusedVariables false
set_option linter.unusedSimpArgs false

theorem safeAt_iff {a0 a1 a2 a3 a4 a5 T : Int} (h : OkLine a0 a1 a2 a3 a4 a5) : safeAt a0 a1 a2 a3 a4 a5 T = true ↔ (-a5 ≤ lateOf a0 a1 a2 a3 a4 T ∧ lateOf a0 a1 a2 a3 a4 T ≤ a5) := by
  have h2 := h.h2
  have h5 := h.h5
  have hw := in_window (a2 := a2) (a5 := a5) (L := lateOf a0 a1 a2 a3 a4 T) (s := 0) (by omega) (by omega)
  unfold safeAt shiftOf lostOf
  generalize lateOf a0 a1 a2 a3 a4 T = L at *
  rw [Int.zero_mul, Int.sub_zero] at hw
  rw [hw]
  simp only [Bool.and_eq_true, decide_eq_true_eq, Bool.not_eq_true', decide_eq_false_iff_not]
  constructor
  · rintro ⟨h1, h2⟩
    rw [if_neg h2] at h1
    exact ⟨by omega, h1.symm⟩
  · rintro ⟨h1, h2⟩
    exact ⟨by rw [if_neg (by omega)]; exact h2.symm, by omega⟩
theorem safe_between {a0 a1 a2 a3 a4 a5 S T U : Int} (h : OkLine a0 a1 a2 a3 a4 a5) (h1 : S ≤ T) (h2 : T ≤ U) (hS : safeAt a0 a1 a2 a3 a4 a5 S = true) (hU : safeAt a0 a1 a2 a3 a4 a5 U = true) : safeAt a0 a1 a2 a3 a4 a5 T = true := by
  rw [safeAt_iff h] at hS hU ⊢
  unfold lateOf at *
  rcases Int.le_total 0 a4 with ha | ha
  · have e1 := Int.mul_le_mul_of_nonneg_left h1 ha
    have e2 := Int.mul_le_mul_of_nonneg_left h2 ha
    omega
  · have e1 := Int.mul_le_mul_of_nonpos_left ha h1
    have e2 := Int.mul_le_mul_of_nonpos_left ha h2
    omega
theorem span_in (f : Int → Bool) : ∀ k : Nat, k ≤ 1501 → (∀ T : Int, -500 ≤ T → T < k - 500 → f T = true → (spanOf (upS f (k - 500))).1 ≤ T ∧ T ≤ (spanOf (upS f (k - 500))).2) ∧
    (spanOf (upS f (k - 500)) = (1001, -501) ∨ ((spanOf (upS f (k - 500))).1 < k - 500 ∧ f (spanOf (upS f (k - 500))).1 = true ∧ f (spanOf (upS f (k - 500))).2 = true))
  | 0, _ => ⟨fun T h1 h2 => by omega, .inl rfl⟩
  | k + 1, hk => by
    obtain ⟨i1, i2⟩ := span_in f k (by omega)
    have e : ((k + 1 : Nat) : Int) - 500 = ((k : Int) - 500) + 1 := by omega
    rw [e]
    have hu := upS_succ f (x := (k : Int) - 500) (by omega)
    cases hf : f ((k : Int) - 500) with
    | false =>
      rw [hf] at hu
      have hu' : upS f ((k : Int) - 500 + 1) = upS f ((k : Int) - 500) := by simpa using hu
      rw [hu']
      refine ⟨fun T h1 h2 h3 => ?_, ?_⟩
      · by_cases hT : T = (k : Int) - 500
        · rw [hT, hf] at h3; cases h3
        · exact i1 T h1 (by omega) h3
      · rcases i2 with i2 | ⟨j1, j2, j3⟩
        · exact .inl i2
        · exact .inr ⟨by omega, j2, j3⟩
    | true =>
      rw [hf] at hu
      have hu' : upS f ((k : Int) - 500 + 1) = upS f ((k : Int) - 500) ++ [(k : Int) - 500] := by simpa using hu
      rw [hu', spanOf_snoc]
      generalize spanOf (upS f ((k : Int) - 500)) = q at *
      obtain ⟨v, hv⟩ : ∃ v, v = (k : Int) - 500 := ⟨_, rfl⟩
      rw [← hv] at i1 i2 hf ⊢
      obtain ⟨a, b⟩ := q
      dsimp only at i1 i2 ⊢
      refine ⟨fun T h1 h2 h3 => ?_, .inr ?_⟩
      · by_cases hT : T = v
        · subst hT
          split <;> omega
        · have := i1 T h1 (by omega) h3
          split <;> omega
      · rcases i2 with i2 | ⟨j1, j2, j3⟩
        · cases i2
          have hlt : v < 1001 := by omega
          rw [if_pos hlt]
          exact ⟨by omega, hf, hf⟩
        · rw [if_neg (by omega)]
          exact ⟨by omega, j2, hf⟩
/-- What Safe answers: a span, an error; whether a temperature is within. -/
theorem safe_nums {a0 a1 a2 a3 a4 a5 : Int} (h : OkLine a0 a1 a2 a3 a4 a5) : ∃ lo hi e1 : Int, (e1 = 0 ∨ e1 = 9) ∧ (∀ T, -500 ≤ T → T ≤ 1000 → ((e1 = 0 ∧ lo ≤ T ∧ T ≤ hi) ↔ safeAt a0 a1 a2 a3 a4 a5 T = true)) ∧
    ∀ w e w', SafeIs (safeAt a0 a1 a2 a3 a4 a5) w e w' → e = .returned (.tuple #[.agg #[.int .i64 lo, .int .i64 hi], .int .i64 e1]) ∧ Below w.heap.size w w' := by
  have hs := span_in (safeAt a0 a1 a2 a3 a4 a5) 1501 (Nat.le_refl _)
  have e0 : ((1501 : Nat) : Int) - 500 = 1001 := by decide
  rw [e0] at hs
  unfold SafeIs
  generalize spanOf (upS (safeAt a0 a1 a2 a3 a4 a5) 1001) = p at *
  obtain ⟨lo, hi⟩ := p
  dsimp only at hs ⊢
  obtain ⟨i1, i2⟩ := hs
  by_cases hlt : lo > hi
  · refine ⟨0, 0, 9, .inr rfl, fun T h1 h2 => ⟨fun h => by omega, fun h => ?_⟩, fun w e w' he => ?_⟩
    · have := i1 T h1 (by omega) h
      omega
    · rw [if_pos hlt] at he; exact he
  · refine ⟨lo, hi, 0, .inl rfl, fun T h1 h2 => ⟨fun hT => ?_, fun hT => ⟨rfl, i1 T h1 (by omega) hT⟩⟩, fun w e w' he => ?_⟩
    · rcases i2 with i2 | ⟨j1, j2, j3⟩
      · cases i2; omega
      · exact safe_between h hT.2.1 hT.2.2 j2 j3
    · rw [if_neg hlt] at he; exact he

/-- A pulse and no other: what turns it back. -/
def oneS (W : Nat) : List Int := 1 :: List.replicate (W - 1) 0
theorem oneS_length {W : Nat} (h : 1 ≤ W) : (oneS W).length = W := by simp [oneS]; omega
theorem oneS_valid {W : Nat} {z : Int} (h : z ∈ oneS W) : z = 0 ∨ z = 1 := by
  rcases List.mem_cons.1 h with rfl | h
  · exact .inr rfl
  · exact .inl (List.eq_of_mem_replicate h)
theorem bitsOf_zero (b : Nat) : bitsOf b 0 = List.replicate b false := by
  induction b with
  | zero => rfl
  | succ b ih => rw [bitsOf_succ, ih, Int.zero_ediv, List.replicate_succ']; rfl
theorem pulses_zeros (b : Nat) : ∀ n : Nat, pulsesOf b (List.replicate n 0) = List.replicate (n * b) false
  | 0 => by simp [pulsesOf]
  | n + 1 => by
    have ih := pulses_zeros b n
    unfold pulsesOf at ih ⊢
    rw [List.replicate_succ, List.flatMap_cons, ih, bitsOf_zero, List.replicate_append_replicate, Nat.add_mul, Nat.one_mul, Nat.add_comm]
theorem bitsOf_one : ∀ b : Nat, bitsOf (b + 1) 1 = true :: List.replicate b false
  | 0 => rfl
  | b + 1 => by
    rw [bitsOf_succ, bitsOf_one b]
    have : (1 : Int) / 2 ^ (b + 1) = 0 := Int.ediv_eq_zero_of_lt (by decide) (by
      have h1 : (2 : Int) ^ (b + 1) = ((2 ^ (b + 1) : Nat) : Int) := by simp
      have h2 : 2 ^ 1 ≤ 2 ^ (b + 1) := Nat.pow_le_pow_right (by decide) (by omega)
      omega)
    rw [this, List.cons_append, List.replicate_succ']
    rfl
theorem pulses_one {b W : Nat} (hb : 0 < b) (hW : 0 < W) : pulsesOf b (oneS W) = true :: List.replicate (W * b - 1) false := by
  have hz := pulses_zeros b (W - 1)
  obtain ⟨c, rfl⟩ : ∃ c, b = c + 1 := ⟨b - 1, by omega⟩
  obtain ⟨V, rfl⟩ : ∃ V, W = V + 1 := ⟨W - 1, by omega⟩
  unfold pulsesOf oneS at *
  rw [List.flatMap_cons, hz, bitsOf_one, List.cons_append, List.replicate_append_replicate]
  congr 2
  rw [Nat.add_sub_cancel, Nat.add_mul V 1 (c + 1)]
  omega
theorem valOf_odd (x : Bool) (xs : List Bool) : valOf (x :: xs) % 2 = bitN x := by
  unfold valOf
  cases x <;> simp [bitN] <;> omega
theorem one_turned {b W : Nat} (hb : 0 < b) (hW : 0 < W) (k : Nat) (hk : k < W * b) (h : wordsOf b W (rot k (pulsesOf b (oneS W))) = oneS W) : k = 0 := by
  have hlen : (pulsesOf b (oneS W)).length = W * b := by rw [pulsesOf_length, oneS_length hW]
  have h0 := congrArg (fun l : List Int => l[0]?) h
  rw [show (oneS W)[0]? = some 1 from rfl] at h0
  rw [wordsOf_get b W _ 0 hW] at h0
  have hl2 : (rot k (pulsesOf b (oneS W))).length = W * b := by rw [rot_length, hlen]
  have hg := rot_get k (pulsesOf b (oneS W)) (by omega) 0 (by omega)
  rw [hlen] at hg
  have hwa : wordAt b (rot k (pulsesOf b (oneS W))) 0 = (rot k (pulsesOf b (oneS W))).take b := by unfold wordAt; rw [Nat.zero_mul, List.drop_zero]
  rw [hwa] at h0
  generalize hR : rot k (pulsesOf b (oneS W)) = R at *
  cases R with
  | nil => simp at hl2; have := Nat.mul_pos hW hb; omega
  | cons x xs =>
    obtain ⟨c, rfl⟩ : ∃ c, b = c + 1 := ⟨b - 1, by omega⟩
    rw [List.take_succ_cons] at h0
    have hv := valOf_odd x (xs.take c)
    have h1 : valOf (x :: xs.take c) = 1 := by
      injection h0 with h0
      omega
    rw [h1] at hv
    cases x with
    | false => simp [bitN] at hv
    | true =>
      by_cases hk0 : k = 0
      · exact hk0
      · exfalso
        rw [pulses_one (by omega) hW] at hg
        have e : (0 + W * (c + 1) - k) % (W * (c + 1)) = W * (c + 1) - k := by rw [Nat.zero_add]; exact Nat.mod_eq_of_lt (by omega)
        rw [e] at hg
        obtain ⟨j, hj⟩ : ∃ j, W * (c + 1) - k = j + 1 := ⟨W * (c + 1) - k - 1, by omega⟩
        rw [hj, List.getElem?_cons_succ, List.getElem?_replicate] at hg
        simp at hg
theorem tmod_zero_iff {s : Int} {n : Nat} (hn : 0 < n) : s.tmod n = 0 ↔ (s % (n : Int)).toNat = 0 := by
  have h1 := Int.emod_nonneg s (by omega : (n : Int) ≠ 0)
  have e : (s % (n : Int)).toNat = 0 ↔ s % (n : Int) = 0 := by omega
  rw [e, ← Int.dvd_iff_tmod_eq_zero, Int.dvd_iff_emod_eq_zero]
theorem one_round {b W : Nat} (hb : 0 < b) (hW : 0 < W) (hb40 : b ≤ 40) (s : Int) : intsEq (wordsOf b W (rot (s % ((W * b : Nat) : Int)).toNat (pulsesOf b (oneS W)))) (oneS W) = decide (s.tmod ((W * b : Nat) : Int) = 0) := by
  have hn : 0 < W * b := Nat.mul_pos hW hb
  unfold intsEq
  refine decide_eq_decide.2 ⟨fun h => ?_, fun h => ?_⟩
  · rw [tmod_zero_iff hn]
    exact one_turned hb hW _ (toNat_mod hn) h
  · rw [tmod_zero_iff hn] at h
    rw [h, rot_zero]
    have := words_back b hb (oneS W) (fun z hz => by
      have h2 : 2 ^ 1 ≤ 2 ^ b := Nat.pow_le_pow_right (by decide) (by omega)
      have h1 : (2 : Int) ^ b = ((2 ^ b : Nat) : Int) := by simp
      rcases oneS_valid hz with rfl | rfl <;> omega)
    rw [oneS_length hW] at this
    exact this
theorem zeros_one (W : Nat) (hW : 0 < W) : intsEq (List.replicate W 0) (oneS W) = false := by
  obtain ⟨V, rfl⟩ : ∃ V, W = V + 1 := ⟨W - 1, by omega⟩
  unfold intsEq oneS
  rw [List.replicate_succ]
  simp
theorem one_words {b W : Nat} (hb : 1 ≤ b ∧ b ≤ 40) (hW : 0 < W) : (oneS W).all (wordB b) = true := by
  rw [List.all_eq_true]
  intro z hz
  have h2 : 2 ^ 1 ≤ 2 ^ b := Nat.pow_le_pow_right (by decide) (by omega)
  have h1 : (2 : Int) ^ b = ((2 ^ b : Nat) : Int) := by simp
  simp only [wordB, Bool.and_eq_true, decide_eq_true_eq, Int.toNat_natCast]
  rcases oneS_valid hz with rfl | rfl <;> omega
theorem one_err {b W : Nat} (hb : 1 ≤ b ∧ b ≤ 40) (hW : 0 < W) : wordsErr W b (oneS W) = 0 := by
  unfold wordsErr wordsE
  rw [if_pos (by rw [oneS_length hW]), if_pos (one_words hb hW)]
theorem passOf_one (b W : Nat) (x : Int × Bool) (bs : List Bool) : passOf b W [x] bs = if x.2 then (List.replicate W 0, 0) else (wordsOf b W (rot (x.1 % (bs.length : Int)).toNat bs), -1) := by
  unfold passOf
  cases hx : x.2 with
  | true => simp [List.findIdx?_cons, hx]
  | false => simp [List.findIdx?_cons, hx, rotAll]
end Go.Proofs.Ytplipfcnjmgicaa
