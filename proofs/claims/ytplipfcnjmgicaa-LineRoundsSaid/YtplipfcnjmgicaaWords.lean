/-
  ARITHMETIC OF PULSES AND WORDS. No statement is proved here.
-/
import Derived.Test.YtplipfcnjmgicaaRows
namespace Go.Proofs.Ytplipfcnjmgicaa
set_option linter.unusedVariables false
set_option linter.unusedSimpArgs false

def bitN (x : Bool) : Nat := if x then 1 else 0
/-- The number that bits are, the least one first. -/
def valOf : List Bool → Nat
  | [] => 0
  | b :: l => bitN b + 2 * valOf l
theorem valOf_snoc : ∀ (l : List Bool) (x : Bool), valOf (l ++ [x]) = valOf l + 2 ^ l.length * bitN x
  | [], x => by simp [valOf]
  | b :: l, x => by
    simp only [List.cons_append, valOf, valOf_snoc l x, List.length_cons, Nat.pow_succ, Nat.mul_add]
    rw [Nat.mul_comm (2 ^ l.length) 2, Nat.mul_assoc]
    omega
theorem valOf_lt : ∀ l : List Bool, valOf l < 2 ^ l.length
  | [] => by simp [valOf]
  | b :: l => by
    have := valOf_lt l
    simp only [valOf, List.length_cons, Nat.pow_succ]
    have hb : bitN b ≤ 1 := by cases b <;> simp [bitN]
    omega
theorem valOf_zero : ∀ l : List Bool, (∀ x ∈ l, x = false) → valOf l = 0
  | [], _ => rfl
  | b :: l, h => by
    have hb := h b (by simp)
    subst hb
    simp [valOf, bitN, valOf_zero l (fun x hx => h x (by simp [hx]))]

/-- The bits of the word i. -/
def wordAt (b : Nat) (bs : List Bool) (i : Nat) : List Bool := (bs.drop (i * b)).take b
/-- The words of pulses. -/
def wordsOf (b W : Nat) (bs : List Bool) : List Int := (List.range W).map fun i => (valOf (wordAt b bs i) : Int)
theorem wordsOf_length (b W : Nat) (bs : List Bool) : (wordsOf b W bs).length = W := by simp [wordsOf]

theorem wordAt_get (b : Nat) (bs : List Bool) (i j : Nat) : (wordAt b bs i)[j]? = if j < b then bs[i * b + j]? else none := by
  unfold wordAt
  rw [List.getElem?_take]
  split <;> simp
theorem wordAt_length (b : Nat) (bs : List Bool) (i : Nat) : (wordAt b bs i).length = min b (bs.length - i * b) := by simp [wordAt]

theorem place_of {b k i j : Nat} (hb : 0 < b) (hj : j < b) (h : i * b + j = k) : i = k / b ∧ j = k % b := by
  subst h
  constructor
  · rw [Nat.mul_comm, Nat.mul_add_div hb, Nat.div_eq_of_lt hj]; omega
  · rw [Nat.mul_comm, Nat.mul_add_mod, Nat.mod_eq_of_lt hj]

theorem wordAt_far {b : Nat} (hb : 0 < b) (bs : List Bool) (k i : Nat) (hi : i ≠ k / b) : wordAt b (bs.take (k + 1)) i = wordAt b (bs.take k) i := by
  apply List.ext_getElem?
  intro j
  rw [wordAt_get, wordAt_get]
  split
  · rename_i hj
    rw [List.getElem?_take, List.getElem?_take]
    by_cases h : i * b + j = k
    · exact absurd (place_of hb hj h).1 hi
    · by_cases h1 : i * b + j < k
      · rw [if_pos (by omega), if_pos h1]
      · rw [if_neg (by omega), if_neg h1]
  · rfl
theorem wordAt_near {b : Nat} (hb : 0 < b) (bs : List Bool) (k : Nat) (hk : k < bs.length) : wordAt b (bs.take (k + 1)) (k / b) = wordAt b (bs.take k) (k / b) ++ [bs[k]] ∧ (wordAt b (bs.take k) (k / b)).length = k % b := by
  have hd := Nat.div_add_mod k b
  rw [Nat.mul_comm] at hd
  have hm := Nat.mod_lt k hb
  have hl : (wordAt b (bs.take k) (k / b)).length = k % b := by
    rw [wordAt_length, List.length_take]
    have : min k bs.length - k / b * b = k % b := by rw [Nat.min_eq_left (by omega)]; omega
    rw [this]; omega
  refine ⟨?_, hl⟩
  apply List.ext_getElem?
  intro j
  rw [wordAt_get, List.getElem?_append, hl, wordAt_get, List.getElem?_take, List.getElem?_take]
  by_cases h1 : j < k % b
  · rw [if_pos (by omega), if_pos (by omega), if_pos h1, if_pos (by omega), if_pos (by omega)]
  · rw [if_neg h1]
    by_cases h2 : j = k % b
    · subst h2
      rw [if_pos hm, if_pos (by omega), hd]
      simp [hk]
    · by_cases h3 : j < b
      · rw [if_pos h3, if_neg (by omega)]
        rw [List.getElem?_eq_none (by simp; omega)]
      · rw [if_neg h3, List.getElem?_eq_none (by simp; omega)]

/-- A pulse more. -/
theorem wordsOf_step {b W : Nat} (hb : 0 < b) (bs : List Bool) (k : Nat) (hk : k < bs.length) (hW : k / b < W) :
    wordsOf b W (bs.take (k + 1)) = (wordsOf b W (bs.take k)).set (k / b) ((valOf (wordAt b (bs.take k) (k / b)) : Int) + 2 ^ (k % b) * bitN bs[k]) := by
  apply List.ext_getElem?
  intro i
  rw [List.getElem?_set]
  unfold wordsOf
  simp only [List.getElem?_map, List.length_map, List.length_range, hW, if_true]
  by_cases hi : k / b = i
  · subst hi
    obtain ⟨e1, e2⟩ := wordAt_near hb bs k hk
    rw [if_pos rfl, List.getElem?_range hW]
    simp only [Option.map_some]
    rw [e1, valOf_snoc, e2]
    simp
  · rw [if_neg hi]
    by_cases h : i < W
    · rw [List.getElem?_range h]
      simp only [Option.map_some]
      rw [wordAt_far hb bs k i (fun e => hi e.symm)]
    · rw [List.getElem?_eq_none (by simpa using h)]; rfl
theorem set_self {α : Type} (l : List α) (i : Nat) (x : α) (h : l[i]? = some x) : l.set i x = l := by
  apply List.ext_getElem?
  intro j
  rw [List.getElem?_set]
  split
  · rename_i e
    subst e
    obtain ⟨hl, he⟩ := List.getElem?_eq_some_iff.1 h
    rw [if_pos hl, h]
  · rfl
theorem wordsOf_same {b W : Nat} (hb : 0 < b) (bs : List Bool) (k : Nat) (hk : k < bs.length) (hW : k / b < W) (hf : bs[k] = false) : wordsOf b W (bs.take (k + 1)) = wordsOf b W (bs.take k) := by
  rw [wordsOf_step hb bs k hk hW, hf]
  apply set_self
  unfold wordsOf
  rw [List.getElem?_map, List.getElem?_range hW]
  simp [bitN]
theorem wordsOf_nil (b W : Nat) : wordsOf b W [] = List.replicate W 0 := by
  apply List.ext_getElem?
  intro i
  unfold wordsOf
  simp only [List.getElem?_map, List.getElem?_replicate]
  by_cases h : i < W
  · rw [List.getElem?_range h, if_pos h]; simp [wordAt, valOf]
  · rw [List.getElem?_eq_none (by simpa using h), if_neg h]; rfl
theorem wordsOf_get (b W : Nat) (bs : List Bool) (i : Nat) (h : i < W) : (wordsOf b W bs)[i]? = some (valOf (wordAt b bs i) : Int) := by
  unfold wordsOf
  rw [List.getElem?_map, List.getElem?_range h]; rfl

theorem or_pow {a j : Nat} (h : a < 2 ^ j) : a ||| 2 ^ j = a + 2 ^ j := by
  have := Nat.two_pow_add_eq_or_of_lt h 1
  rw [Nat.mul_one] at this
  rw [Nat.or_comm, ← this, Nat.add_comm]

/-- The bits of the word i, from the beat m on. -/
def wordFrom (b : Nat) (bs : List Bool) (m i : Nat) : List Bool := (bs.drop (max m (i * b))).take ((i + 1) * b - max m (i * b))
def wordsFrom (b W : Nat) (bs : List Bool) (m : Nat) : List Int := (List.range W).map fun i => (valOf (wordFrom b bs m i) : Int)
theorem wordsFrom_length (b W : Nat) (bs : List Bool) (m : Nat) : (wordsFrom b W bs m).length = W := by simp [wordsFrom]
theorem wordsFrom_zero (b W : Nat) (bs : List Bool) : wordsFrom b W bs 0 = wordsOf b W bs := by
  unfold wordsFrom wordsOf wordFrom wordAt
  congr 1
  funext i
  have e1 : max 0 (i * b) = i * b := by omega
  have e2 : (i + 1) * b - i * b = b := by rw [Nat.add_mul]; omega
  rw [e1, e2]
theorem wordsFrom_end (b W : Nat) (bs : List Bool) (m : Nat) (h : bs.length ≤ m) : wordsFrom b W bs m = List.replicate W 0 := by
  apply List.ext_getElem?
  intro i
  unfold wordsFrom
  simp only [List.getElem?_map, List.getElem?_replicate]
  by_cases hi : i < W
  · rw [List.getElem?_range hi, if_pos hi]
    have : wordFrom b bs m i = [] := by
      unfold wordFrom
      rw [List.drop_eq_nil_of_le (by omega)]
      simp
    simp [this, valOf]
  · rw [List.getElem?_eq_none (by simpa using hi), if_neg hi]; rfl
theorem wordFrom_far {b : Nat} (hb : 0 < b) (bs : List Bool) (k i : Nat) (hi : i ≠ k / b) : wordFrom b bs k i = wordFrom b bs (k + 1) i := by
  have hd := Nat.div_add_mod k b
  have hm := Nat.mod_lt k hb
  unfold wordFrom
  rcases Nat.lt_or_ge i (k / b) with h | h
  · have h1 : (i + 1) * b ≤ k / b * b := Nat.mul_le_mul_right b h
    rw [Nat.mul_comm] at hd
    have e1 : (i + 1) * b - max k (i * b) = 0 := by omega
    have e2 : (i + 1) * b - max (k + 1) (i * b) = 0 := by omega
    rw [e1, e2]; simp
  · have h1 : (k / b + 1) * b ≤ i * b := Nat.mul_le_mul_right b (by omega)
    rw [Nat.add_mul] at h1
    rw [Nat.mul_comm] at hd
    have e1 : max k (i * b) = i * b := by omega
    have e2 : max (k + 1) (i * b) = i * b := by omega
    rw [e1, e2]
theorem wordFrom_near {b : Nat} (hb : 0 < b) (bs : List Bool) (k : Nat) (hk : k < bs.length) : wordFrom b bs k (k / b) = bs[k] :: wordFrom b bs (k + 1) (k / b) := by
  have hd := Nat.div_add_mod k b
  have hm := Nat.mod_lt k hb
  rw [Nat.mul_comm] at hd
  unfold wordFrom
  have e1 : max k (k / b * b) = k := by omega
  have e2 : max (k + 1) (k / b * b) = k + 1 := by omega
  rw [e1, e2, List.drop_eq_getElem_cons hk]
  have e3 : (k / b + 1) * b - k = ((k / b + 1) * b - (k + 1)) + 1 := by rw [Nat.add_mul]; omega
  rw [e3, List.take_succ_cons]
theorem wordsFrom_step {b W : Nat} (hb : 0 < b) (bs : List Bool) (k : Nat) (hk : k < bs.length) (hW : k / b < W) :
    wordsFrom b W bs k = (wordsFrom b W bs (k + 1)).set (k / b) (2 * (valOf (wordFrom b bs (k + 1) (k / b)) : Int) + bitN bs[k]) := by
  apply List.ext_getElem?
  intro i
  rw [List.getElem?_set]
  unfold wordsFrom
  simp only [List.getElem?_map, List.length_map, List.length_range, hW, if_true]
  by_cases hi : k / b = i
  · subst hi
    rw [if_pos rfl, List.getElem?_range hW]
    simp only [Option.map_some]
    rw [wordFrom_near hb bs k hk, valOf]
    congr 1
    omega
  · rw [if_neg hi]
    by_cases h : i < W
    · rw [List.getElem?_range h]
      simp only [Option.map_some]
      rw [wordFrom_far hb bs k i (fun e => hi e.symm)]
    · rw [List.getElem?_eq_none (by simpa using h)]; rfl
theorem wordsFrom_get (b W : Nat) (bs : List Bool) (m i : Nat) (h : i < W) : (wordsFrom b W bs m)[i]? = some (valOf (wordFrom b bs m i) : Int) := by
  unfold wordsFrom
  rw [List.getElem?_map, List.getElem?_range h]; rfl
theorem wordFrom_length (b : Nat) (bs : List Bool) (m i : Nat) : (wordFrom b bs m i).length ≤ b := by
  unfold wordFrom
  rw [List.length_take]
  have : (i + 1) * b - max m (i * b) ≤ b := by rw [Nat.add_mul]; omega
  omega
end Go.Proofs.Ytplipfcnjmgicaa
