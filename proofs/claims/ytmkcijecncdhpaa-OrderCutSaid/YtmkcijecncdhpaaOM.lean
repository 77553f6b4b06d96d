/-
  ARITHMETIC OF THE MACHINE: masks, places, packed words, products. No statement is proved here.
-/
import Derived.Test.YtmkcijecncdhpaaMem
namespace Go.Proofs.Ytmkcijecncdhpaa
open Go.RowKit
set_option linter.unusedVariables false
set_option linter.unusedSimpArgs false

/-- '&' with a mask of k ones. -/
theorem band_mask (x : Int) (k : Nat) (hk : k ≤ 62) : bits .and .i64 x ((2 ^ k - 1 : Nat) : Int) = x % ((2 ^ k : Nat) : Int) := by
  have hp : 2 ^ k ≤ 2 ^ 62 := Nat.pow_le_pow_right (by decide) hk
  have hp0 : 0 < 2 ^ k := Nat.pow_pos (by decide)
  have h1 : (BitVec.ofInt 64 x).toNat = (x % ((2 ^ 64 : Nat) : Int)).toNat := BitVec.toNat_ofInt ..
  have h2 : (BitVec.ofInt 64 ((2 ^ k - 1 : Nat) : Int)).toNat = 2 ^ k - 1 := by rw [BitVec.ofInt_natCast, BitVec.toNat_ofNat]; exact Nat.mod_eq_of_lt (by omega)
  show IntKind.i64.wrap ((BitVec.ofInt 64 x &&& BitVec.ofInt 64 ((2 ^ k - 1 : Nat) : Int)).toNat : Int) = _
  rw [BitVec.toNat_and, h1, h2, Nat.and_two_pow_sub_one_eq_mod]
  have h3 : (((x % ((2 ^ 64 : Nat) : Int)).toNat % 2 ^ k : Nat) : Int) = x % ((2 ^ k : Nat) : Int) := by
    rw [Int.natCast_emod, Int.toNat_of_nonneg (Int.emod_nonneg _ (by decide))]
    refine Int.emod_emod_of_dvd _ ?_
    refine Int.natCast_dvd_natCast.2 (Nat.pow_dvd_pow 2 (by omega))
  rw [h3, IntKind.wrap_i64]
  have := Int.emod_nonneg x (b := ((2 ^ k : Nat) : Int)) (by omega)
  have := Int.emod_lt_of_pos x (b := ((2 ^ k : Nat) : Int)) (by omega)
  omega
theorem band_15 (x : Int) : bits .and .i64 x 15 = x % 16 := band_mask x 4 (by decide)
theorem band_127 (x : Int) : bits .and .i64 x 127 = x % 128 := band_mask x 7 (by decide)
theorem band_word (x : Int) : bits .and .i64 x 16777215 = x % 16777216 := band_mask x 24 (by decide)
theorem wrap_in {x : Int} (h1 : -9223372036854775808 ≤ x) (h2 : x ≤ 9223372036854775807) : wrap64 x = x := by unfold wrap64; omega
/-- '|' behind a shift by seven. -/
theorem bor_pack (p n : Int) (hp : 0 ≤ p) (hp2 : p < 1000000000000) (hn : 0 ≤ n ∧ n < 128) : bits .or .i64 (wrap64 (p * 128)) n = p * 128 + n := by
  have hw : wrap64 (p * 128) = p * 128 := wrap_in (by omega) (by omega)
  rw [hw]
  have h := bor64 (p * 128).toNat n.toNat (by omega) (by omega)
  rw [Int.toNat_of_nonneg (by omega), Int.toNat_of_nonneg (by omega)] at h
  rw [h]
  have e : (p * 128).toNat = 2 ^ 7 * p.toNat := by omega
  rw [e, ← Nat.two_pow_add_eq_or_of_lt (by omega : n.toNat < 2 ^ 7)]
  omega

/-- The word of an order. -/
def packO (a b c d : Int) : Int := ((a * 128 + b) * 128 + c) * 128 + d
def opO (x : Int) : Int := x / 2097152 % 128
def fromO (x : Int) : Int := x / 16384 % 128
def toO (x : Int) : Int := x / 128 % 128
def nextO (x : Int) : Int := x % 128
/-- The first minor cycle after t in which the word at a comes by. -/
def aft (t a : Int) : Int := t + 1 + (a - t - 1) % 16
theorem aft_bd (t a : Int) : t + 1 ≤ aft t a ∧ aft t a ≤ t + 16 := by unfold aft; omega
theorem aft_mod (t a : Int) : aft t a % 16 = a % 16 := by unfold aft; omega
def signO (x : Int) : Int := if 8388608 ≤ x then x - 16777216 else x
def wordB (z : Int) : Bool := decide (0 ≤ z) && decide (z ≤ 16777215)
def addrB (z : Int) : Bool := decide (0 ≤ z) && decide (z ≤ 127)
def inB (g z : Int) : Bool := decide (0 ≤ z) && decide (z ≤ g)
theorem inB_t {g z : Int} (h : 0 ≤ z ∧ z ≤ g) : inB g z = true := by unfold inB; simp [h.1, h.2]
theorem inB_f {g z : Int} (h : ¬ (0 ≤ z ∧ z ≤ g)) : inB g z = false := by unfold inB; simp; omega
/-- The order's numbers are as stated. -/
structure OkOrder (a b c d : Int) : Prop where
  op : 0 ≤ a ∧ a ≤ 7
  from_ : 0 ≤ b ∧ b ≤ 127
  to_ : 0 ≤ c ∧ c ≤ 127
  next : 0 ≤ d ∧ d ≤ 127
instance (a b c d : Int) : Decidable (OkOrder a b c d) := decidable_of_iff ((0 ≤ a ∧ a ≤ 7) ∧ (0 ≤ b ∧ b ≤ 127) ∧ (0 ≤ c ∧ c ≤ 127) ∧ 0 ≤ d ∧ d ≤ 127) ⟨fun ⟨p, q, r, s⟩ => ⟨p, q, r, s⟩, fun ⟨p, q, r, s⟩ => ⟨p, q, r, s⟩⟩
theorem packO_bd {a b c d : Int} (h : OkOrder a b c d) : 0 ≤ packO a b c d ∧ packO a b c d ≤ 16777215 := by
  obtain ⟨h1, h2, h3, h4⟩ := h
  unfold packO; omega
theorem unpack_pack {a b c d : Int} (h : OkOrder a b c d) : opO (packO a b c d) = a ∧ fromO (packO a b c d) = b ∧ toO (packO a b c d) = c ∧ nextO (packO a b c d) = d := by
  obtain ⟨h1, h2, h3, h4⟩ := h
  unfold opO fromO toO nextO packO; omega
theorem pack_unpack {x : Int} (h : 0 ≤ x ∧ x ≤ 16777215) : packO (opO x) (fromO x) (toO x) (nextO x) = x := by
  unfold opO fromO toO nextO packO; omega
theorem unpack_ok {x : Int} (h : 0 ≤ x ∧ x ≤ 16777215) : OkOrder (opO x) (fromO x) (toO x) (nextO x) := by
  unfold opO fromO toO nextO; exact ⟨by omega, by omega, by omega, by omega⟩
theorem signO_bd {x : Int} (h : 0 ≤ x ∧ x ≤ 16777215) : -8388608 ≤ signO x ∧ signO x < 8388608 := by unfold signO; split <;> omega

/-- What an order waits for: an address, and how long the machine is busy before. -/
def waitsO (op f t : Int) : List (Int × Int) :=
  if op = 5 ∨ op = 7 then [(f, 0)] else if op = 6 then [(t, 0)] else if op = 4 then [(f, 0), (t, 0), (t, 12)] else [(f, 0), (t, 0)]
/-- The minor cycles in which words come by. -/
def cycs : Int → List (Int × Int) → List Int
  | _, [] => []
  | t, (a, b) :: r => aft (t + b) a :: cycs (aft (t + b) a) r
def lastC : Int → List (Int × Int) → Int
  | t, [] => t
  | t, (a, b) :: r => lastC (aft (t + b) a) r
theorem lastC_append (t : Int) : ∀ (l r : List (Int × Int)) , lastC t (l ++ r) = lastC (lastC t l) r := by
  intro l
  induction l generalizing t with
  | nil => intro r; rfl
  | cons x l ih => intro r; exact ih _ r
theorem cycs_length (t : Int) : ∀ l : List (Int × Int), (cycs t l).length = l.length := by
  intro l
  induction l generalizing t with
  | nil => rfl
  | cons x l ih => simp [cycs, ih]
def atO (op t n : Int) (neg : Bool) : Int := if op = 5 ∧ neg = true then t else n
def untilO (op f t n time : Int) (neg : Bool) : Int := lastC time (waitsO op f t ++ [(atO op t n neg, 0)])
end Go.Proofs.Ytmkcijecncdhpaa
