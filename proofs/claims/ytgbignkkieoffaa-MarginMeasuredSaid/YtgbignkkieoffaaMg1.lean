/-
  KINDS OF VALVES, in numbers: errors, what is needed, spans. No statement is proved here.
-/
import Derived.Test.YtgbignkkieoffaaMem
namespace Go.Proofs.Ytgbignkkieoffaa
open Go.RowKit
set_option linter.unusedVariables false
set_option linter.unusedSimpArgs false

namespace Mg
/-- The first one of some numbers that is not 0. -/
def fe (f : Nat → Int) : Nat → Nat → Int
  | 0, _ => 0
  | m + 1, i => if f i = 0 then fe f m (i + 1) else f i
theorem fe_skip (f : Nat → Int) : ∀ (k n i : Nat), k ≤ n → (∀ j, j < k → f (i + j) = 0) → fe f n i = fe f (n - k) (i + k)
  | 0, n, i, _, _ => by simp
  | k + 1, 0, i, h, _ => by omega
  | k + 1, n + 1, i, h, h0 => by
    have h1 : f i = 0 := h0 0 (by omega)
    show (if f i = 0 then fe f n (i + 1) else f i) = _
    rw [if_pos h1, fe_skip f k n (i + 1) (by omega) (fun j hj => by rw [show i + 1 + j = i + (j + 1) by omega]; exact h0 (j + 1) (by omega))]
    congr 1 <;> omega
theorem fe_at {f : Nat → Int} {n k : Nat} (hk : k < n) (h0 : ∀ j, j < k → f j = 0) (h : f k ≠ 0) : fe f n 0 = f k := by
  rw [fe_skip f k n 0 (by omega) (fun j hj => by rw [Nat.zero_add]; exact h0 j hj)]
  obtain ⟨m, hm⟩ : ∃ m, n - k = m + 1 := ⟨n - k - 1, by omega⟩
  rw [hm, Nat.zero_add]
  show (if f k = 0 then _ else f k) = _
  rw [if_neg h]
theorem fe_none {f : Nat → Int} {n : Nat} (h0 : ∀ j, j < n → f j = 0) : fe f n 0 = 0 := by
  rw [fe_skip f n n 0 (by omega) (fun j hj => by rw [Nat.zero_add]; exact h0 j hj), Nat.sub_self]
  rfl
theorem fe_zero {f : Nat → Int} : ∀ {n i : Nat}, fe f n i = 0 → ∀ j, j < n → f (i + j) = 0
  | 0, i, _, j, hj => by omega
  | n + 1, i, h, j, hj => by
    have h' : (if f i = 0 then fe f n (i + 1) else f i) = 0 := h
    split at h'
    · rename_i h1
      rcases j with _ | j
      · exact h1
      · have := fe_zero h' j (by omega)
        rwa [show i + 1 + j = i + (j + 1) by omega] at this
    · rename_i h1
      exact absurd h' h1

def inS (lo hi n : Int) : Bool := decide (lo ≤ n) && decide (n ≤ hi)
theorem inS_iff {lo hi n : Int} : inS lo hi n = true ↔ lo ≤ n ∧ n ≤ hi := by unfold inS; simp
theorem inS_not {lo hi n : Int} : inS lo hi n = false ↔ ¬ (lo ≤ n ∧ n ≤ hi) := by
  rw [← inS_iff]
  cases inS lo hi n <;> simp

abbrev VN := Int × Int
/-- The error of numbers that have to be from lo to hi. -/
def numErr (lo hi : Int) (zs : List Int) : Int := if zs.all (inS lo hi) then 0 else 7
def stG (st : List VN) (i : Nat) : VN := st.getD i (0, 0)
/-- The error of one of some steps. -/
def stepErr (st : List VN) (i : Nat) : Int :=
  if inS 0 1000 (stG st i).1 && inS 0 1000000 (stG st i).2 then
    (if (if i = 0 then decide ((stG st i).1 = 1000) else decide ((stG st i).1 < (stG st (i - 1)).1) && decide ((stG st (i - 1)).2 ≤ (stG st i).2)) then 0 else 2)
  else 7
structure Kd where
  new : Int
  lo : Int
  hi : Int
  st : List VN
/-- The error of a kind. -/
def Kd.err (k : Kd) : Int :=
  if inS 1 1000000 k.new && (inS 0 1000 k.lo && inS 0 1000 k.hi) then
    (if k.lo ≤ k.hi then (if 1 ≤ k.st.length ∧ k.st.length ≤ 8 then fe (stepErr k.st) k.st.length 0 else 3) else 2)
  else 7
/-- What a kind without an error is like. -/
structure Kd.Ok (k : Kd) : Prop where
  new : 1 ≤ k.new ∧ k.new ≤ 1000000
  wear : 0 ≤ k.lo ∧ k.lo ≤ k.hi ∧ k.hi ≤ 1000
  len : 1 ≤ k.st.length ∧ k.st.length ≤ 8
  steps : ∀ j, j < k.st.length → stepErr k.st j = 0
theorem Kd.ok_of {k : Kd} (h : k.err = 0) : k.Ok := by
  unfold Kd.err at h
  split at h
  · rename_i h1
    simp only [Bool.and_eq_true, inS_iff] at h1
    split at h
    · rename_i h2
      split at h
      · rename_i h3
        refine ⟨h1.1, ⟨h1.2.1.1, h2, h1.2.2.2⟩, h3, fun j hj => ?_⟩
        have := fe_zero h j hj
        rwa [Nat.zero_add] at this
      · omega
    · omega
  · omega
theorem Kd.Ok.err {k : Kd} (h : k.Ok) : k.err = 0 := by
  obtain ⟨h1, h2, h3, h4⟩ := h
  unfold Kd.err
  rw [if_pos (by simp only [Bool.and_eq_true, inS_iff]; omega), if_pos (by omega), if_pos h3]
  exact fe_none h4
/-- The place of the first step whose voltage is at most one. -/
def pos (volt : Int) : List VN → Nat
  | [] => 0
  | s :: r => if s.1 ≤ volt then 0 else pos volt r + 1
theorem pos_at {volt : Int} : ∀ {st : List VN} {k : Nat}, k < st.length → (∀ j, j < k → ¬ (stG st j).1 ≤ volt) → (stG st k).1 ≤ volt → pos volt st = k
  | [], k, h, _, _ => by simp at h
  | s :: r, 0, _, _, h => by
    show (if s.1 ≤ volt then 0 else _) = _
    exact if_pos h
  | s :: r, k + 1, hk, h0, h => by
    show (if s.1 ≤ volt then 0 else pos volt r + 1) = _
    rw [if_neg (show ¬ s.1 ≤ volt from h0 0 (by omega)), pos_at (st := r) (k := k) (by simpa using hk) (fun j hj => h0 (j + 1) (by omega)) h]
/-- What is needed at a voltage. -/
def need (st : List VN) (volt : Int) : Int := (stG st (pos volt st)).2
def lastV (st : List VN) : Int := (stG st (st.length - 1)).1
def voltB (st : List VN) (volt : Int) : Bool := inS (lastV st) 1000 volt
theorem step_zero {st : List VN} {i : Nat} (h : stepErr st i = 0) : (0 ≤ (stG st i).1 ∧ (stG st i).1 ≤ 1000) ∧ (0 ≤ (stG st i).2 ∧ (stG st i).2 ≤ 1000000) ∧ (i = 0 → (stG st i).1 = 1000) ∧ (i ≠ 0 → (stG st i).1 < (stG st (i - 1)).1 ∧ (stG st (i - 1)).2 ≤ (stG st i).2) := by
  unfold stepErr at h
  split at h
  · rename_i h1
    simp only [Bool.and_eq_true, inS_iff] at h1
    refine ⟨h1.1, h1.2, ?_, ?_⟩
    · intro hi
      rw [if_pos hi] at h
      split at h
      · rename_i h2
        exact of_decide_eq_true h2
      · omega
    · intro hi
      rw [if_neg hi] at h
      split at h
      · rename_i h2
        simp only [Bool.and_eq_true, decide_eq_true_eq] at h2
        exact h2
      · omega
  · omega
end Mg
/-- The slice value '.slice A n c' reads as a list of pairs, in a block below B. -/
def PairsAt (w : World) (B : Nat) (A : Option Addr) (zs : List (Int × Int)) : Prop :=
  0 < zs.length → ∃ ad, A = some ad ∧ ad.block < B ∧ ∀ (j : Nat) (h : j < zs.length), w.cell? (ad.add (j * 2)) = some (.int .i64 zs[j].1) ∧ w.cell? ((ad.add (j * 2)).add 1) = some (.int .i64 zs[j].2)
section
variable {w w' : World} {B C : Nat} {A : Option Addr} {zs : List (Int × Int)}
theorem PairsAt.nil (w : World) (B : Nat) (A : Option Addr) : PairsAt w B A [] := fun h => by simp at h
theorem PairsAt.below (h : PairsAt w B A zs) (hb : Below B w w') : PairsAt w' B A zs := fun h0 => by
  obtain ⟨ad, e, hlt, hc⟩ := h h0
  exact ⟨ad, e, hlt, fun j hj => ⟨(hb.cell (p := ad.add (j * 2)) (by rw [add_block]; exact hlt)).trans (hc j hj).1, (hb.cell (p := (ad.add (j * 2)).add 1) (by rw [add_block, add_block]; exact hlt)).trans (hc j hj).2⟩⟩
theorem PairsAt.more (h : PairsAt w B A zs) (hB : B ≤ C) : PairsAt w C A zs := fun h0 => by
  obtain ⟨ad, e, hlt, hc⟩ := h h0
  exact ⟨ad, e, by omega, hc⟩
theorem PairsAt.at_ (h : PairsAt w B A zs) {k : Nat} (hk : k < zs.length) : ∃ ad, A = some ad ∧ ad.block < B ∧ w.cell? (ad.add (k * 2)) = some (.int .i64 (Mg.stG zs k).1) ∧ w.cell? ⟨(ad.add (k * 2)).block, (ad.add (k * 2)).off + 1, none⟩ = some (.int .i64 (Mg.stG zs k).2) := by
  obtain ⟨ad, e, hlt, hc⟩ := h (by omega)
  have hg : Mg.stG zs k = zs[k] := by simp [Mg.stG, List.getD, hk]
  rw [hg]
  exact ⟨ad, e, hlt, (hc k hk).1, by simpa [Addr.add] using (hc k hk).2⟩
end
/-- A kind's steps lie in the memory. -/
structure KindAt (w : World) (A : Option Addr) (k : Mg.Kd) : Prop where
  len : k.st.length ≤ maxLen
  at_ : PairsAt w w.heap.size A k.st
  wf0 : (Lit.int .i64 k.new).wf = true
  wf1 : (Lit.int .i64 k.lo).wf = true
  wf2 : (Lit.int .i64 k.hi).wf = true
  wfs : ∀ z ∈ k.st, (Lit.int .i64 z.1).wf = true ∧ (Lit.int .i64 z.2).wf = true
theorem KindAt.below {w w' : World} {A : Option Addr} {k : Mg.Kd} (h : KindAt w A k) (hb : Below w.heap.size w w') : KindAt w' A k :=
  ⟨h.len, (h.at_.below hb).more hb.size, h.wf0, h.wf1, h.wf2, h.wfs⟩
abbrev kdV (k : Mg.Kd) (A : Option Addr) (c : Nat) : Value := .agg #[.int .i64 k.new, .int .i64 k.lo, .int .i64 k.hi, .slice A k.st.length c]
end Go.Proofs.Ytgbignkkieoffaa
