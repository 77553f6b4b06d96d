/-
  MarginMeasured: the walk. No statement is proved here.
-/
import Derived.Test.YtgbignkkieoffaaMg14
import Derived.Test.YtgbignkkieoffaaMgLives
namespace Go.Proofs.Ytgbignkkieoffaa
open Go.RowKit Mg Go.Sort
set_option linter.unusedVariables false
set_option linter.unusedSimpArgs false

namespace Mg
theorem need_zero {k : Kd} (h : k.Ok) : need k.st 1000 = (stG k.st 0).2 := by
  have h0 := step_zero (h.steps 0 (by have := h.len; omega))
  have hp : pos 1000 k.st = 0 := pos_at (by have := h.len; omega) (fun j hj => by omega) (by omega)
  unfold need
  rw [hp]
/-- What is known of a strength after t hours of wear. -/
structure InvS (n lo hi l h : Int) (t : Nat) (s : Int) : Prop where
  in_ : 0 ≤ s ∧ s ≤ 1000000
  low : l - (t : Int) * hi ≤ s
  high : s ≤ max 0 (h - (t : Int) * lo)
  prev : 0 < t → n ≤ max 0 (h - ((t : Int) - 1) * lo)
theorem inv_start {n lo hi l h s : Int} (hs : 0 ≤ s ∧ s ≤ 1000000) (h1 : l ≤ s) (h2 : s ≤ h) : InvS n lo hi l h 0 s :=
  ⟨hs, by simp; omega, by simp; omega, fun h => by omega⟩
theorem inv_next {n lo hi l h s s' : Int} {t : Nat} (hw : 0 ≤ lo ∧ lo ≤ hi) (i : InvS n lo hi l h t s) (hn : n ≤ s) (h0 : 0 ≤ s' ∧ s' ≤ 1000000) (h1 : s - hi ≤ s') (h2 : s' ≤ max 0 (s - lo)) : InvS n lo hi l h (t + 1) s' := by
  obtain ⟨i1, i2, i3, i4⟩ := i
  have e1 : ((t + 1 : Nat) : Int) * hi = (t : Int) * hi + hi := by rw [Int.natCast_add, Int.add_mul]; omega
  have e2 : ((t + 1 : Nat) : Int) * lo = (t : Int) * lo + lo := by rw [Int.natCast_add, Int.add_mul]; omega
  have e3 : (((t + 1 : Nat) : Int) - 1) * lo = (t : Int) * lo := by congr 1; omega
  refine ⟨h0, ?_, ?_, fun _ => ?_⟩
  · rw [e1]; omega
  · rw [e2]; omega
  · rw [e3]; omega
theorem mul_nn {t : Nat} {lo : Int} (h : 0 ≤ lo) : 0 ≤ (t : Int) * lo := Int.mul_nonneg (by omega) h
theorem late_of {n lo h : Int} {t : Nat} (hlo : 0 ≤ lo) (hh : 0 ≤ h) (hn : 0 ≤ n) (hp : n ≤ max 0 (h - (t : Int) * lo)) : fb n h lo 0 < 0 ∨ (t : Int) < fb n h lo 0 := by
  have hm := mul_nn (t := t) hlo
  unfold fb
  by_cases h1 : h < n
  · exfalso
    omega
  · rw [if_neg h1]
    by_cases h2 : n = 0 ∨ lo = 0
    · rw [if_pos h2]
      left
      omega
    · rw [if_neg h2]
      right
      have := Int.le_ediv_of_mul_le (a := (t : Int)) (b := h - n) (c := lo) (by omega) (by omega)
      omega
theorem inv_end {n lo hi l h s : Int} {t : Nat} (hw : 0 ≤ lo ∧ lo ≤ hi) (hl : 0 ≤ l ∧ 0 ≤ h) (hn : 0 ≤ n) (i : InvS n lo hi l h t s) (hs : s < n) :
    0 ≤ fb n l hi 0 ∧ fb n l hi 0 ≤ t ∧ (fb n h lo 0 < 0 ∨ (t : Int) ≤ fb n h lo 0) := by
  obtain ⟨i1, i2, i3, i4⟩ := i
  have hE : 0 ≤ fb n l hi 0 ∧ fb n l hi 0 ≤ t := by
    unfold fb
    by_cases h1 : l < n
    · rw [if_pos h1]
      omega
    · rw [if_neg h1]
      have h3 : ¬ (n = 0 ∨ hi = 0) := by
        rintro (h | h)
        · omega
        · rw [h] at i2
          simp at i2
          omega
      rw [if_neg h3]
      have h4 := Int.ediv_nonneg (a := l - n) (b := hi) (by omega) (by omega)
      have h5 := Int.ediv_lt_of_lt_mul (a := l - n) (b := (t : Int)) (c := hi) (by omega) (by omega)
      omega
  refine ⟨hE.1, hE.2, ?_⟩
  rcases t with _ | t
  · show fb n h lo 0 < 0 ∨ (0 : Int) ≤ fb n h lo 0
    omega
  · have h6 := i4 (by omega)
    rw [show (((t + 1 : Nat) : Int) - 1) = (t : Int) by omega] at h6
    rcases late_of hw.1 hl.2 hn h6 with h7 | h7
    · exact .inl h7
    · right
      omega
theorem inv_out {n lo hi l h s : Int} (hw : 0 ≤ lo ∧ lo ≤ hi) (hl : 0 ≤ l ∧ 0 ≤ h) (hn : 0 ≤ n) (i : InvS n lo hi l h 801 s) : fb n h lo 0 < 0 ∨ 800 < fb n h lo 0 := by
  have h6 := i.prev (by omega)
  exact late_of (t := 800) hw.1 hl.2 hn h6
end Mg
/-- What stands in the statement's blocks. -/
structure MsW (W : World) (k : Kd) (A : Option Addr) (c : Nat) (F : Int) (B : Option Addr) (nb : Nat) (zs : List Int) (b : Nat) (s : Int × Int) (U : World) : Prop where
  kd : KdW W k A c U
  l2 : U.cell? ⟨W.heap.size + 1, 2, none⟩ = some (.int .u16 F)
  l3 : U.cell? ⟨W.heap.size + 1, 3, none⟩ = some (.slice B zs.length nb)
  e0 : U.cell? ⟨b, 0, none⟩ = some (.int .i64 s.1)
  e1 : U.cell? ⟨b, 1, none⟩ = some (.int .i64 s.2)
  lt1 : W.heap.size + 1 < U.heap.size
  lt2 : b < U.heap.size
  ws : ListAt (Value.int .u16) U U.heap.size B zs
theorem MsW.after {W U V : World} {k : Kd} {A : Option Addr} {c : Nat} {F : Int} {B : Option Addr} {nb : Nat} {zs : List Int} {b : Nat} {s : Int × Int} (h : MsW W k A c F B nb zs b s U) (hb : Below U.heap.size U V) : MsW W k A c F B nb zs b s V :=
  ⟨h.kd.after hb, (hb.cell (p := ⟨W.heap.size + 1, 2, none⟩) h.lt1).trans h.l2, (hb.cell (p := ⟨W.heap.size + 1, 3, none⟩) h.lt1).trans h.l3, (hb.cell (p := ⟨b, 0, none⟩) h.lt2).trans h.e0, (hb.cell (p := ⟨b, 1, none⟩) h.lt2).trans h.e1, Nat.lt_of_lt_of_le h.lt1 hb.size, Nat.lt_of_lt_of_le h.lt2 hb.size, (h.ws.below hb).more hb.size⟩
end Go.Proofs.Ytgbignkkieoffaa
