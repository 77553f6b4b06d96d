/-
  CONTRACT OF Life of the program. No statement is proved here.
-/
import Derived.Test.YtgbignkkieoffaaMg9
namespace Go.Proofs.Ytgbignkkieoffaa
open Go.RowKit Mg Go.Sort
set_option linter.unusedVariables false
set_option linter.unusedSimpArgs false

namespace Mg
/-- What is left of a valve that passed at a step, and failed at the next one. -/
def lifeS (k : Kd) (i : Nat) : Int × Int := ((stG k.st i).2, if i + 1 < k.st.length then min k.new ((stG k.st (i + 1)).2 - 1) else k.new)
def Kd.lifeErr (k : Kd) (step : Int) : Int :=
  if k.err = 0 then (if 0 ≤ step ∧ step < k.st.length then (if (lifeS k step.toNat).1 ≤ (lifeS k step.toNat).2 then 0 else 9) else 4) else k.err
def Kd.lifeV (k : Kd) (step : Int) : Int × Int := if k.lifeErr step = 0 then failV k (lifeS k step.toNat) 0 else (0, 0)
end Mg
def LifeOut (w : World) (k : Kd) (step : Int) (e : Ending) (w' : World) : Prop := e = .returned (.tuple #[pairV (k.lifeV step), .int .i64 (k.lifeErr step)]) ∧ Below w.heap.size w w'
/-- A valve in a block of its own, whose span can be written. -/
structure VbW (b : Nat) (k : Kd) (A : Option Addr) (c : Nat) (hour : Int) (s : Int × Int) (U : World) : Prop where
  c0 : U.cell? ⟨b, 0, none⟩ = some (.int .i64 k.new)
  c1 : U.cell? ⟨b, 1, none⟩ = some (.int .i64 k.lo)
  c2 : U.cell? ⟨b, 2, none⟩ = some (.int .i64 k.hi)
  c3 : U.cell? ⟨b, 3, none⟩ = some (.slice A k.st.length c)
  c4 : U.cell? ⟨b, 4, none⟩ = some (.int .i64 hour)
  c5 : U.cell? ⟨b, 5, none⟩ = some (.int .i64 s.1)
  c6 : U.cell? ⟨b, 6, none⟩ = some (.int .i64 s.2)
  f5 : U.frozen? ⟨b, 5, none⟩ = false
  f6 : U.frozen? ⟨b, 6, none⟩ = false
  lt : b < U.heap.size
theorem VbW.after {b : Nat} {U V : World} {k : Kd} {A : Option Addr} {c : Nat} {hour : Int} {s : Int × Int} (h : VbW b k A c hour s U) (hb : Below U.heap.size U V) : VbW b k A c hour s V :=
  have hs := h.lt
  have e : ∀ j, V.cell? ⟨b, j, none⟩ = U.cell? ⟨b, j, none⟩ := fun j => hb.cell (p := ⟨b, j, none⟩) hs
  have g : ∀ j, V.frozen? ⟨b, j, none⟩ = U.frozen? ⟨b, j, none⟩ := fun j => hb.frozen (p := ⟨b, j, none⟩) hs
  ⟨(e 0).trans h.c0, (e 1).trans h.c1, (e 2).trans h.c2, (e 3).trans h.c3, (e 4).trans h.c4, (e 5).trans h.c5, (e 6).trans h.c6, (g 5).trans h.f5, (g 6).trans h.f6, Nat.lt_of_lt_of_le hs hb.size⟩
theorem vbW_new (w : World) (k : Kd) (A : Option Addr) (c : Nat) (hour : Int) (s : Int × Int) (T : TypeId) : VbW w.heap.size k A c hour s (w.alloc (.cells #[.int .i64 k.new, .int .i64 k.lo, .int .i64 k.hi, .slice A k.st.length c, .int .i64 hour, .int .i64 s.1, .int .i64 s.2] T)) :=
  ⟨by simp [go_sem], by simp [go_sem], by simp [go_sem], by simp [go_sem], by simp [go_sem], by simp [go_sem], by simp [go_sem], by simp [go_sem], by simp [go_sem], by simp⟩
theorem cell_set_ne (U : World) (b i j : Nat) (u : Value) (h : i ≠ j) : (U.setCell ⟨b, i, none⟩ u).cell? ⟨b, j, none⟩ = U.cell? ⟨b, j, none⟩ := World.cell?_setCell_other _ _ _ _ (fun e => h (by injection e))
theorem VbW.set {b : Nat} {U : World} {k : Kd} {A : Option Addr} {c : Nat} {hour : Int} {s : Int × Int} (h : VbW b k A c hour s U) (x y : Int) : VbW b k A c hour (x, y) ((U.setCell ⟨b, 5, none⟩ (.int .i64 x)).setCell ⟨b, 6, none⟩ (.int .i64 y)) := by
  refine ⟨?_, ?_, ?_, ?_, ?_, ?_, ?_, ?_, ?_, ?_⟩
  · rw [cell_set_ne _ _ _ _ _ (by decide), cell_set_ne _ _ _ _ _ (by decide)]; exact h.c0
  · rw [cell_set_ne _ _ _ _ _ (by decide), cell_set_ne _ _ _ _ _ (by decide)]; exact h.c1
  · rw [cell_set_ne _ _ _ _ _ (by decide), cell_set_ne _ _ _ _ _ (by decide)]; exact h.c2
  · rw [cell_set_ne _ _ _ _ _ (by decide), cell_set_ne _ _ _ _ _ (by decide)]; exact h.c3
  · rw [cell_set_ne _ _ _ _ _ (by decide), cell_set_ne _ _ _ _ _ (by decide)]; exact h.c4
  · rw [cell_set_ne _ _ _ _ _ (by decide)]
    exact World.cell?_setCell_same _ _ _ (by rw [h.c5])
  · exact World.cell?_setCell_same _ _ _ (by rw [cell_set_ne _ _ _ _ _ (by decide), h.c6])
  · simp [go_sem, h.f5]
  · simp [go_sem, h.f6]
  · simp [go_sem, h.lt]
/-- What stands in Life's blocks. -/
structure LfW (w : World) (k : Kd) (A : Option Addr) (c : Nat) (b : Nat) (s : Int × Int) (U : World) : Prop where
  kd : KdW w k A c U
  res : PrW (w.heap.size + 1) U
  v : VbW b k A c 0 s U
  ge : w.heap.size + 1 < b
theorem LfW.after {w U V : World} {k : Kd} {A : Option Addr} {c b : Nat} {s : Int × Int} (h : LfW w k A c b s U) (hb : Below U.heap.size U V) : LfW w k A c b s V := ⟨h.kd.after hb, h.res.next hb, h.v.after hb, h.ge⟩
theorem KdW.setFar {w U : World} {k : Kd} {A : Option Addr} {c : Nat} (h : KdW w k A c U) (p : Addr) (hp : w.heap.size < p.block) (u : Value) : KdW w k A c (U.setCell p u) :=
  have e : ∀ j, (U.setCell p u).cell? ⟨w.heap.size, j, none⟩ = U.cell? ⟨w.heap.size, j, none⟩ := fun j => cell_apart U u (by show p.block ≠ w.heap.size; omega)
  ⟨h.below.setCell (p := p) (by omega) u, (e 0).trans h.c0, (e 1).trans h.c1, (e 2).trans h.c2, (e 3).trans h.c3, by simp [go_sem, h.size]⟩
theorem PrW.setFar {b : Nat} {U : World} (h : PrW b U) (p : Addr) (hp : b ≠ p.block) (u : Value) : PrW b (U.setCell p u) :=
  have hb : Below U.heap.size U U := Below.refl _ _
  have e : ∀ j, (U.setCell p u).cell? ⟨b, j, none⟩ = U.cell? ⟨b, j, none⟩ := fun j => cell_apart U u (by show p.block ≠ b; omega)
  ⟨h.c0.imp fun _ hx => (e 0).trans hx, h.c1.imp fun _ hx => (e 1).trans hx, by simp [go_sem, h.f0], by simp [go_sem, h.f1], by simp [go_sem, h.lt]⟩
theorem LfW.set {w U : World} {k : Kd} {A : Option Addr} {c b : Nat} {s : Int × Int} (h : LfW w k A c b s U) (x y : Int) : LfW w k A c b (x, y) ((U.setCell ⟨b, 5, none⟩ (.int .i64 x)).setCell ⟨b, 6, none⟩ (.int .i64 y)) :=
  have hg := h.ge
  ⟨(h.kd.setFar ⟨b, 5, none⟩ (by show w.heap.size < b; omega) _).setFar ⟨b, 6, none⟩ (by show w.heap.size < b; omega) _, (h.res.setFar ⟨b, 5, none⟩ (by show w.heap.size + 1 ≠ b; omega) _).setFar ⟨b, 6, none⟩ (by show w.heap.size + 1 ≠ b; omega) _, h.v.set x y, hg⟩

end Go.Proofs.Ytgbignkkieoffaa
