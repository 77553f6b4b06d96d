/-
  THE MOMENTS THAT ARE MET: reach, the walk. No statement is proved here.
-/
import Derived.Test.YtplipfcnjmgicaaHt3
import Derived.Deep.RegionHeld3
namespace Go.Proofs.Ytplipfcnjmgicaa
open Go.RowKit Go.Maps
set_option linter.unusedVariables false
set_option linter.unusedSimpArgs false

def moC (l : List Mo) : List Value := l.flatMap fun m => [.int .i64 m.1, .bool m.2]
theorem moC_snoc (l : List Mo) (m : Mo) : moC (l ++ [m]) = moC l ++ [.int .i64 m.1, .bool m.2] := by simp [moC]
theorem moC_length : ∀ l : List Mo, (moC l).length = l.length * 2
  | [] => rfl
  | m :: l => by have := moC_length l; simp [moC] at this ⊢; omega
theorem moC_get : ∀ (l : List Mo) (i : Nat) (h : i < l.length), (moC l)[i * 2]? = some (.int .i64 l[i].1) ∧ (moC l)[i * 2 + 1]? = some (.bool l[i].2)
  | m :: l, 0, h => by simp [moC]
  | m :: l, i + 1, h => by
    have := moC_get l i (by simpa using h)
    have e : moC (m :: l) = .int .i64 m.1 :: .bool m.2 :: moC l := by simp [moC]
    rw [e, show (i + 1) * 2 = i * 2 + 1 + 1 by omega]
    simpa using this

/-- The moments that are met, in memory: the variable seen, the variable fresh, the map; what is fresh lies from base on. -/
structure HeatAt (base sB fB mB : Nat) (p : Pq) (v : Value) (U : World) : Prop where
  sc : U.cell? ⟨sB, 0, none⟩ = some (.map (some mB))
  seen : SeenIn moV U mB p.all
  fc : U.cell? ⟨fB, 0, none⟩ = some v
  ff : U.frozen? ⟨fB, 0, none⟩ = false
  row : U.ownsRow base 107 2 v p.fr.length (moC p.fr)
  h1 : sB < base
  h2 : fB < base
  h3 : mB < base
  h4 : base ≤ U.heap.size
  n1 : sB ≠ fB
  n2 : mB ≠ fB
  n3 : mB ≠ sB
theorem HeatAt.keep {base sB fB mB : Nat} {p : Pq} {v : Value} {U V : World} (h : HeatAt base sB fB mB p v U) (hs : U.heap.size ≤ V.heap.size) (hk : ∀ k, k < U.heap.size → k = sB ∨ k = fB ∨ k = mB ∨ base ≤ k → V.heap[k]? = U.heap[k]?) : HeatAt base sB fB mB p v V := by
  have l1 := h.h1
  have l2 := h.h2
  have l3 := h.h3
  have l4 := h.h4
  refine ⟨(World.cell?_of_block (a := ⟨sB, 0, none⟩) (hk sB (by omega) (.inl rfl))).trans h.sc, h.seen.keep (hk mB (by omega) (.inr (.inr (.inl rfl)))), (World.cell?_of_block (a := ⟨fB, 0, none⟩) (hk fB (by omega) (.inr (.inl rfl)))).trans h.fc, ?_, ?_, l1, l2, l3, by omega, h.n1, h.n2, h.n3⟩
  · have := h.ff
    unfold World.frozen? at this ⊢
    rw [hk fB (by omega) (.inr (.inl rfl))]
    exact this
  · refine ⟨h.row.1, ?_⟩
    rcases h.row.2 with ⟨a, b⟩ | ⟨g, cap, cur, a, b, c, d⟩
    · exact .inl ⟨a, b⟩
    · exact .inr ⟨g, cap, cur, a, b, (hk g (Array.getElem?_eq_some_iff.1 c).1 (.inr (.inr (.inr b)))).trans c, d⟩
theorem HeatAt.below {base sB fB mB : Nat} {p : Pq} {v : Value} {U V : World} (h : HeatAt base sB fB mB p v U) (hb : Below U.heap.size U V) : HeatAt base sB fB mB p v V := h.keep hb.size fun k hk _ => hb.block k hk

/-- What reach may turn: the map, the variable fresh, and what lies from base on. -/
structure Touch (base fB mB : Nat) (U V : World) : Prop where
  os : V.os = U.os
  tape : V.tape = U.tape
  output : V.output = U.output
  size : U.heap.size ≤ V.heap.size
  block : ∀ k, k < base → k ≠ fB → k ≠ mB → V.heap[k]? = U.heap[k]?
theorem Touch.refl (base fB mB : Nat) (U : World) : Touch base fB mB U U := ⟨rfl, rfl, rfl, Nat.le_refl _, fun _ _ _ _ => rfl⟩
theorem Touch.trans {base fB mB : Nat} {A B C : World} (h : Touch base fB mB A B) (k : Touch base fB mB B C) : Touch base fB mB A C :=
  ⟨k.os.trans h.os, k.tape.trans h.tape, k.output.trans h.output, Nat.le_trans h.size k.size, fun i a b c => (k.block i a b c).trans (h.block i a b c)⟩
theorem Touch.of_below {base fB mB : Nat} {A B : World} (h : Below base A B) : Touch base fB mB A B := ⟨h.os, h.tape, h.output, h.size, fun k a _ _ => h.block k a⟩
theorem Touch.of_grown {base fB mB : Nat} {A B : World} {row : Option Nat} (h : A.grownBy B row) (hs : base ≤ A.heap.size) (hr : ∀ k, row = some k → base ≤ k ∨ k = fB ∨ k = mB) : Touch base fB mB A B :=
  ⟨h.os, h.tape, h.output, h.size, fun k a b c => h.block k (by omega) fun e => by have := hr k e.symm; omega⟩
theorem Touch.setCell {base fB mB : Nat} {A B : World} (h : Touch base fB mB A B) (u : Value) : Touch base fB mB A (B.setCell ⟨fB, 0, none⟩ u) :=
  h.trans ⟨rfl, rfl, rfl, by simp [World.setCell], fun k a b c => Below.heap_setCell _ _ _ _ b⟩
theorem Touch.below {base fB mB n : Nat} {A B : World} (h : Touch base fB mB A B) (h1 : n ≤ base) (h2 : n ≤ fB) (h3 : n ≤ mB) : Below n A B :=
  ⟨h.os, h.tape, h.output, h.size, fun k hk => h.block k (by omega) (by omega) (by omega)⟩

/-- Behind the map's store, the append and the store into fresh. -/
theorem HeatAt.pushed {base sB fB mB : Nat} {p : Pq} {v v2 : Value} {U V1 V1' V2 : World} (h : HeatAt base sB fB mB p v U) {m : Mo} (hm : m ∉ p.all) (hs1 : SeenIn moV V1 mB (p.all ++ [m])) (hg1 : U.grownBy V1 (some mB)) (hb1 : Below V1.heap.size V1 V1')
    (hrow : V2.ownsRow base 107 2 v2 (p.fr.length + 1) (moC p.fr ++ [.int .i64 m.1, .bool m.2])) (hg2 : V1'.grownBy V2 v.ownBlock) :
    HeatAt base sB fB mB (p.push m) v2 (V2.setCell ⟨fB, 0, none⟩ v2) ∧ Touch base fB mB U (V2.setCell ⟨fB, 0, none⟩ v2) := by
  have l1 := h.h1
  have l2 := h.h2
  have l3 := h.h3
  have l4 := h.h4
  have s1 := hg1.size
  have s2 := hb1.size
  have s3 := hg2.size
  have hown : ∀ k, v.ownBlock = some k → base ≤ k := fun k e => (h.row.lt k e).1
  have b2 : ∀ k, k < V1.heap.size → k < base → V2.heap[k]? = V1.heap[k]? := fun k hk hb => (hg2.block k (by omega) fun e => by have := hown k e.symm; omega).trans (hb1.block k hk)
  have b1 : ∀ k, k < base → k ≠ mB → V1.heap[k]? = U.heap[k]? := fun k hk hn => hg1.block k (by omega) fun e => by cases e; exact hn rfl
  have hpu : p.push m = ⟨p.all ++ [m], p.fr ++ [m]⟩ := by unfold Pq.push; rw [if_neg hm]
  have o2 : ∀ k, v2.ownBlock = some k → base ≤ k := fun k e => (hrow.lt k e).1
  have fcell : V2.cell? ⟨fB, 0, none⟩ = some v := by
    rw [World.cell?_of_block (a := ⟨fB, 0, none⟩) (b2 fB (by omega) l2), World.cell?_of_block (a := ⟨fB, 0, none⟩) (b1 fB l2 (fun e => h.n2 e.symm))]
    exact h.fc
  constructor
  · rw [hpu]
    refine ⟨?_, ?_, ?_, ?_, ?_, l1, l2, l3, by simp [World.setCell]; omega, h.n1, h.n2, h.n3⟩
    · rw [World.cell?_setCell_far _ _ _ _ (fun e => h.n1 e.symm), World.cell?_of_block (a := ⟨sB, 0, none⟩) (b2 sB (by omega) l1), World.cell?_of_block (a := ⟨sB, 0, none⟩) (b1 sB l1 (fun e => h.n3 e.symm))]
      exact h.sc
    · exact hs1.keep ((Below.heap_setCell _ _ _ _ h.n2).trans (b2 mB hs1.lt l3))
    · exact World.cell?_setCell_same _ _ _ fcell
    · have := h.ff
      rw [World.frozen?_setCell]
      unfold World.frozen? at this ⊢
      rw [b2 fB (by omega) l2, b1 fB l2 (fun e => h.n2 e.symm)]
      exact this
    · have e : moC (p.fr ++ [m]) = moC p.fr ++ [.int .i64 m.1, .bool m.2] := moC_snoc _ _
      rw [e, List.length_append]
      exact ownsRow_setCell_other hrow (fun e => by have := o2 _ e; simp at this; omega) _
  · refine ((Touch.of_grown hg1 l4 fun k e => by cases e; exact .inr (.inr rfl)).trans ((Touch.of_below (hb1.mono (by omega))).trans (Touch.of_grown hg2 (by omega) fun k e => .inl (hown k e)))).setCell _
/-- Behind the append the variable fresh is as it was. -/
theorem HeatAt.fresh2 {base sB fB mB : Nat} {p : Pq} {v : Value} {U V1 V1' V2 : World} (h : HeatAt base sB fB mB p v U) (hg1 : U.grownBy V1 (some mB)) (hb1 : Below V1.heap.size V1 V1') (hg2 : V1'.grownBy V2 v.ownBlock) :
    V2.cell? ⟨fB, 0, none⟩ = some v ∧ V2.frozen? ⟨fB, 0, none⟩ = false := by
  have l2 := h.h2
  have l4 := h.h4
  have s1 := hg1.size
  have s2 := hb1.size
  have hown : ∀ k, v.ownBlock = some k → base ≤ k := fun k e => (h.row.lt k e).1
  have e : V2.heap[fB]? = U.heap[fB]? := ((hg2.block fB (by omega) fun e => by have := hown fB e.symm; omega).trans (hb1.block fB (by omega))).trans (hg1.block fB (by omega) fun e => by cases e; exact h.n2 rfl)
  constructor
  · rw [World.cell?_of_block (a := ⟨fB, 0, none⟩) e]; exact h.fc
  · have := h.ff
    unfold World.frozen? at this ⊢
    rw [e]
    exact this
theorem two_new (W : World) (a b : Value) (T : TypeId) : ∀ j u, [a, b][j]? = some u → (W.alloc (.cells #[a, b] T)).cell? ((⟨W.heap.size, 0, none⟩ : Addr).add j) = some u := by
  intro j u hj
  match j, hj with
  | 0, hj => simp at hj; subst hj; simp [Addr.add, go_sem]
  | 1, hj => simp at hj; subst hj; simp [Addr.add, go_sem]
end Go.Proofs.Ytplipfcnjmgicaa
