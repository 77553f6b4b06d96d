/-
  THE REFERENCE's moments: minute. No statement is proved here.
-/
import Derived.Test.YtplipfcnjmgicaaHt12
import Derived.Deep.RegionHeld3
import Derived.Deep.DeepCutAuto
namespace Go.Proofs.Ytplipfcnjmgicaa
open Go.RowKit Go.Maps
set_option linter.unusedVariables false
set_option linter.unusedSimpArgs false

namespace Pq
def pushN (p : Pq) (f : Nat → Mo) : Nat → Pq
  | 0 => p
  | n + 1 => (pushN p f n).push (f n)
/-- The moments in the order in which the reference takes them. -/
def fR (o : Ov) (m : Mo) (j : Nat) : Mo := (if o.heats m then m.1 + (o.wl + (j : Int)) else m.1 - (o.cl + (j : Int)), o.heats m)
def nR (o : Ov) (m : Mo) : Nat := if o.heats m then (o.wh - o.wl + 1).toNat else (o.ch - o.cl + 1).toNat
def stepR (o : Ov) (p : Pq) (m : Mo) : Pq := p.pushN (fR o m) (nR o m)
def minuteR (o : Ov) (p : Pq) (now : List Mo) : Pq := now.foldl (stepR o) p
theorem minuteR_snoc (o : Ov) (p : Pq) (now : List Mo) (m : Mo) : p.minuteR o (now ++ [m]) = (p.minuteR o now).stepR o m := by simp [minuteR]
theorem pushN_all (p : Pq) (f : Nat → Mo) (x : Mo) : ∀ n : Nat, x ∈ (p.pushN f n).all ↔ x ∈ p.all ∨ ∃ j, j < n ∧ x = f j
  | 0 => by simp only [pushN]; constructor; exact .inl; rintro (h | ⟨j, hj, _⟩); exact h; omega
  | n + 1 => by
    simp only [pushN, push_all, pushN_all p f x n]
    constructor
    · rintro ((h | ⟨j, hj, e⟩) | e)
      · exact .inl h
      · exact .inr ⟨j, by omega, e⟩
      · exact .inr ⟨n, by omega, e⟩
    · rintro (h | ⟨j, hj, e⟩)
      · exact .inl (.inl h)
      · by_cases hjn : j = n
        · subst hjn; exact .inr e
        · exact .inl (.inr ⟨j, by omega, e⟩)
theorem fR_to {o : Ov} (ok : o.Ok) (m x : Mo) : (∃ j, j < nR o m ∧ x = fR o m j) ↔ o.to m x := by
  have hw := ok.w
  have hc := ok.c
  obtain ⟨t, b⟩ := x
  unfold nR fR Ov.to Ov.lo Ov.hi
  cases o.heats m with
  | true =>
    simp only [if_true, Prod.mk.injEq]
    constructor
    · rintro ⟨j, hj, rfl, rfl⟩
      exact ⟨by omega, by omega, rfl⟩
    · rintro ⟨h1, h2, h3⟩
      exact ⟨(t - m.1 - o.wl).toNat, by omega, by omega, h3⟩
  | false =>
    simp only [Bool.false_eq_true, if_false, Prod.mk.injEq]
    constructor
    · rintro ⟨j, hj, rfl, rfl⟩
      exact ⟨by omega, by omega, rfl⟩
    · rintro ⟨h1, h2, h3⟩
      exact ⟨(m.1 - t - o.cl).toNat, by omega, by omega, h3⟩
theorem minuteR_all {o : Ov} (ok : o.Ok) (x : Mo) : ∀ (now : List Mo) (p : Pq), x ∈ (p.minuteR o now).all ↔ x ∈ p.all ∨ ∃ q ∈ now, o.to q x
  | [], p => by simp [minuteR]
  | q :: now, p => by
    show x ∈ ((p.stepR o q).minuteR o now).all ↔ _
    rw [minuteR_all ok x now]
    unfold stepR
    rw [pushN_all, fR_to ok]
    simp only [List.mem_cons, exists_eq_or_imp, or_assoc]
theorem Fine.pushN {p : Pq} (h : p.Fine) (f : Nat → Mo) : ∀ n : Nat, (∀ j, j < n → -600 ≤ (f j).1 ∧ (f j).1 ≤ 1100) → (p.pushN f n).Fine
  | 0, _ => h
  | n + 1, hf => (Fine.pushN h f n fun j hj => hf j (by omega)).push (hf n (by omega))
theorem fR_box {o : Ov} (ok : o.Ok) {m : Mo} (hm : -600 ≤ m.1 ∧ m.1 ≤ 1100) {j : Nat} (hj : j < nR o m) : -600 ≤ (fR o m j).1 ∧ (fR o m j).1 ≤ 1100 := Ov.to_in ok hm ((fR_to ok m _).1 ⟨j, hj, rfl⟩)
theorem Fine.minuteR {o : Ov} (ok : o.Ok) : ∀ (now : List Mo) {p : Pq}, p.Fine → (∀ x ∈ now, -600 ≤ x.1 ∧ x.1 ≤ 1100) → (p.minuteR o now).Fine
  | [], _, h, _ => h
  | m :: now, _, h, hn => Fine.minuteR ok now (h.pushN _ _ fun j hj => fR_box ok (hn m (by simp)) hj) fun x hx => hn x (by simp [hx])
end Pq

/-- Where a moment stands in the list of bools. -/
def idx (m : Mo) : Nat := ((if m.2 then 2400 else 0) + m.1 + 1200).toNat
theorem idx_inj {m m' : Mo} (h : -600 ≤ m.1 ∧ m.1 ≤ 1100) (h' : -600 ≤ m'.1 ∧ m'.1 ≤ 1100) (e : idx m = idx m') : m = m' := by
  obtain ⟨t, b⟩ := m
  obtain ⟨t', b'⟩ := m'
  dsimp only at h h'
  unfold idx at e
  cases b <;> cases b' <;> simp at e ⊢ <;> omega
theorem idx_lt {m : Mo} (h : -600 ≤ m.1 ∧ m.1 ≤ 1100) : idx m < 4800 := by
  unfold idx
  split <;> omega
def ThereAt (U : World) (b : Nat) (l : List Mo) : Prop :=
  ∀ m : Mo, (-600 ≤ m.1 ∧ m.1 ≤ 1100) → (∃ r : Bool, U.cell? ⟨b, idx m, none⟩ = some (.bool r) ∧ (r = true ↔ m ∈ l)) ∧ U.frozen? ⟨b, idx m, none⟩ = false
theorem ThereAt.keep {U V : World} {b : Nat} {l : List Mo} (h : ThereAt U b l) (hb : V.heap[b]? = U.heap[b]?) : ThereAt V b l := fun m hm => by
  obtain ⟨⟨r, h1, h2⟩, h3⟩ := h m hm
  refine ⟨⟨r, (World.cell?_of_block (a := ⟨b, idx m, none⟩) hb).trans h1, h2⟩, ?_⟩
  unfold World.frozen? at h3 ⊢
  rw [hb]
  exact h3
theorem ThereAt.set {U : World} {b : Nat} {l : List Mo} (h : ThereAt U b l) {m : Mo} (hm : -600 ≤ m.1 ∧ m.1 ≤ 1100) : ThereAt (U.setCell ⟨b, idx m, none⟩ (.bool true)) b (l ++ [m]) := fun m' hm' => by
  obtain ⟨⟨r, h1, h2⟩, h3⟩ := h m' hm'
  refine ⟨?_, by rw [World.frozen?_setCell]; exact h3⟩
  by_cases e : m' = m
  · subst e
    exact ⟨true, World.cell?_setCell_same _ _ _ h1, by simp⟩
  · refine ⟨r, ?_, by simp [h2, e]⟩
    rw [World.cell?_setCell_other _ _ _ _ (fun e2 => e (idx_inj hm' hm (by simpa using (congrArg Addr.off e2).symm)))]
    exact h1

/-- What the reference's minute keeps. -/
structure RmAt (w : World) (o : Ov) (p : Pq) (v : Value) (U : World) : Prop where
  below : Below w.heap.size w U
  ov : OvenAt w.heap.size o U
  row : U.ownsRow (w.heap.size + 1 + 1) 112 2 v p.all.length (moC p.all)
  there : ThereAt U (w.heap.size + 1) p.all
  size : w.heap.size + 1 + 1 ≤ U.heap.size
section
variable {w : World} {o : Ov} {p : Pq} {v : Value} {U V : World}
theorem RmAt.under (h : RmAt w o p v U) (hb : Below U.heap.size U V) : RmAt w o p v V := by
  have hs := h.size
  refine ⟨h.below.trans (hb.mono h.below.size), h.ov.keep (hb.block _ (by omega)), ?_, h.there.keep (hb.block _ (by omega)), by have := hb.size; omega⟩
  refine ⟨h.row.1, ?_⟩
  rcases h.row.2 with ⟨a, b⟩ | ⟨g, cap, cur, a, b, c, d⟩
  · exact .inl ⟨a, b⟩
  · exact .inr ⟨g, cap, cur, a, b, (hb.block g (Array.getElem?_eq_some_iff.1 c).1).trans c, d⟩
theorem RmAt.far (h : RmAt w o p v U) {kb j : Nat} {u : Value} (h1 : w.heap.size + 1 < kb) (h2 : v.ownBlock ≠ some kb) : RmAt w o p v (U.setCell ⟨kb, j, none⟩ u) := by
  have b : ∀ k, k ≠ kb → (U.setCell ⟨kb, j, none⟩ u).heap[k]? = U.heap[k]? := fun k hk => Below.heap_setCell _ _ _ _ hk
  exact ⟨h.below.setCell (by show w.heap.size ≤ kb; omega) _, h.ov.keep (b _ (by omega)), ownsRow_setCell_other h.row h2 _, h.there.keep (b _ (by omega)), by simpa [World.setCell] using h.size⟩
/-- Behind the store and the append. -/
theorem RmAt.pushed {v2 : Value} {V1 V2 : World} (h : RmAt w o p v U) {m : Mo} (hm : m ∉ p.all) (hbx : -600 ≤ m.1 ∧ m.1 ≤ 1100) (hb1 : Below (U.setCell ⟨w.heap.size + 1, idx m, none⟩ (.bool true)).heap.size (U.setCell ⟨w.heap.size + 1, idx m, none⟩ (.bool true)) V1)
    (hrow : V2.ownsRow (w.heap.size + 1 + 1) 112 2 v2 (p.all.length + 1) (moC p.all ++ [.int .i64 m.1, .bool m.2])) (hg2 : V1.grownBy V2 v.ownBlock) :
    RmAt w o (p.push m) v2 V2 ∧ U.heap.size ≤ V2.heap.size ∧ ∀ k, k < U.heap.size → k ≠ w.heap.size + 1 → v.ownBlock ≠ some k → V2.heap[k]? = U.heap[k]? := by
  have hs := h.size
  have z1 : (U.setCell ⟨w.heap.size + 1, idx m, none⟩ (.bool true)).heap.size = U.heap.size := by simp [World.setCell]
  have s1 := hb1.size
  have s2 := hg2.size
  have hown : ∀ k, v.ownBlock = some k → w.heap.size + 1 + 1 ≤ k := fun k e => (h.row.lt k e).1
  have hpu : p.push m = ⟨p.all ++ [m], p.fr ++ [m]⟩ := by unfold Pq.push; rw [if_neg hm]
  have blk : ∀ k, k < U.heap.size → v.ownBlock ≠ some k → V2.heap[k]? = (U.setCell ⟨w.heap.size + 1, idx m, none⟩ (.bool true)).heap[k]? := fun k hk hn => (hg2.block k (by omega) fun e => hn e.symm).trans (hb1.block k (by omega))
  have old : ∀ k, k < U.heap.size → k ≠ w.heap.size + 1 → v.ownBlock ≠ some k → V2.heap[k]? = U.heap[k]? := fun k hk h1 h2 => (blk k hk h2).trans (Below.heap_setCell _ _ _ _ h1)
  refine ⟨?_, by omega, old⟩
  rw [hpu]
  refine ⟨?_, h.ov.keep (old _ (by omega) (by omega) fun e => by have := hown _ e; omega), ?_, (h.there.set hbx).keep (blk _ (by omega) fun e => by have := hown _ e; omega), by omega⟩
  · have hb := h.below
    refine ⟨hg2.os.trans (hb1.os.trans hb.os), hg2.tape.trans (hb1.tape.trans hb.tape), hg2.output.trans (hb1.output.trans hb.output), by have := hb.size; omega, fun k hk => ?_⟩
    exact (old k (by have := hb.size; omega) (by omega) fun e => by have := hown _ e; omega).trans (hb.block k hk)
  · have e : moC (p.all ++ [m]) = moC p.all ++ [.int .i64 m.1, .bool m.2] := moC_snoc _ _
    dsimp only
    rw [e, List.length_append]
    exact hrow
end
end Go.Proofs.Ytplipfcnjmgicaa
