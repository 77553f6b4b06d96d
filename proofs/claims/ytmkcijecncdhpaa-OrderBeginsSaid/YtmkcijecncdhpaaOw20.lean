/-
  append OF A LIST TO A NEW EMPTY LIST, in a region that draws its order; what it leaves of the blocks of the reference's Begin. No statement is proved here.
-/
import Derived.Test.YtmkcijecncdhpaaOw19
import Derived.Maps.AppendAt
import Derived.Deep.RegionLaw
namespace Go.Proofs.Ytmkcijecncdhpaa
open Go.RowKit
set_option linter.unusedVariables false
set_option linter.unusedSimpArgs false

/-- All that was there before is as it was, but for one row. -/
structure But (k : Nat) (w w' : World) : Prop where
  os : w'.os = w.os
  tape : w'.tape = w.tape
  output : w'.output = w.output
  size : w.heap.size ≤ w'.heap.size
  block : ∀ j, j < w.heap.size → j ≠ k → w'.heap[j]? = w.heap[j]?
theorem But.refl (k : Nat) (w : World) : But k w w := ⟨rfl, rfl, rfl, Nat.le_refl _, fun _ _ _ => rfl⟩
theorem But.below {k n : Nat} {w w' : World} (h : But k w w') (hn : n ≤ k) (hw : n ≤ w.heap.size) : Below n w w' := ⟨h.os, h.tape, h.output, h.size, fun j hj => h.block j (by omega) (by omega)⟩
theorem But.undrew {k : Nat} {U X : World} (h : But k U.drew X) : But k U X := ⟨h.os, h.tape, h.output, h.size, h.block⟩
theorem StAt.but {k b : Nat} {U V : World} {v0 v1 v3 : Value} {a2 a4 a5 a6 a7 : Int} (h : StAt U b v0 v1 v3 a2 a4 a5 a6 a7) (hV : But k U V) (hb : b < U.heap.size) (hk : b ≠ k) : StAt V b v0 v1 v3 a2 a4 a5 a6 a7 :=
  have c : ∀ j, V.cell? ⟨b, j, none⟩ = U.cell? ⟨b, j, none⟩ := fun j => World.cell?_of_block (a := ⟨b, j, none⟩) (hV.block b hb hk)
  ⟨(c 0).trans h.c0, (c 1).trans h.c1, (c 2).trans h.c2, (c 3).trans h.c3, (c 4).trans h.c4, (c 5).trans h.c5, (c 6).trans h.c6, (c 7).trans h.c7⟩
theorem RowIs.but {k g : Nat} {e : TypeId} {xs : List Value} {U V : World} (h : RowIs U g e xs) (hV : But k U V) (hb : g < U.heap.size) (hk : g ≠ k) : RowIs V g e xs := (hV.block g hb hk).trans h
structure AppNew (k : Nat) (w : World) (zs : List Int) (A : Option Addr) (w' : World) : Prop where
  new : ∀ ad, A = some ad → (ad.block = k ∨ w.heap.size ≤ ad.block) ∧ ad.block < w'.heap.size
  i1 : IntsAt w' w'.heap.size A zs
  but : But k w w'
theorem run_app_new (w : World) (ty : TypeId) (k : Nat) (hk : RowIs w k 3 []) (hkl : k < w.heap.size) (A : Option Addr) (c : Nat) (zs : List Int) (hl : zs.length ≤ 1000) (B : Nat) (hA : IntsAt w B A zs) :
    ∃ A2 c2 w', (Builtin.append_ #[22, 22] ty #[.slice (some ⟨k, 0, none⟩) 0 0, .slice A zs.length c]).run Try.prog w = .ok (.slice A2 zs.length c2) w' ∧ AppNew k w zs A2 w' := by
  obtain ⟨i0, hi0, hi1, hi2, hi3⟩ := info_parts sliceI.info
  cases A with
  | none =>
    have hz : zs.length = 0 := by
      rcases Nat.eq_zero_or_pos zs.length with h0 | h0
      · exact h0
      · obtain ⟨ad, e, _⟩ := hA h0
        cases e
    obtain rfl : zs = [] := List.length_eq_zero_iff.1 hz
    refine ⟨some ⟨k, 0, none⟩, 0, w, ?_, fun ad e => by cases e; exact ⟨.inl rfl, hkl⟩, ListAt.nil _ _ _, But.refl _ _⟩
    simp [Builtin.append_, Builtin.lenOf, Builtin.firstCells, loadCells, run_underlying Try.underlying22, sizeOf, typeInfo, hi0, storeCells]
  | some ad =>
    obtain ⟨v', w', hr, h2, h3, _, h5⟩ := run_append_own_at (P := Try.prog) w k 22 ty 3 i0 (.int .i64 0) 1 8 Try.underlying22 hi0 hi1 hi2 hi3 rfl (by decide) _ 0 [] (empty_owned hk (Nat.le_refl _)) ad zs.length c (zs.map (Value.int .i64)) (by simp)
      (fun j u hj => by
        have hj' : j < zs.length := by
          have := (List.getElem?_eq_some_iff.1 hj).1
          simpa using this
        obtain ⟨ad', e, _, hc⟩ := hA.at_ hj'
        cases e
        rw [hc]
        simpa [hj'] using hj) (fun u hu => by obtain ⟨n, _, rfl⟩ := List.mem_map.1 hu; rfl) (by unfold maxLen; omega) (by omega) (Nat.le_of_lt hkl)
    simp only [Nat.zero_add, List.nil_append] at h2
    obtain ⟨A2, c2, rfl, hn, hc2, hnew, hR⟩ := ListAt.own h2
    refine ⟨A2, c2, w', hr, ⟨fun ad2 e => ⟨?_, by subst e; exact (h2.lt ad2.block rfl).2⟩, hR, ⟨h3.os, h3.tape, h3.output, h3.size, fun j hj hne => h3.block j hj (fun e => hne (Option.some.inj e))⟩⟩⟩
    subst e
    rcases h5 with h5 | h5
    · exact .inl (Option.some.inj h5)
    · exact .inr (Nat.le_of_eq (Option.some.inj h5).symm)
theorem step_app_new {w : World} {ops : Array Oper} {o : Oper} {a : Act} {K : Act → World → Prop} {Q : Exit → Act → World → Prop} {E : Prop} (hgd : o.guard = none) (s x : Operand)
    (ho : o.op = .call { callee := .builtin .append, args := #[s, x], argTypes := #[22, 22] }) (k : Nat) (hs : a.eval s = .slice (some ⟨k, 0, none⟩) 0 0) (hk : RowIs w k 3 []) (hkl : k < w.heap.size)
    (A : Option Addr) (c : Nat) (zs : List Int) (hx : a.eval x = .slice A zs.length c) (hl : zs.length ≤ 1000) (B : Nat) (hA : IntsAt w B A zs)
    (h : ∀ A2 c2 w', AppNew k w zs A2 w' → K (a.put o.dst (.slice A2 zs.length c2)) w') :
    if Region.wanted o (yielded ops a.tmps) = true then Oper.wp Try.prog o a w K Q else E := by
  have hw : Region.wanted o (yielded ops a.tmps) = true := by simp [Region.wanted, hgd]
  rw [if_pos hw]
  obtain ⟨A2, c2, w', hr, h2⟩ := run_app_new w o.type k hk hkl A c zs hl B hA
  unfold Oper.wp execOp
  simp only [ho, resolve, invoke, builtin, Sem.run_bind, Sem.run_pure, Result.andThen_ok, List.map_toArray, List.map_cons, List.map_nil, hs, hx, hr]
  exact h A2 c2 w' h2

section
variable {w V X : World} {A : Option Addr} {c k b g : Nat} {z1 : List Int} {st : Int}
/-- The row before, the state behind. -/
theorem app1 (P : BegP w V) (hk : w.heap.size < k) (hr : RowIs V g 3 zeroL) (hg : w.heap.size < g) (hgV : g < V.heap.size) (hgk : g ≠ k) (hX : AppNew k V z1 A X) :
    BegW w X.heap.size g A c z1 st (X.alloc (begC g A c z1 st)) := by
  have hz := hX.but.size
  have hp := P.lt
  refine ⟨P.keep ((hX.but.below (by omega) (by omega)).trans (below_lower (by omega) (alloc_below X _))), StAt.new X _ _ _ _ _ _ _ _ _, (RowIs.but hr hX.but hgV hgk).alloc _, hX.i1.alloc _, by omega, hg, by omega, fun ad e => ?_⟩
  have := hX.new ad e
  omega
/-- Both before. -/
theorem app2 (P : BegP w V) (hk : w.heap.size < k) (hr : RowIs V g 3 zeroL) (hg : w.heap.size < g) (hgV : g < V.heap.size) (hgk : g ≠ k)
    (hs : StAt V b (.slice none 0 0) (.slice none 0 0) (.slice none 0 0) 0 0 0 0 0) (hb : w.heap.size < b) (hbV : b < V.heap.size) (hbk : b ≠ k) (hbg : b ≠ g) (hX : AppNew k V z1 A X) :
    BegW w b g A c z1 st (setSt X b (.slice (some ⟨g, 0, none⟩) 128 128) (.slice A z1.length c) (.slice none 0 0) 0 (st % 16) st 0 0) := by
  have hz := hX.but.size
  have hp := P.lt
  refine ⟨P.keep ((hX.but.below (by omega) (by omega)).trans (setSt_below (by omega))), (hs.but hX.but hbV hbk).put, (RowIs.but hr hX.but hgV hgk).setSt (by omega), ?_, hb, hg, hbg, fun ad e => by have := hX.new ad e; omega⟩
  rw [setSt_size]
  exact hX.i1.setSt fun ad e => by have := hX.new ad e; omega
theorem app3 (P : BegP w V) (hk : w.heap.size < k) (hkV : k < V.heap.size) (hX : AppNew k V z1 A X) :
    BegW w (X.heap.size + 1) X.heap.size A c z1 st ((X.alloc rowC).alloc (begC X.heap.size A c z1 st)) := by
  have hz := hX.but.size
  have hp := P.lt
  have h1 := alloc_below X rowC
  have h2 := alloc_below (X.alloc rowC) (begC X.heap.size A c z1 st)
  simp only [World.size_alloc] at h2
  refine ⟨P.keep ((hX.but.below (by omega) (by omega)).trans ((below_lower (by omega) h1).trans (below_lower (by omega) h2))), ?_, (row_zero X).alloc _, (hX.i1.alloc rowC).alloc _, by omega, by omega, by omega, fun ad e => by have := hX.new ad e; omega⟩
  have := StAt.new (X.alloc rowC) (.slice (some ⟨X.heap.size, 0, none⟩) 128 128) (.slice A z1.length c) (.slice none 0 0) 0 (st % 16) st 0 0 24
  simp only [World.size_alloc] at this
  exact this
theorem app4 (P : BegP w V) (hk : w.heap.size < k) (hkV : k < V.heap.size) (hX : AppNew k V z1 A X) :
    BegW w X.heap.size (X.heap.size + 1) A c z1 st ((X.alloc (begC (X.heap.size + 1) A c z1 st)).alloc rowC) := by
  have hz := hX.but.size
  have hp := P.lt
  have h1 := alloc_below X (begC (X.heap.size + 1) A c z1 st)
  have h2 := alloc_below (X.alloc (begC (X.heap.size + 1) A c z1 st)) rowC
  simp only [World.size_alloc] at h2
  have hr := row_zero (X.alloc (begC (X.heap.size + 1) A c z1 st))
  simp only [World.size_alloc] at hr
  exact ⟨P.keep ((hX.but.below (by omega) (by omega)).trans ((below_lower (by omega) h1).trans (below_lower (by omega) h2))), (StAt.new X _ _ _ _ _ _ _ _ _).alloc (by simp) _, hr, (hX.i1.alloc _).alloc _, by omega, by omega, by omega, fun ad e => by have := hX.new ad e; omega⟩
/-- The state before, the row behind. -/
theorem app5 (P : BegP w V) (hk : w.heap.size < k) (hkV : k < V.heap.size)
    (hs : StAt V b (.slice none 0 0) (.slice none 0 0) (.slice none 0 0) 0 0 0 0 0) (hb : w.heap.size < b) (hbV : b < V.heap.size) (hbk : b ≠ k) (hX : AppNew k V z1 A X) :
    BegW w b X.heap.size A c z1 st ((setSt X b (.slice (some ⟨X.heap.size, 0, none⟩) 128 128) (.slice A z1.length c) (.slice none 0 0) 0 (st % 16) st 0 0).alloc rowC) := by
  have hz := hX.but.size
  have hp := P.lt
  have h3 := alloc_below (setSt X b (.slice (some ⟨X.heap.size, 0, none⟩) 128 128) (.slice A z1.length c) (.slice none 0 0) 0 (st % 16) st 0 0) rowC
  have hr := row_zero (setSt X b (.slice (some ⟨X.heap.size, 0, none⟩) 128 128) (.slice A z1.length c) (.slice none 0 0) 0 (st % 16) st 0 0)
  rw [setSt_size] at h3 hr
  refine ⟨P.keep ((hX.but.below (by omega) (by omega)).trans ((setSt_below (by omega)).trans (below_lower (by omega) h3))), (hs.but hX.but hbV hbk).put.alloc (by rw [setSt_size]; omega) _, hr, ?_, hb, by omega, by omega, fun ad e => by have := hX.new ad e; omega⟩
  have : IntsAt (setSt X b (.slice (some ⟨X.heap.size, 0, none⟩) 128 128) (.slice A z1.length c) (.slice none 0 0) 0 (st % 16) st 0 0) (setSt X b (.slice (some ⟨X.heap.size, 0, none⟩) 128 128) (.slice A z1.length c) (.slice none 0 0) 0 (st % 16) st 0 0).heap.size A z1 := by
    rw [setSt_size]
    exact hX.i1.setSt fun ad e => by have := hX.new ad e; omega
  exact this.alloc _
end
end Go.Proofs.Ytmkcijecncdhpaa
