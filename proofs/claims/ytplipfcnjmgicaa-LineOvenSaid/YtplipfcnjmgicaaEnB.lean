/-
  THE CONTRACT OF ends[int] over an iterator that writes what it laid itself. No statement is proved here.
-/
import Derived.Test.YtplipfcnjmgicaaEnds
import Derived.Test.YtplipfcnjmgicaaRb1
namespace Go.Proofs.Ytplipfcnjmgicaa
open Go.RowKit Go.Shelf
set_option linter.unusedVariables false
set_option linter.unusedSimpArgs false
attribute [local go_sem] Oper.semAt_some

theorem Three.keep {b n : Nat} {p : Ends} {A V : World} (h : Three b p A) (hb : Below n A V) (hn : b + 1 + 1 < n) : Three b p V := by
  obtain ⟨⟨h0, f0⟩, ⟨h1, f1⟩, ⟨h2, f2⟩⟩ := h
  have c : ∀ k, k ≤ b + 1 + 1 → V.cell? ⟨k, 0, none⟩ = A.cell? ⟨k, 0, none⟩ := fun k hk => hb.cell (p := ⟨k, 0, none⟩) (by show k < n; omega)
  have f : ∀ k, k ≤ b + 1 + 1 → V.frozen? ⟨k, 0, none⟩ = A.frozen? ⟨k, 0, none⟩ := fun k hk => hb.frozen (p := ⟨k, 0, none⟩) (by show k < n; omega)
  exact ⟨⟨(c _ (by omega)).trans h0, (f _ (by omega)).trans f0⟩, ⟨(c _ (by omega)).trans h1, (f _ (by omega)).trans f1⟩, ⟨(c _ (by omega)).trans h2, (f _ (by omega)).trans f2⟩⟩

set_option maxRecDepth 100000 in
set_option maxHeartbeats 4000000 in
theorem ends_back (gf : Nat) (lb : Array Value) (eg : ∀ args w, (callFunc gf args).run Try.prog w = .ok (.enter gf args) w) (S Sp : List Int → Prop) (w : World)
    (hseq : SeqBack Fence.wide 3 Try.prog gf lb (fun x : Int => #[Value.int .i64 x]) w.heap.size (w.heap.size + 1 + 1 + 1) S Sp w) :
    Calls Try.prog 60 #[.func (.func gf) #[] lb] w (EndsAre S w) := by
  refine (callsIn_wide (n := 4)).1 ?_
  have HQ := Lib.hid hseq
  have EG := Lib.hid eg
  clear hseq eg
  refine callsIn_of_wp_marks Try.func60 rfl trivial ?_ rfl
  simp only [Try.ntmps60, List.size_toArray, List.length_cons, List.length_nil, Nat.reduceAdd, Nat.reduceSub, Array.replicate_succ, Array.replicate_zero, List.push_toArray, List.append_toArray, List.nil_append, List.cons_append]
  gi_wp2
  have n0 : w.heap.size ≤ w.heap.size := Nat.le_refl _
  have hB0 : Below w.heap.size w (((w.alloc (.cells #[.int .i64 0] 3)).alloc (.cells #[.int .i64 0] 3)).alloc (.cells #[.bool false] 4)) := by go_grown
  have c0 := cell_new_v w (.int .i64 0) 3
  have c1 := cell_new_v (w.alloc (.cells #[.int .i64 0] 3)) (.int .i64 0) 3
  have c2 := cell_new_v ((w.alloc (.cells #[.int .i64 0] 3)).alloc (.cells #[.int .i64 0] 3)) (.bool false) 4
  simp only [World.size_alloc] at c1 c2
  have hsz : (((w.alloc (.cells #[.int .i64 0] 3)).alloc (.cells #[.int .i64 0] 3)).alloc (.cells #[.bool false] 4)).heap.size = w.heap.size + 1 + 1 + 1 := by simp
  have T0 : Three w.heap.size (endsOf []) (((w.alloc (.cells #[.int .i64 0] 3)).alloc (.cells #[.int .i64 0] 3)).alloc (.cells #[.bool false] 4)) :=
    ⟨⟨cell_alloc_v _ (cell_alloc_v _ c0.1), frozen_alloc_v _ (cell_alloc_v _ c0.1) (frozen_alloc_v _ c0.1 c0.2)⟩, ⟨cell_alloc_v _ c1.1, frozen_alloc_v _ c1.1 c1.2⟩, c2⟩
  clear c0 c1 c2
  generalize ((w.alloc (.cells #[.int .i64 0] 3)).alloc (.cells #[.int .i64 0] 3)).alloc (.cells #[.bool false] 4) = W0 at *
  refine wpIn_rangeBack rfl (by decide) (gf := gf) (lb := lb) rfl trivial EG.out HQ.out hB0 (fun _ => rfl) (by omega) (by omega)
    (fun pre W => Three w.heap.size (endsOf pre) W ∧ Below w.heap.size w W)
    (fun _ _ _ => False)
    (fun s A V h hb => ⟨h.1.keep hb (by omega), h.2.trans (hb.mono (by omega))⟩)
    (fun _ _ _ _ h _ => h)
    ⟨T0, hB0⟩
    (fun pre x a W => a = { tmps := #[.func (.func gf) #[] lb, undef, .pointer (some ⟨w.heap.size, 0, none⟩), .pointer (some ⟨w.heap.size + 1, 0, none⟩), .pointer (some ⟨w.heap.size + 1 + 1, 0, none⟩), .int .i64 x, .func (.func gf) #[] lb, .int .i64 x, undef, undef, undef, undef, undef, undef, undef, undef, undef, undef, undef, undef, undef], defers := [] } ∧ Three w.heap.size (endsOf pre) W ∧ Below w.heap.size w W)
    ?own ?assign ?body ?done ?stop
  case own =>
    intro pre x a
    refine fun s A V row h hg hr => ⟨h.1, ?_, h.2.2.grown hg (by have := h.2.2.size; omega) (fun k e => by have := (hr k e).1; omega)⟩
    have hb : Below W0.heap.size A V := (Below.refl _ A).grown hg (by
      have h2 := h.2.1.2.2.1
      by_cases hc : W0.heap.size ≤ A.heap.size
      · exact hc
      · have := World.block_lt_of_cell? A _ h2
        simp at this
        omega) (fun k e => (hr k e).1)
    exact h.2.1.keep hb (by omega)
  case assign =>
    intro l pre x W hI hlt
    gi_wp2
    exact ⟨Around.refl _ _ _, trivial, hI⟩
  case body =>
    rintro l pre x a₁ W ⟨rfl, ⟨⟨h0, f0⟩, ⟨h1, f1⟩, ⟨h2, f2⟩⟩, hB⟩ hlt
    have hsn := endsOf_snoc pre x
    have hmx : Try.prog.follows .mixedOrders = true := by kernel_rfl
    generalize endsOf pre = p at *
    obtain ⟨lo, hi, sm⟩ := p
    have HSN := Lib.hid hsn
    clear hsn T0
    dsimp only at h0 h1 h2
    have ar : ∀ U : World, Around w.heap.size (w.heap.size + 1 + 1 + 1) W U → ∀ (j : Nat) (v : Value), j ≤ 2 → Around w.heap.size (w.heap.size + 1 + 1 + 1) W (U.setCell ⟨w.heap.size + j, 0, none⟩ v) := fun U hU j v hj => hU.setCell (by show w.heap.size ≤ w.heap.size + j; omega) (by show w.heap.size + j < w.heap.size + 1 + 1 + 1; omega) v
    have AR := Lib.hid ar
    clear ar
    cases sm with
    | true =>
      have T : Three w.heap.size ⟨lo, hi, true⟩ W := ⟨⟨h0, f0⟩, ⟨h1, f1⟩, ⟨h2, f2⟩⟩
      gi_wp2
      refine ends_region l _ w.heap.size W lo hi x _ _ _ _ _ _ _ _ _ _ _ _ _ _ _ _ _ _ _ h0 f0 h1 f1 ?_
      rintro a' _ rfl
      exact ⟨(AR.out _ (AR.out _ (Around.refl _ _ _) 0 _ (by omega)) 1 _ (by omega)).drew,
        by rw [HSN.out]; exact T.set2.drew, ((hB.setCell (p := ⟨w.heap.size, 0, none⟩) (Nat.le_refl _) _).setCell (p := ⟨w.heap.size + 1, 0, none⟩) (Nat.le_succ _) _).drew⟩
    | false =>
      have T : Three w.heap.size ⟨lo, hi, false⟩ W := ⟨⟨h0, f0⟩, ⟨h1, f1⟩, ⟨h2, f2⟩⟩
      have T1 := T.set (q := ⟨x, x, true⟩)
      have hB1 : Below w.heap.size w (((W.setCell ⟨w.heap.size, 0, none⟩ (.int .i64 x)).setCell ⟨w.heap.size + 1, 0, none⟩ (.int .i64 x)).setCell ⟨w.heap.size + 1 + 1, 0, none⟩ (.bool true)) :=
        ((hB.setCell (p := ⟨w.heap.size, 0, none⟩) (Nat.le_refl _) _).setCell (p := ⟨w.heap.size + 1, 0, none⟩) (Nat.le_succ _) _).setCell (p := ⟨w.heap.size + 1 + 1, 0, none⟩) (show w.heap.size ≤ w.heap.size + 1 + 1 by omega) _
      have hA1 := Lib.hid (AR.out _ (AR.out _ (AR.out _ (Around.refl _ _ W) 0 (.int .i64 x) (by omega)) 1 (.int .i64 x) (by omega)) 2 (.bool true) (by omega))
      have T2 := T1.set2 (lo := x) (hi := x)
      gi_wp2
      refine ends_region l _ w.heap.size _ x x x _ _ _ _ _ _ _ _ _ _ _ _ _ _ _ _ _ _ _ T1.1.1 T1.1.2 T1.2.1.1 T1.2.1.2 ?_
      rintro a' _ rfl
      simp only [if_neg (Int.lt_irrefl x)]
      exact ⟨(AR.out _ (AR.out _ hA1.out 0 _ (by omega)) 1 _ (by omega)).drew, by rw [HSN.out]; exact T2.drew,
        ((hB1.setCell (p := ⟨w.heap.size, 0, none⟩) (Nat.le_refl _) _).setCell (p := ⟨w.heap.size + 1, 0, none⟩) (Nat.le_succ _) _).drew⟩
  case done =>
    rintro ys W hS ⟨⟨⟨h0, f0⟩, ⟨h1, f1⟩, ⟨h2, f2⟩⟩, hB⟩ hK
    have hmx : Try.prog.follows .mixedOrders = true := by kernel_rfl
    rw [hsz] at hK ⊢
    clear hB0 T0
    gi_wp2
    gi_region_o
    gi_wp2
    have T : Three w.heap.size (endsOf ys) W := ⟨⟨h0, f0⟩, ⟨h1, f1⟩, ⟨h2, f2⟩⟩
    have T1 := (T.set (q := endsOf ys)).drew
    have hB1 : Below w.heap.size w (((W.setCell ⟨w.heap.size, 0, none⟩ (.int .i64 (endsOf ys).lo)).setCell ⟨w.heap.size + 1, 0, none⟩ (.int .i64 (endsOf ys).hi)).setCell ⟨w.heap.size + 1 + 1, 0, none⟩ (.bool (endsOf ys).some)).drew :=
      (((hB.setCell (p := ⟨w.heap.size, 0, none⟩) (Nat.le_refl _) _).setCell (p := ⟨w.heap.size + 1, 0, none⟩) (Nat.le_succ _) _).setCell (p := ⟨w.heap.size + 1 + 1, 0, none⟩) (show w.heap.size ≤ w.heap.size + 1 + 1 by omega) _).drew
    have hKV : (((W.setCell ⟨w.heap.size, 0, none⟩ (.int .i64 (endsOf ys).lo)).setCell ⟨w.heap.size + 1, 0, none⟩ (.int .i64 (endsOf ys).hi)).setCell ⟨w.heap.size + 1 + 1, 0, none⟩ (.bool (endsOf ys).some)).drew.heap[w.heap.size + 1 + 1 + 1]? = some (.deferred (some [])) :=
      ((((KeepsOthers.setCell _ _ _).trans (KeepsOthers.setCell _ _ _)).trans (KeepsOthers.setCell _ _ _)).trans (KeepsOthers.drew _)).same _ _ hK rfl
    generalize (((W.setCell ⟨w.heap.size, 0, none⟩ (.int .i64 (endsOf ys).lo)).setCell ⟨w.heap.size + 1, 0, none⟩ (.int .i64 (endsOf ys).hi)).setCell ⟨w.heap.size + 1 + 1, 0, none⟩ (.bool (endsOf ys).some)).drew = V at *
    obtain ⟨⟨t0, _⟩, ⟨t1, _⟩, ⟨t2, _⟩⟩ := T1
    have k0 := cell_kept t0 (grownBy_putObj' _ (w.heap.size + 1 + 1 + 1) (.deferred none)) (fun r e => by cases e; exact ⟨_, hKV, rfl⟩)
    have k1 := cell_kept t1 (grownBy_putObj' _ (w.heap.size + 1 + 1 + 1) (.deferred none)) (fun r e => by cases e; exact ⟨_, hKV, rfl⟩)
    have k2 := cell_kept t2 (grownBy_putObj' _ (w.heap.size + 1 + 1 + 1) (.deferred none)) (fun r e => by cases e; exact ⟨_, hKV, rfl⟩)
    refine ⟨by simp, .inl ⟨_, _, rfl, run_takeDeferred hKV, ?_⟩⟩
    refine ⟨.tuple #[.int .i64 (endsOf ys).lo, .int .i64 (endsOf ys).hi, .bool (endsOf ys).some], by simp [results, Try.results60, k0, k1, k2, go_sem], ys, hS, rfl, hB1.trans (belowK_b (w := w) (Nat.le_refl _) V _ _ _ (by omega) hKV rfl rfl)⟩
  case stop =>
    rintro c pre W _ h _
    exact h.elim
end Go.Proofs.Ytplipfcnjmgicaa
