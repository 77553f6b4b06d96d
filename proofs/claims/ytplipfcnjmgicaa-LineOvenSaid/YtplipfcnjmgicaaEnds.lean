/-
  THE CONTRACT OF ends[int]. No statement is proved here.
-/
import Derived.Test.YtplipfcnjmgicaaRows
import Derived.WalkKit
import Derived.ProofKit
import Derived.OpenShut
import Derived.Below
import Derived.Handy
import Derived.Lib.Hide
import Derived.RangeFuncNested
import Derived.RangeFuncBound
import Derived.RangeFuncCalls
import Derived.RangeFuncLeaves
import Derived.Shelf.Abstract
import Derived.Shelf.RegionOpen
import Derived.OwnWalkIn
import Derived.TacticsInMore
import Derived.LoopNIn
import Derived.LoopIn
import Derived.Deep.RegionHeld
namespace Go.Proofs.Ytplipfcnjmgicaa
open Go.RowKit Go.Shelf
set_option linter.unusedVariables false
set_option linter.unusedSimpArgs false
attribute [local go_sem] Oper.semAt_some

theorem cell_new_v (W : World) (v : Value) (t : TypeId) : (W.alloc (.cells #[v] t)).cell? ⟨W.heap.size, 0, none⟩ = some v ∧ (W.alloc (.cells #[v] t)).frozen? ⟨W.heap.size, 0, none⟩ = false := by simp [go_sem]
theorem cell_alloc_v {W : World} {a : Addr} {v : Value} (o : Obj) (h : W.cell? a = some v) : (W.alloc o).cell? a = some v := cell_kept h (World.grownBy_alloc W o none) (fun r e => by cases e)
theorem frozen_alloc_v {W : World} {a : Addr} {v : Value} (o : Obj) (h : W.cell? a = some v) (hf : W.frozen? a = false) : (W.alloc o).frozen? a = false := (frozen_kept h (World.grownBy_alloc W o none) (fun r e => by cases e)).trans hf

structure Ends where
  lo : Int
  hi : Int
  some : Bool
/-- The ends of a list. -/
def endsStep (p : Ends) (v : Int) : Ends := if p.some then ⟨if v < p.lo then v else p.lo, if p.hi < v then v else p.hi, true⟩ else ⟨v, v, true⟩
def endsOf (xs : List Int) : Ends := xs.foldl endsStep ⟨0, 0, false⟩
theorem endsOf_snoc (xs : List Int) (v : Int) : endsOf (xs ++ [v]) = endsStep (endsOf xs) v := by simp [endsOf]

/-- What the three variables hold. -/
def Three (b : Nat) (p : Ends) (W : World) : Prop :=
  (W.cell? ⟨b, 0, none⟩ = some (.int .i64 p.lo) ∧ W.frozen? ⟨b, 0, none⟩ = false) ∧ (W.cell? ⟨b + 1, 0, none⟩ = some (.int .i64 p.hi) ∧ W.frozen? ⟨b + 1, 0, none⟩ = false) ∧
  (W.cell? ⟨b + 1 + 1, 0, none⟩ = some (.bool p.some) ∧ W.frozen? ⟨b + 1 + 1, 0, none⟩ = false)


set_option maxRecDepth 100000 in
set_option maxHeartbeats 4000000 in
/-- 'least, greatest = min(least, v), max(greatest, v)', in a round. -/
theorem ends_region (l m : Nat) (b : Nat) (W : World) (lo hi x : Int) (v0 v1 v4 v6 v7 u8 u9 u10 u11 u12 u13 u14 u15 u16 u17 u18 u19 u20 : Value) (Q : Exit → Act → World → Prop)
    (h0 : W.cell? ⟨b, 0, none⟩ = some (.int .i64 lo)) (f0 : W.frozen? ⟨b, 0, none⟩ = false) (h1 : W.cell? ⟨b + 1, 0, none⟩ = some (.int .i64 hi)) (f1 : W.frozen? ⟨b + 1, 0, none⟩ = false)
    (K : ∀ a' W', W' = ((W.setCell ⟨b, 0, none⟩ (.int .i64 (if x < lo then x else lo))).setCell ⟨b + 1, 0, none⟩ (.int .i64 (if hi < x then x else hi))).drew → Q .normal a' W') :
    (Code.region 5 #[{ dst := some 12, op := Op.load 3 (Operand.tmp 2), type := 3, pos := "line.go:121", after := #[], guard := none }, { dst := some 13, op := Op.move (Operand.tmp 5), type := 3, pos := "line.go:121", after := #[], guard := none }, { dst := some 14, op := Op.call { callee := Callee.builtin Builtin.min, args := #[Operand.tmp 12, Operand.tmp 13], argTypes := #[3, 3] }, type := 3, pos := "line.go:121", after := #[{ on := 0, ground := Ground.data }, { on := 1, ground := Ground.data }], guard := none }, { dst := some 15, op := Op.load 3 (Operand.tmp 3), type := 3, pos := "line.go:121", after := #[], guard := none }, { dst := some 16, op := Op.move (Operand.tmp 5), type := 3, pos := "line.go:121", after := #[], guard := none }, { dst := some 17, op := Op.call { callee := Callee.builtin Builtin.max, args := #[Operand.tmp 15, Operand.tmp 16], argTypes := #[3, 3] }, type := 3, pos := "line.go:121", after := #[{ on := 3, ground := Ground.data }, { on := 4, ground := Ground.data }], guard := none }, { dst := none, op := Op.store 3 (Operand.tmp 2) (Operand.tmp 14), type := 0, pos := "line.go:121", after := #[{ on := 2, ground := Ground.data }, { on := 0, ground := Ground.phase }, { on := 1, ground := Ground.phase }, { on := 2, ground := Ground.phase }, { on := 3, ground := Ground.textOnly Departure.inlinedCapture }, { on := 4, ground := Ground.textOnly Departure.lateStores }, { on := 5, ground := Ground.textOnly Departure.lateStoresUnsure }], guard := none }, { dst := none, op := Op.store 3 (Operand.tmp 3) (Operand.tmp 17), type := 0, pos := "line.go:121", after := #[{ on := 5, ground := Ground.data }, { on := 6, ground := Ground.chain }, { on := 0, ground := Ground.phase }, { on := 1, ground := Ground.phase }, { on := 2, ground := Ground.phase }, { on := 3, ground := Ground.phase }, { on := 4, ground := Ground.phase }, { on := 5, ground := Ground.phase }, { on := 6, ground := Ground.phase }], guard := none }] true).wpIn (Fence.wide.inRound l) m Try.prog Q { tmps := #[v0, v1, .pointer (some ⟨b, 0, none⟩), .pointer (some ⟨b + 1, 0, none⟩), v4, .int .i64 x, v6, v7, u8, u9, u10, u11, u12, u13, u14, u15, u16, u17, u18, u19, u20], defers := [] } W := by
  have hmx : Try.prog.follows .mixedOrders = true := by kernel_rfl
  have HK := Lib.hid K
  clear K
  gi_region_with_o (fail)
  all_goals exact HK.out _ _ rfl

theorem cell_far1 {U : World} {b k : Nat} {v : Value} (h : b ≠ k) : (U.setCell ⟨b, 0, none⟩ v).cell? ⟨k, 0, none⟩ = U.cell? ⟨k, 0, none⟩ := World.cell?_setCell_far _ _ _ _ h
theorem cell_same1 {U : World} {b : Nat} {u v : Value} (h : U.cell? ⟨b, 0, none⟩ = some u) : (U.setCell ⟨b, 0, none⟩ v).cell? ⟨b, 0, none⟩ = some v := World.cell?_setCell_same _ _ _ h
theorem Three.set {b : Nat} {p q : Ends} {W : World} (h : Three b p W) : Three b q (((W.setCell ⟨b, 0, none⟩ (.int .i64 q.lo)).setCell ⟨b + 1, 0, none⟩ (.int .i64 q.hi)).setCell ⟨b + 1 + 1, 0, none⟩ (.bool q.some)) := by
  obtain ⟨⟨h0, f0⟩, ⟨h1, f1⟩, ⟨h2, f2⟩⟩ := h
  refine ⟨⟨?_, by simpa using f0⟩, ⟨?_, by simpa using f1⟩, ⟨?_, by simpa using f2⟩⟩
  · rw [cell_far1 (by omega), cell_far1 (by omega)]; exact cell_same1 h0
  · rw [cell_far1 (by omega)]; exact cell_same1 (by rw [cell_far1 (by omega)]; exact h1)
  · exact cell_same1 (by rw [cell_far1 (by omega), cell_far1 (by omega)]; exact h2)
theorem Three.set2 {b : Nat} {p : Ends} {lo hi : Int} {W : World} (h : Three b p W) : Three b ⟨lo, hi, p.some⟩ ((W.setCell ⟨b, 0, none⟩ (.int .i64 lo)).setCell ⟨b + 1, 0, none⟩ (.int .i64 hi)) := by
  obtain ⟨⟨h0, f0⟩, ⟨h1, f1⟩, ⟨h2, f2⟩⟩ := h
  refine ⟨⟨?_, by simpa using f0⟩, ⟨?_, by simpa using f1⟩, ⟨?_, by simpa using f2⟩⟩
  · rw [cell_far1 (by omega)]; exact cell_same1 h0
  · exact cell_same1 (by rw [cell_far1 (by omega)]; exact h1)
  · rw [cell_far1 (by omega), cell_far1 (by omega)]; exact h2
theorem Three.drew {b : Nat} {p : Ends} {W : World} (h : Three b p W) : Three b p W.drew := h

def EndsAre (S : List Int → Prop) (w : World) (e : Ending) (w' : World) : Prop :=
  ∃ xs, S xs ∧ e = .returned (.tuple #[.int .i64 (endsOf xs).lo, .int .i64 (endsOf xs).hi, .bool (endsOf xs).some]) ∧ Below w.heap.size w w'

set_option maxRecDepth 100000 in
set_option maxHeartbeats 4000000 in
theorem ends_in (gf : Nat) (lb : Array Value) (eg : ∀ args w, (callFunc gf args).run Try.prog w = .ok (.enter gf args) w) (S Sp : List Int → Prop) (N : Nat) (w : World)
    (hseq : SeqStopsK Fence.wide 3 Try.prog gf lb (fun x : Int => #[Value.int .i64 x]) (Below w.heap.size) S Sp N w) :
    Calls Try.prog 60 #[.func (.func gf) #[] lb] w (EndsAre S w) := by
  refine (callsIn_wide (n := 4)).1 ?_
  have HQ := Lib.hid hseq
  have EG := Lib.hid eg
  clear hseq eg
  refine callsIn_of_wp_marks Try.func60 rfl trivial ?_ rfl
  simp only [Try.ntmps60, List.size_toArray, List.length_cons, List.length_nil, Nat.reduceAdd, Nat.reduceSub, Array.replicate_succ, Array.replicate_zero, List.push_toArray, List.append_toArray, List.nil_append, List.cons_append]
  gi_wp2
  have n0 : w.heap.size ≤ w.heap.size := Nat.le_refl _
  have hB0 : Below w.heap.size w (((w.alloc (.cells #[.int .i64 0] 3)).alloc (.cells #[.int .i64 0] 3)).alloc (.cells #[.bool false] 4)) := by go_grown
  have c0 := cell_new_v w (.int .i64 0) 3
  have c1 := cell_new_v (w.alloc (.cells #[.int .i64 0] 3)) (.int .i64 0) 3
  have c2 := cell_new_v ((w.alloc (.cells #[.int .i64 0] 3)).alloc (.cells #[.int .i64 0] 3)) (.bool false) 4
  simp only [World.size_alloc] at c1 c2
  refine wpIn_rangeFunc_ownF rfl (by decide) (gf := gf) (lb := lb) rfl trivial EG.out HQ.out belowK_t (belowK_b (by simp; omega)) hB0 (fun _ => rfl)
    (fun pre W => Three w.heap.size (endsOf pre) W ∧ Below w.heap.size w W)
    (fun _ _ _ => False)
    (OwnFrom.and (Own.from (fun s A B row hs hg hr => ⟨⟨cell_kept hs.1.1 hg hr, (frozen_kept hs.1.1 hg hr).trans hs.1.2⟩, ⟨cell_kept hs.2.1.1 hg hr, (frozen_kept hs.2.1.1 hg hr).trans hs.2.1.2⟩, ⟨cell_kept hs.2.2.1 hg hr, (frozen_kept hs.2.2.1 hg hr).trans hs.2.2.2⟩⟩) _) (ownFrom_below (Nat.le_refl _) (by simp; omega)))
    (fun _ _ _ _ _ hs _ _ => hs)
    ⟨⟨⟨cell_alloc_v _ (cell_alloc_v _ c0.1), frozen_alloc_v _ (cell_alloc_v _ c0.1) (frozen_alloc_v _ c0.1 c0.2)⟩, ⟨cell_alloc_v _ c1.1, frozen_alloc_v _ c1.1 c1.2⟩, c2⟩, hB0⟩
    (fun x => { tmps := #[.func (.func gf) #[] lb, undef, .pointer (some ⟨w.heap.size, 0, none⟩), .pointer (some ⟨w.heap.size + 1, 0, none⟩), .pointer (some ⟨w.heap.size + 1 + 1, 0, none⟩), .int .i64 x, .func (.func gf) #[] lb, .int .i64 x, undef, undef, undef, undef, undef, undef, undef, undef, undef, undef, undef, undef, undef], defers := [] }) ?assign ?body ?done ?stop
  case assign =>
    intro l x W K hK
    gi_wp2
    exact hK
  case body =>
    clear c0 c1 c2 hB0
    rintro l pre x W ⟨⟨⟨h0, f0⟩, ⟨h1, f1⟩, ⟨h2, f2⟩⟩, hB⟩ _
    have hsn := endsOf_snoc pre x
    have hmx : Try.prog.follows .mixedOrders = true := by kernel_rfl
    generalize endsOf pre = p at *
    obtain ⟨lo, hi, sm⟩ := p
    have HSN := Lib.hid hsn
    clear hsn
    dsimp only at h0 h1 h2
    cases sm with
    | true =>
      have T : Three w.heap.size ⟨lo, hi, true⟩ W := ⟨⟨h0, f0⟩, ⟨h1, f1⟩, ⟨h2, f2⟩⟩
      gi_wp2
      refine ends_region l _ w.heap.size W lo hi x _ _ _ _ _ _ _ _ _ _ _ _ _ _ _ _ _ _ _ h0 f0 h1 f1 ?_
      rintro a' _ rfl
      exact ⟨((KeepsOthers.setCell _ _ _).trans (KeepsOthers.setCell _ _ _)).trans (KeepsOthers.drew _), (((Below.refl w.heap.size W).setCell (p := ⟨w.heap.size, 0, none⟩) (Nat.le_refl _) _).setCell (p := ⟨w.heap.size + 1, 0, none⟩) (Nat.le_succ _) _).drew,
        by rw [HSN.out]; exact T.set2.drew, ((hB.setCell (p := ⟨w.heap.size, 0, none⟩) (Nat.le_refl _) _).setCell (p := ⟨w.heap.size + 1, 0, none⟩) (Nat.le_succ _) _).drew⟩
    | false =>
      have T : Three w.heap.size ⟨lo, hi, false⟩ W := ⟨⟨h0, f0⟩, ⟨h1, f1⟩, ⟨h2, f2⟩⟩
      have T1 := T.set (q := ⟨x, x, true⟩)
      have hB1 : Below w.heap.size w (((W.setCell ⟨w.heap.size, 0, none⟩ (.int .i64 x)).setCell ⟨w.heap.size + 1, 0, none⟩ (.int .i64 x)).setCell ⟨w.heap.size + 1 + 1, 0, none⟩ (.bool true)) :=
        ((hB.setCell (p := ⟨w.heap.size, 0, none⟩) (Nat.le_refl _) _).setCell (p := ⟨w.heap.size + 1, 0, none⟩) (Nat.le_succ _) _).setCell (p := ⟨w.heap.size + 1 + 1, 0, none⟩) (show w.heap.size ≤ w.heap.size + 1 + 1 by omega) _
      have hB2 : Below w.heap.size W (((W.setCell ⟨w.heap.size, 0, none⟩ (.int .i64 x)).setCell ⟨w.heap.size + 1, 0, none⟩ (.int .i64 x)).setCell ⟨w.heap.size + 1 + 1, 0, none⟩ (.bool true)) :=
        (((Below.refl w.heap.size W).setCell (p := ⟨w.heap.size, 0, none⟩) (Nat.le_refl _) _).setCell (p := ⟨w.heap.size + 1, 0, none⟩) (Nat.le_succ _) _).setCell (p := ⟨w.heap.size + 1 + 1, 0, none⟩) (show w.heap.size ≤ w.heap.size + 1 + 1 by omega) _
      have T2 := T1.set2 (lo := x) (hi := x)
      gi_wp2
      refine ends_region l _ w.heap.size _ x x x _ _ _ _ _ _ _ _ _ _ _ _ _ _ _ _ _ _ _ T1.1.1 T1.1.2 T1.2.1.1 T1.2.1.2 ?_
      rintro a' _ rfl
      simp only [if_neg (Int.lt_irrefl x)]
      exact ⟨(((((KeepsOthers.setCell _ _ _).trans (KeepsOthers.setCell _ _ _)).trans (KeepsOthers.setCell _ _ _)).trans (KeepsOthers.setCell _ _ _)).trans (KeepsOthers.setCell _ _ _)).trans (KeepsOthers.drew _),
        ((hB2.setCell (p := ⟨w.heap.size, 0, none⟩) (Nat.le_refl _) _).setCell (p := ⟨w.heap.size + 1, 0, none⟩) (Nat.le_succ _) _).drew, by rw [HSN.out]; exact T2.drew,
        ((hB1.setCell (p := ⟨w.heap.size, 0, none⟩) (Nat.le_refl _) _).setCell (p := ⟨w.heap.size + 1, 0, none⟩) (Nat.le_succ _) _).drew⟩
  case done =>
    rintro D ys W hD hS ⟨⟨⟨h0, f0⟩, ⟨h1, f1⟩, ⟨h2, f2⟩⟩, hB⟩ hK
    have hmx : Try.prog.follows .mixedOrders = true := by kernel_rfl
    gi_wp2
    gi_region_o
    gi_wp2
    have T : Three w.heap.size (endsOf ys) W := ⟨⟨h0, f0⟩, ⟨h1, f1⟩, ⟨h2, f2⟩⟩
    have T1 := (T.set (q := endsOf ys)).drew
    have hB1 : Below w.heap.size w (((W.setCell ⟨w.heap.size, 0, none⟩ (.int .i64 (endsOf ys).lo)).setCell ⟨w.heap.size + 1, 0, none⟩ (.int .i64 (endsOf ys).hi)).setCell ⟨w.heap.size + 1 + 1, 0, none⟩ (.bool (endsOf ys).some)).drew :=
      (((hB.setCell (p := ⟨w.heap.size, 0, none⟩) (Nat.le_refl _) _).setCell (p := ⟨w.heap.size + 1, 0, none⟩) (Nat.le_succ _) _).setCell (p := ⟨w.heap.size + 1 + 1, 0, none⟩) (show w.heap.size ≤ w.heap.size + 1 + 1 by omega) _).drew
    have hKV : (((W.setCell ⟨w.heap.size, 0, none⟩ (.int .i64 (endsOf ys).lo)).setCell ⟨w.heap.size + 1, 0, none⟩ (.int .i64 (endsOf ys).hi)).setCell ⟨w.heap.size + 1 + 1, 0, none⟩ (.bool (endsOf ys).some)).drew.heap[D]? = some (.deferred (some [])) :=
      ((((KeepsOthers.setCell _ _ _).trans (KeepsOthers.setCell _ _ _)).trans (KeepsOthers.setCell _ _ _)).trans (KeepsOthers.drew _)).same D _ hK rfl
    generalize (((W.setCell ⟨w.heap.size, 0, none⟩ (.int .i64 (endsOf ys).lo)).setCell ⟨w.heap.size + 1, 0, none⟩ (.int .i64 (endsOf ys).hi)).setCell ⟨w.heap.size + 1 + 1, 0, none⟩ (.bool (endsOf ys).some)).drew = V at *
    obtain ⟨⟨t0, _⟩, ⟨t1, _⟩, ⟨t2, _⟩⟩ := T1
    have k0 := cell_kept t0 (grownBy_putObj' _ D (.deferred none)) (fun r e => by cases e; exact ⟨_, hKV, rfl⟩)
    have k1 := cell_kept t1 (grownBy_putObj' _ D (.deferred none)) (fun r e => by cases e; exact ⟨_, hKV, rfl⟩)
    have k2 := cell_kept t2 (grownBy_putObj' _ D (.deferred none)) (fun r e => by cases e; exact ⟨_, hKV, rfl⟩)
    refine ⟨by simp, .inl ⟨_, _, rfl, run_takeDeferred hKV, ?_⟩⟩
    refine ⟨.tuple #[.int .i64 (endsOf ys).lo, .int .i64 (endsOf ys).hi, .bool (endsOf ys).some], by simp [results, Try.results60, k0, k1, k2, go_sem], ys, hS, rfl, hB1.trans (belowK_b (w := w) (Nat.le_refl _) V D _ _ (by simp at hD; omega) hKV rfl rfl)⟩
  case stop =>
    rintro D c pre W _ _ h _
    exact h.elim
end Go.Proofs.Ytplipfcnjmgicaa
