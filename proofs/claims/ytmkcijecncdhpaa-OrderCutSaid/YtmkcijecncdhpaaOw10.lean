/-
  CONTRACT OF when. No statement is proved here.
-/
import Derived.Test.YtmkcijecncdhpaaOw9
import Derived.Deep.RegionHeld
namespace Go.Proofs.Ytmkcijecncdhpaa
open Go.RowKit Go.Shelf
set_option linter.unusedVariables false
set_option linter.unusedSimpArgs false
attribute [local go_sem] Oper.semAt_some

theorem infoWait : (Try.prog.info? 98).map (fun i => (i.zero, i.size, i.bytes)) = some (some (.agg #[.int .i64 0, .int .i64 0]), 2, 16) := by kernel_rfl
theorem waitCells_length (l : List (Int × Int)) : (waitCells l).length = l.length * 2 := by
  induction l with
  | nil => rfl
  | cons x l ih => simp only [waitCells, List.flatMap_cons, List.length_append, List.length_cons, List.length_nil] at *; omega
theorem row_owned {U : World} {base k : Nat} {l : List (Int × Int)} (h : RowIs U k 98 (waitCells l)) (hb : base ≤ k) (hl : l.length ≤ 1000) :
    U.ownsRow base 98 2 (.slice (some ⟨k, 0, none⟩) l.length l.length) l.length (waitCells l) :=
  ⟨waitCells_length l, .inr ⟨k, l.length, (waitCells l).toArray, rfl, hb, h, Nat.le_refl _, by unfold maxLen; omega, by simp [waitCells_length], by rw [List.take_of_length_le (by simp [waitCells_length])]⟩⟩
theorem waitsO_len (a f o : Int) : (waitsO a f o).length ≤ 3 := by
  unfold waitsO
  repeat' split
  all_goals simp
theorem waitsO_ok {a f o n : Int} (h : OkOrder a f o n) : ∀ x ∈ waitsO a f o ++ [(n, 0)], WaitB x := by
  obtain ⟨_, h1, h2, h3⟩ := h
  intro x hx
  rcases List.mem_append.1 hx with hx | hx
  · unfold waitsO at hx
    repeat' split at hx
    all_goals
      simp only [List.mem_cons, List.not_mem_nil, or_false] at hx
      first
        | (subst hx; exact ⟨by assumption, by simp⟩)
        | (rcases hx with rfl | rfl <;> exact ⟨by assumption, by simp⟩)
        | (rcases hx with rfl | rfl | rfl <;> exact ⟨by assumption, by simp⟩)
  · rw [List.mem_singleton.1 hx]
    exact ⟨h3, by simp⟩
/-- What the variables of when hold before the words come by. -/
structure WhenW (w : World) (a f o n u : Int) (U : World) : Prop where
  below : Below w.heap.size w U
  c0 : U.cell? ⟨w.heap.size, 0, none⟩ = some (.int .i64 a)
  c1 : U.cell? ⟨w.heap.size, 1, none⟩ = some (.int .i64 f)
  c2 : U.cell? ⟨w.heap.size, 2, none⟩ = some (.int .i64 o)
  c3 : U.cell? ⟨w.heap.size, 3, none⟩ = some (.int .i64 n)
  cu : U.cell? ⟨w.heap.size + 1, 0, none⟩ = some (.int .i64 u)
  fu : U.frozen? ⟨w.heap.size + 1, 0, none⟩ = false
  size : w.heap.size + 1 < U.heap.size
theorem WhenW.keep {w U V : World} {a f o n u : Int} (h : WhenW w a f o n u U) (hb : Below (w.heap.size + 1 + 1) U V) : WhenW w a f o n u V :=
  have hs := h.size
  have c : ∀ j, V.cell? ⟨w.heap.size, j, none⟩ = U.cell? ⟨w.heap.size, j, none⟩ := fun j => hb.cell (p := ⟨w.heap.size, j, none⟩) (by show w.heap.size < _; omega)
  ⟨h.below.trans (below_lower (by omega) hb), (c 0).trans h.c0, (c 1).trans h.c1, (c 2).trans h.c2, (c 3).trans h.c3, (hb.cell (p := ⟨w.heap.size + 1, 0, none⟩) (by show w.heap.size + 1 < _; omega)).trans h.cu, (hb.frozen (p := ⟨w.heap.size + 1, 0, none⟩) (by show w.heap.size + 1 < _; omega)).trans h.fu, Nat.lt_of_lt_of_le hs hb.size⟩
theorem WhenW.after {w U V : World} {a f o n u : Int} (h : WhenW w a f o n u U) (hb : Below U.heap.size U V) : WhenW w a f o n u V := h.keep (below_lower (by have := h.size; omega) hb)
theorem whenW_new (w : World) (a f o n : Int) : WhenW w a f o n 0 ((w.alloc (.cells #[.int .i64 a, .int .i64 f, .int .i64 o, .int .i64 n] 33)).alloc (.cells #[.int .i64 0] 3)) := by
  constructor
  · go_grown
  all_goals simp [go_sem]

theorem below_grown_any {B : Nat} {a w w' : World} {base n size : Nat} {e : TypeId} {v : Value} {xs : List Value} (h : Below B a w) (hg : w.grownBy w' v.ownBlock) (hB : B ≤ w.heap.size) (hown : w.ownsRow base e size v n xs) (hb : B ≤ base) : Below B a w' :=
  h.grown hg hB fun k hk => Nat.le_trans hb (hown.lt k hk).1
theorem last_cycs (t : Int) (l : List (Int × Int)) (x : Int × Int) : (cycs t (l ++ [x])).getLastD 0 = lastC t (l ++ [x]) := by
  rw [cycs_snoc, lastC_snoc, List.getLastD_concat]
/-- What the variable until holds. -/
structure UntilW (w : World) (pre : List Int) (U : World) : Prop where
  cu : U.cell? ⟨w.heap.size + 1, 0, none⟩ = some (.int .i64 (pre.getLastD 0))
  fu : U.frozen? ⟨w.heap.size + 1, 0, none⟩ = false
  below : Below w.heap.size w U
theorem untilW_own (w : World) (B : Nat) (hB : w.heap.size ≤ B) : OwnFrom B (UntilW w) := fun s U V row h hg hr =>
  ⟨cell_kept h.cu hg (fun r e => (hr r e).2), (frozen_kept h.cu hg (fun r e => (hr r e).2)).trans h.fu, h.below.grown hg h.below.size (fun k e => Nat.le_trans hB (hr k e).1)⟩
theorem cell_same1 {U : World} {b : Nat} {u v : Value} (h : U.cell? ⟨b, 0, none⟩ = some u) : (U.setCell ⟨b, 0, none⟩ v).cell? ⟨b, 0, none⟩ = some v := World.cell?_setCell_same _ _ _ h
theorem UntilW.set {w U : World} {pre pre' : List Int} (h : UntilW w pre U) : UntilW w pre' (U.setCell ⟨w.heap.size + 1, 0, none⟩ (.int .i64 (pre'.getLastD 0))) :=
  ⟨cell_same1 h.cu, by simpa using h.fu, h.below.setCell (p := ⟨w.heap.size + 1, 0, none⟩) (by show w.heap.size ≤ w.heap.size + 1; omega) _⟩
theorem waitCells_at (l : List (Int × Int)) : ∀ (j : Nat) (h : j < l.length), (waitCells l)[j * 2]? = some (.int .i64 l[j].1) ∧ (waitCells l)[j * 2 + 1]? = some (.int .i64 l[j].2) := by
  induction l with
  | nil => intro j h; cases h
  | cons x l ih =>
    intro j h
    cases j with
    | zero => exact ⟨rfl, rfl⟩
    | succ j =>
      have h1 := ih j (by simpa using h)
      have e : waitCells (x :: l) = .int .i64 x.1 :: .int .i64 x.2 :: waitCells l := rfl
      rw [e, show (j + 1) * 2 = j * 2 + 1 + 1 by omega]
      simpa using h1
theorem waits_owned {U : World} {base g cap n : Nat} {l : List (Int × Int)} (h : U.ownsRow base 98 2 (.slice (some ⟨g, 0, none⟩) n cap) n (waitCells l)) : WaitsAt U U.heap.size (some ⟨g, 0, none⟩) l := fun _ => by
  refine ⟨_, rfl, (h.lt g rfl).2, fun j hj => ?_⟩
  obtain ⟨h1, h2⟩ := waitCells_at l j hj
  have k1 := h.cells rfl _ _ h1
  have k2 := h.cells rfl _ _ h2
  rw [add_zero_off] at k1 k2 ⊢
  exact ⟨k1, k2⟩

set_option maxRecDepth 100000 in
set_option maxHeartbeats 4000000 in
theorem when_x (a f o n t : Int) (b : Bool) (h : OkOrder a f o n) (ha : (a == 5) = false) (ht : 0 ≤ t ∧ t ≤ 1000000100) (w : World) :
    Calls Try.prog 49 #[ordV a f o n, .int .i64 t, .bool b] w (WhenIs w n (lastC t (waitsO a f o ++ [(n, 0)]))) := by
  refine (callsIn_wide (n := 4)).1 ?_
  have KW := Lib.hid (waits_any a f o n h.op)
  refine callsIn_of_wp_marks Try.func49 rfl trivial ?_ rfl
  simp only [Try.ntmps49, List.size_toArray, List.length_cons, List.length_nil, Nat.reduceAdd, Nat.reduceSub, Array.replicate_succ, Array.replicate_zero, List.push_toArray, List.append_toArray, List.nil_append, List.cons_append]
  gi_wp2_with fail
  refine ⟨trivial, ?_⟩
  refine (callsIn_wide.2 (KW.out _)).mono ?_; rintro e U ⟨k, rfl, hk, hrow, hb⟩
  have P0 := (whenW_new w a f o n).after hb
  simp only [World.size_alloc] at hk
  clear hb
  have hwl := waitsO_len a f o
  have hwb := waitsO_ok h
  have hown := row_owned (base := w.heap.size + 1 + 1) hrow hk (by omega)
  obtain ⟨iw, hi0, hi1, hi2, hi3⟩ := info_parts infoWait
  generalize hws : waitsO a f o = ws at *
  have HWS := Lib.hid hws
  clear hws hrow
  have hsz := P0.size
  gi_wp2_with (gi_at_builtin; refine wpListIn_append_own _ rfl _ _ 95 rfl (w.heap.size + 1 + 1) 98 iw (.agg #[.int .i64 0, .int .i64 0]) 2 16 Try.underlying95 hi0 hi1 hi2 hi3 rfl (by decide) _ _ _ rfl (hown.alloc _) ⟨U.heap.size, 0, none⟩ 1 1 [.int .i64 n, .int .i64 0] rfl rfl ?c1 ?c2 ?c3 ?c4 ?c5 ?_)
  case c1 => 
    intro j u hj
    match j, hj with
    | 0, hj => cases hj; simp [go_sem, Addr.add]
    | 1, hj => cases hj; simp [go_sem, Addr.add]
  case c2 => intro u hu; simp at hu; rcases hu with rfl | rfl <;> rfl
  case c3 => unfold maxLen; omega
  case c4 => omega
  case c5 => simp; omega
  intro v' w1 hown' hgrow _
  have hB1 : Below (w.heap.size + 1 + 1) (U.alloc (.cells #[.int .i64 n, .int .i64 0] 98)) w1 := below_grown_any (Below.refl _ _) hgrow (by simp; omega) (hown.alloc _) (Nat.le_refl _)
  have P1 := (P0.after ((Below.refl _ _).alloc (Nat.le_refl _) _)).keep hB1
  clear P0 hB1 hown hgrow
  rw [show waitCells ws ++ [.int .i64 n, .int .i64 0] = waitCells (ws ++ [(n, 0)]) by simp [waitCells]] at hown'
  obtain ⟨g, cap, rfl, hg⟩ : ∃ g cap, v' = .slice (some ⟨g, 0, none⟩) (ws.length + 1) cap ∧ w.heap.size + 1 + 1 ≤ g := by
    rcases hown'.2 with ⟨_, h0⟩ | ⟨g, cap, cur, h1, h2, _⟩
    · omega
    · exact ⟨g, cap, h1, h2⟩
  have hgl := (hown'.lt g rfl).2
  have hR := waits_owned hown'
  have hsz1 := P1.size
  clear hown'
  gi_wp2_with fail
  refine ⟨trivial, ?_⟩
  refine (callsIn_wide.2 (comeBy_any t (some ⟨g, 0, none⟩) (ws.length + 1) cap _)).mono ?_; rintro e Z ⟨rfl, hZ⟩
  have hbZ : Below w1.heap.size w1 Z := by rw [hZ]; go_grown
  have P2 := P1.after hbZ
  have htc : Z.cell? ⟨w1.heap.size, 0, none⟩ = some (.int .i64 t) := by rw [hZ]; simp [go_sem]
  have hwc : Z.cell? ⟨w1.heap.size + 1, 0, none⟩ = some (.slice (some ⟨g, 0, none⟩) (ws.length + 1) cap) := by rw [hZ]; simp [go_sem]
  have hsZ : Z.heap.size = w1.heap.size + 1 + 1 := by rw [hZ]; simp
  have hRZ : WaitsAt Z w1.heap.size (some ⟨g, 0, none⟩) (ws ++ [(n, 0)]) := hR.keeps (Keeps.of_below (S := fun k => k < w1.heap.size) hbZ (fun k hk => hk)) (fun ad e => by cases e; exact hgl)
  clear hZ P1 hR hbZ
  gi_wp2_with fail
  have EG := fun args w => enters_of Try.func80 (by kernel_rfl) rfl args w
  have hsw : w.heap.size ≤ Z.heap.size := P2.below.size
  have hseq := comes_stops t ht (ws ++ [(n, 0)]) hwb (by simp; omega) (some ⟨g, 0, none⟩) cap 3 (by decide) w1.heap.size (w1.heap.size + 1) w1.heap.size (fun k => k < w.heap.size ∨ k = w1.heap.size ∨ k = w1.heap.size + 1 ∨ k = g) Z (.inr (.inr (.inl rfl))) (.inr (.inl rfl)) (fun ad e => by cases e; exact .inr (.inr (.inr rfl))) (fun k hk => by omega) htc (by simpa using hwc) hRZ
  have HL := Lib.hid (last_cycs t ws (n, 0))
  refine wpIn_rangeFunc_ownF rfl (by decide) (gf := 80) (lb := #[.pointer (some ⟨w1.heap.size, 0, none⟩), .pointer (some ⟨w1.heap.size + 1, 0, none⟩)]) rfl trivial EG hseq
    (fun h k => h.trans k) (fun W l o o' hl _ _ _ => ⟨by simp, fun k hk => World.putObj_heap_other (by omega)⟩) (Below.refl _ _) (fun _ => rfl)
    (UntilW w) (fun _ _ _ => False)
    (untilW_own w _ hsw) (fun _ _ _ _ _ hs _ _ => hs)
    ⟨P2.cu, P2.fu, P2.below⟩
    (fun x => { tmps := #[ordV a f o n, .int .i64 t, .bool b, .pointer (some ⟨w.heap.size, 0, none⟩), undef, undef, .int .i64 n, .pointer (some ⟨w.heap.size + 1, 0, none⟩), .int .i64 x, .pointer (some ⟨w.heap.size, 3, none⟩), .int .i64 n, .pointer (some ⟨w.heap.size, 0, none⟩), .int .i64 a, .bool false, .bool false, undef, .bool false, undef, undef, .int .i64 t, .agg #[.int .i64 a, .int .i64 f, .int .i64 o, .int .i64 n], .slice (some ⟨k, 0, none⟩) ws.length ws.length, .int .i64 n, .agg #[.int .i64 n, .int .i64 0], .slice (some ⟨U.heap.size, 0, none⟩) 1 1, .slice (some ⟨g, 0, none⟩) (ws.length + 1) cap, .func (.func 80) #[] #[.pointer (some ⟨w1.heap.size, 0, none⟩), .pointer (some ⟨w1.heap.size + 1, 0, none⟩)], .int .i64 x, undef, undef, undef], defers := [] }) ?assign ?body ?done ?stop
  case assign =>
    intro l x W K hK
    gi_wp2
    exact hK
  case body =>
    clear P2 htc hwc hRZ hseq EG HL
    rintro l pre x W hI hlen
    have q0 := hI.cu
    have q1 := hI.fu
    have hI2 := hI.set (pre' := pre ++ [x])
    rw [List.getLastD_concat] at hI2
    have HI := Lib.hid hI2
    clear hI2
    gi_wp2
    refine ⟨KeepsOthers.setCell _ _ _, (Keeps.refl _ _).setCell (p := ⟨w.heap.size + 1, 0, none⟩) (fun h => ?_) _, HI.out⟩
    simp only at h
    omega
  case done =>
    clear P2 htc hwc hRZ hseq EG
    rintro D ys W hD hS hI hK
    have hYS : ys = cycs t (ws ++ [(n, 0)]) := hS
    have HY : Hid (ys.getLastD 0 = lastC t (ws ++ [(n, 0)])) := Lib.hid (by rw [hYS]; exact HL.out)
    clear hS hYS HL
    have hmx : Try.prog.follows .mixedOrders = true := by kernel_rfl
    have q0 := hI.cu
    have q1 := hI.fu
    gi_wp2
    gi_region_o
    gi_wp2
    obtain ⟨V, hV⟩ : ∃ V, V = (W.setCell ⟨w.heap.size + 1, 0, none⟩ (.int .i64 (ys.getLast?.getD 0))).drew := ⟨_, rfl⟩
    have IV : UntilW w ys V := by
      have h1 := hI.set (pre' := ys)
      rw [List.getLastD_eq_getLast?] at h1
      rw [hV]
      exact ⟨by rw [List.getLastD_eq_getLast?]; exact (by simpa [List.getLastD_eq_getLast?] using h1.cu), h1.fu, h1.below.drew⟩
    have hKV : V.heap[D]? = some (.deferred (some [])) := by rw [hV]; exact ((KeepsOthers.setCell _ _ _).trans (KeepsOthers.drew _)).same D _ hK rfl
    rw [← hV]
    clear hV q0 q1 hI hK
    have k0 := cell_kept IV.cu (grownBy_putObj' _ D (.deferred none)) (fun r e => by cases e; exact ⟨_, hKV, rfl⟩)
    refine ⟨by simp, .inl ⟨_, _, rfl, run_takeDeferred hKV, ?_⟩⟩
    exact ⟨.tuple #[.int .i64 n, .int .i64 (ys.getLastD 0)], by simp [results, Try.results49, k0, go_sem], by rw [HY.out], IV.below.trans (belowK_b (w := w) (Nat.le_refl _) V D _ _ (by omega) hKV rfl rfl)⟩
  case stop =>
    rintro D c pre W _ _ h _
    exact h.elim
set_option maxRecDepth 100000 in
set_option maxHeartbeats 4000000 in
theorem when_f (f o n t : Int) (h : OkOrder 5 f o n) (ht : 0 ≤ t ∧ t ≤ 1000000100) (w : World) :
    Calls Try.prog 49 #[ordV 5 f o n, .int .i64 t, .bool false] w (WhenIs w n (lastC t (waitsO 5 f o ++ [(n, 0)]))) := by
  refine (callsIn_wide (n := 4)).1 ?_
  have KW := Lib.hid (waits_any 5 f o n h.op)
  refine callsIn_of_wp_marks Try.func49 rfl trivial ?_ rfl
  simp only [Try.ntmps49, List.size_toArray, List.length_cons, List.length_nil, Nat.reduceAdd, Nat.reduceSub, Array.replicate_succ, Array.replicate_zero, List.push_toArray, List.append_toArray, List.nil_append, List.cons_append]
  gi_wp2_with fail
  refine ⟨trivial, ?_⟩
  refine (callsIn_wide.2 (KW.out _)).mono ?_; rintro e U ⟨k, rfl, hk, hrow, hb⟩
  have P0 := (whenW_new w 5 f o n).after hb
  simp only [World.size_alloc] at hk
  clear hb
  have hwl := waitsO_len 5 f o
  have hwb := waitsO_ok h
  have hown := row_owned (base := w.heap.size + 1 + 1) hrow hk (by omega)
  obtain ⟨iw, hi0, hi1, hi2, hi3⟩ := info_parts infoWait
  generalize hws : waitsO 5 f o = ws at *
  have HWS := Lib.hid hws
  clear hws hrow
  have hsz := P0.size
  gi_wp2_with (gi_at_builtin; refine wpListIn_append_own _ rfl _ _ 95 rfl (w.heap.size + 1 + 1) 98 iw (.agg #[.int .i64 0, .int .i64 0]) 2 16 Try.underlying95 hi0 hi1 hi2 hi3 rfl (by decide) _ _ _ rfl (hown.alloc _) ⟨U.heap.size, 0, none⟩ 1 1 [.int .i64 n, .int .i64 0] rfl rfl ?c1 ?c2 ?c3 ?c4 ?c5 ?_)
  case c1 => 
    intro j u hj
    match j, hj with
    | 0, hj => cases hj; simp [go_sem, Addr.add]
    | 1, hj => cases hj; simp [go_sem, Addr.add]
  case c2 => intro u hu; simp at hu; rcases hu with rfl | rfl <;> rfl
  case c3 => unfold maxLen; omega
  case c4 => omega
  case c5 => simp; omega
  intro v' w1 hown' hgrow _
  have hB1 : Below (w.heap.size + 1 + 1) (U.alloc (.cells #[.int .i64 n, .int .i64 0] 98)) w1 := below_grown_any (Below.refl _ _) hgrow (by simp; omega) (hown.alloc _) (Nat.le_refl _)
  have P1 := (P0.after ((Below.refl _ _).alloc (Nat.le_refl _) _)).keep hB1
  clear P0 hB1 hown hgrow
  rw [show waitCells ws ++ [.int .i64 n, .int .i64 0] = waitCells (ws ++ [(n, 0)]) by simp [waitCells]] at hown'
  obtain ⟨g, cap, rfl, hg⟩ : ∃ g cap, v' = .slice (some ⟨g, 0, none⟩) (ws.length + 1) cap ∧ w.heap.size + 1 + 1 ≤ g := by
    rcases hown'.2 with ⟨_, h0⟩ | ⟨g, cap, cur, h1, h2, _⟩
    · omega
    · exact ⟨g, cap, h1, h2⟩
  have hgl := (hown'.lt g rfl).2
  have hR := waits_owned hown'
  have hsz1 := P1.size
  clear hown'
  gi_wp2_with fail
  refine ⟨trivial, ?_⟩
  refine (callsIn_wide.2 (comeBy_any t (some ⟨g, 0, none⟩) (ws.length + 1) cap _)).mono ?_; rintro e Z ⟨rfl, hZ⟩
  have hbZ : Below w1.heap.size w1 Z := by rw [hZ]; go_grown
  have P2 := P1.after hbZ
  have htc : Z.cell? ⟨w1.heap.size, 0, none⟩ = some (.int .i64 t) := by rw [hZ]; simp [go_sem]
  have hwc : Z.cell? ⟨w1.heap.size + 1, 0, none⟩ = some (.slice (some ⟨g, 0, none⟩) (ws.length + 1) cap) := by rw [hZ]; simp [go_sem]
  have hsZ : Z.heap.size = w1.heap.size + 1 + 1 := by rw [hZ]; simp
  have hRZ : WaitsAt Z w1.heap.size (some ⟨g, 0, none⟩) (ws ++ [(n, 0)]) := hR.keeps (Keeps.of_below (S := fun k => k < w1.heap.size) hbZ (fun k hk => hk)) (fun ad e => by cases e; exact hgl)
  clear hZ P1 hR hbZ
  gi_wp2_with fail
  have EG := fun args w => enters_of Try.func80 (by kernel_rfl) rfl args w
  have hsw : w.heap.size ≤ Z.heap.size := P2.below.size
  have hseq := comes_stops t ht (ws ++ [(n, 0)]) hwb (by simp; omega) (some ⟨g, 0, none⟩) cap 3 (by decide) w1.heap.size (w1.heap.size + 1) w1.heap.size (fun k => k < w.heap.size ∨ k = w1.heap.size ∨ k = w1.heap.size + 1 ∨ k = g) Z (.inr (.inr (.inl rfl))) (.inr (.inl rfl)) (fun ad e => by cases e; exact .inr (.inr (.inr rfl))) (fun k hk => by omega) htc (by simpa using hwc) hRZ
  have HL := Lib.hid (last_cycs t ws (n, 0))
  refine wpIn_rangeFunc_ownF rfl (by decide) (gf := 80) (lb := #[.pointer (some ⟨w1.heap.size, 0, none⟩), .pointer (some ⟨w1.heap.size + 1, 0, none⟩)]) rfl trivial EG hseq
    (fun h k => h.trans k) (fun W l o o' hl _ _ _ => ⟨by simp, fun k hk => World.putObj_heap_other (by omega)⟩) (Below.refl _ _) (fun _ => rfl)
    (UntilW w) (fun _ _ _ => False)
    (untilW_own w _ hsw) (fun _ _ _ _ _ hs _ _ => hs)
    ⟨P2.cu, P2.fu, P2.below⟩
    (fun x => { tmps := #[ordV 5 f o n, .int .i64 t, .bool false, .pointer (some ⟨w.heap.size, 0, none⟩), undef, undef, .int .i64 n, .pointer (some ⟨w.heap.size + 1, 0, none⟩), .int .i64 x, .pointer (some ⟨w.heap.size, 3, none⟩), .int .i64 n, .pointer (some ⟨w.heap.size, 0, none⟩), .int .i64 5, .bool true, .bool true, .bool false, .bool false, undef, undef, .int .i64 t, .agg #[.int .i64 5, .int .i64 f, .int .i64 o, .int .i64 n], .slice (some ⟨k, 0, none⟩) ws.length ws.length, .int .i64 n, .agg #[.int .i64 n, .int .i64 0], .slice (some ⟨U.heap.size, 0, none⟩) 1 1, .slice (some ⟨g, 0, none⟩) (ws.length + 1) cap, .func (.func 80) #[] #[.pointer (some ⟨w1.heap.size, 0, none⟩), .pointer (some ⟨w1.heap.size + 1, 0, none⟩)], .int .i64 x, undef, undef, undef], defers := [] }) ?assign ?body ?done ?stop
  case assign =>
    intro l x W K hK
    gi_wp2
    exact hK
  case body =>
    clear P2 htc hwc hRZ hseq EG HL
    rintro l pre x W hI hlen
    have q0 := hI.cu
    have q1 := hI.fu
    have hI2 := hI.set (pre' := pre ++ [x])
    rw [List.getLastD_concat] at hI2
    have HI := Lib.hid hI2
    clear hI2
    gi_wp2
    refine ⟨KeepsOthers.setCell _ _ _, (Keeps.refl _ _).setCell (p := ⟨w.heap.size + 1, 0, none⟩) (fun h => ?_) _, HI.out⟩
    simp only at h
    omega
  case done =>
    clear P2 htc hwc hRZ hseq EG
    rintro D ys W hD hS hI hK
    have hYS : ys = cycs t (ws ++ [(n, 0)]) := hS
    have HY : Hid (ys.getLastD 0 = lastC t (ws ++ [(n, 0)])) := Lib.hid (by rw [hYS]; exact HL.out)
    clear hS hYS HL
    have hmx : Try.prog.follows .mixedOrders = true := by kernel_rfl
    have q0 := hI.cu
    have q1 := hI.fu
    gi_wp2
    gi_region_o
    gi_wp2
    obtain ⟨V, hV⟩ : ∃ V, V = (W.setCell ⟨w.heap.size + 1, 0, none⟩ (.int .i64 (ys.getLast?.getD 0))).drew := ⟨_, rfl⟩
    have IV : UntilW w ys V := by
      have h1 := hI.set (pre' := ys)
      rw [List.getLastD_eq_getLast?] at h1
      rw [hV]
      exact ⟨by rw [List.getLastD_eq_getLast?]; exact (by simpa [List.getLastD_eq_getLast?] using h1.cu), h1.fu, h1.below.drew⟩
    have hKV : V.heap[D]? = some (.deferred (some [])) := by rw [hV]; exact ((KeepsOthers.setCell _ _ _).trans (KeepsOthers.drew _)).same D _ hK rfl
    rw [← hV]
    clear hV q0 q1 hI hK
    have k0 := cell_kept IV.cu (grownBy_putObj' _ D (.deferred none)) (fun r e => by cases e; exact ⟨_, hKV, rfl⟩)
    refine ⟨by simp, .inl ⟨_, _, rfl, run_takeDeferred hKV, ?_⟩⟩
    exact ⟨.tuple #[.int .i64 n, .int .i64 (ys.getLastD 0)], by simp [results, Try.results49, k0, go_sem], by rw [HY.out], IV.below.trans (belowK_b (w := w) (Nat.le_refl _) V D _ _ (by omega) hKV rfl rfl)⟩
  case stop =>
    rintro D c pre W _ _ h _
    exact h.elim
set_option maxRecDepth 100000 in
set_option maxHeartbeats 4000000 in
theorem when_t (f o n t : Int) (h : OkOrder 5 f o n) (ht : 0 ≤ t ∧ t ≤ 1000000100) (w : World) :
    Calls Try.prog 49 #[ordV 5 f o n, .int .i64 t, .bool true] w (WhenIs w o (lastC t (waitsO 5 f o ++ [(o, 0)]))) := by
  refine (callsIn_wide (n := 4)).1 ?_
  have KW := Lib.hid (waits_any 5 f o n h.op)
  refine callsIn_of_wp_marks Try.func49 rfl trivial ?_ rfl
  simp only [Try.ntmps49, List.size_toArray, List.length_cons, List.length_nil, Nat.reduceAdd, Nat.reduceSub, Array.replicate_succ, Array.replicate_zero, List.push_toArray, List.append_toArray, List.nil_append, List.cons_append]
  gi_wp2_with fail
  refine ⟨trivial, ?_⟩
  refine (callsIn_wide.2 (KW.out _)).mono ?_; rintro e U ⟨k, rfl, hk, hrow, hb⟩
  have P0 := (whenW_new w 5 f o n).after hb
  simp only [World.size_alloc] at hk
  clear hb
  have hwl := waitsO_len 5 f o
  have hwb := waitsO_ok (n := o) ⟨h.op, h.from_, h.to_, h.to_⟩
  have hown := row_owned (base := w.heap.size + 1 + 1) hrow hk (by omega)
  obtain ⟨iw, hi0, hi1, hi2, hi3⟩ := info_parts infoWait
  generalize hws : waitsO 5 f o = ws at *
  have HWS := Lib.hid hws
  clear hws hrow
  have hsz := P0.size
  gi_wp2_with (gi_at_builtin; refine wpListIn_append_own _ rfl _ _ 95 rfl (w.heap.size + 1 + 1) 98 iw (.agg #[.int .i64 0, .int .i64 0]) 2 16 Try.underlying95 hi0 hi1 hi2 hi3 rfl (by decide) _ _ _ rfl (hown.alloc _) ⟨U.heap.size, 0, none⟩ 1 1 [.int .i64 o, .int .i64 0] rfl rfl ?c1 ?c2 ?c3 ?c4 ?c5 ?_)
  case c1 => 
    intro j u hj
    match j, hj with
    | 0, hj => cases hj; simp [go_sem, Addr.add]
    | 1, hj => cases hj; simp [go_sem, Addr.add]
  case c2 => intro u hu; simp at hu; rcases hu with rfl | rfl <;> rfl
  case c3 => unfold maxLen; omega
  case c4 => omega
  case c5 => simp; omega
  intro v' w1 hown' hgrow _
  have hB1 : Below (w.heap.size + 1 + 1) (U.alloc (.cells #[.int .i64 o, .int .i64 0] 98)) w1 := below_grown_any (Below.refl _ _) hgrow (by simp; omega) (hown.alloc _) (Nat.le_refl _)
  have P1 := (P0.after ((Below.refl _ _).alloc (Nat.le_refl _) _)).keep hB1
  clear P0 hB1 hown hgrow
  rw [show waitCells ws ++ [.int .i64 o, .int .i64 0] = waitCells (ws ++ [(o, 0)]) by simp [waitCells]] at hown'
  obtain ⟨g, cap, rfl, hg⟩ : ∃ g cap, v' = .slice (some ⟨g, 0, none⟩) (ws.length + 1) cap ∧ w.heap.size + 1 + 1 ≤ g := by
    rcases hown'.2 with ⟨_, h0⟩ | ⟨g, cap, cur, h1, h2, _⟩
    · omega
    · exact ⟨g, cap, h1, h2⟩
  have hgl := (hown'.lt g rfl).2
  have hR := waits_owned hown'
  have hsz1 := P1.size
  clear hown'
  gi_wp2_with fail
  refine ⟨trivial, ?_⟩
  refine (callsIn_wide.2 (comeBy_any t (some ⟨g, 0, none⟩) (ws.length + 1) cap _)).mono ?_; rintro e Z ⟨rfl, hZ⟩
  have hbZ : Below w1.heap.size w1 Z := by rw [hZ]; go_grown
  have P2 := P1.after hbZ
  have htc : Z.cell? ⟨w1.heap.size, 0, none⟩ = some (.int .i64 t) := by rw [hZ]; simp [go_sem]
  have hwc : Z.cell? ⟨w1.heap.size + 1, 0, none⟩ = some (.slice (some ⟨g, 0, none⟩) (ws.length + 1) cap) := by rw [hZ]; simp [go_sem]
  have hsZ : Z.heap.size = w1.heap.size + 1 + 1 := by rw [hZ]; simp
  have hRZ : WaitsAt Z w1.heap.size (some ⟨g, 0, none⟩) (ws ++ [(o, 0)]) := hR.keeps (Keeps.of_below (S := fun k => k < w1.heap.size) hbZ (fun k hk => hk)) (fun ad e => by cases e; exact hgl)
  clear hZ P1 hR hbZ
  gi_wp2_with fail
  have EG := fun args w => enters_of Try.func80 (by kernel_rfl) rfl args w
  have hsw : w.heap.size ≤ Z.heap.size := P2.below.size
  have hseq := comes_stops t ht (ws ++ [(o, 0)]) hwb (by simp; omega) (some ⟨g, 0, none⟩) cap 3 (by decide) w1.heap.size (w1.heap.size + 1) w1.heap.size (fun k => k < w.heap.size ∨ k = w1.heap.size ∨ k = w1.heap.size + 1 ∨ k = g) Z (.inr (.inr (.inl rfl))) (.inr (.inl rfl)) (fun ad e => by cases e; exact .inr (.inr (.inr rfl))) (fun k hk => by omega) htc (by simpa using hwc) hRZ
  have HL := Lib.hid (last_cycs t ws (o, 0))
  refine wpIn_rangeFunc_ownF rfl (by decide) (gf := 80) (lb := #[.pointer (some ⟨w1.heap.size, 0, none⟩), .pointer (some ⟨w1.heap.size + 1, 0, none⟩)]) rfl trivial EG hseq
    (fun h k => h.trans k) (fun W l o o' hl _ _ _ => ⟨by simp, fun k hk => World.putObj_heap_other (by omega)⟩) (Below.refl _ _) (fun _ => rfl)
    (UntilW w) (fun _ _ _ => False)
    (untilW_own w _ hsw) (fun _ _ _ _ _ hs _ _ => hs)
    ⟨P2.cu, P2.fu, P2.below⟩
    (fun x => { tmps := #[ordV 5 f o n, .int .i64 t, .bool true, .pointer (some ⟨w.heap.size, 0, none⟩), undef, undef, .int .i64 o, .pointer (some ⟨w.heap.size + 1, 0, none⟩), .int .i64 x, .pointer (some ⟨w.heap.size, 3, none⟩), .int .i64 n, .pointer (some ⟨w.heap.size, 0, none⟩), .int .i64 5, .bool true, .bool true, .bool true, .bool true, .pointer (some ⟨w.heap.size, 2, none⟩), .int .i64 o, .int .i64 t, .agg #[.int .i64 5, .int .i64 f, .int .i64 o, .int .i64 n], .slice (some ⟨k, 0, none⟩) ws.length ws.length, .int .i64 o, .agg #[.int .i64 o, .int .i64 0], .slice (some ⟨U.heap.size, 0, none⟩) 1 1, .slice (some ⟨g, 0, none⟩) (ws.length + 1) cap, .func (.func 80) #[] #[.pointer (some ⟨w1.heap.size, 0, none⟩), .pointer (some ⟨w1.heap.size + 1, 0, none⟩)], .int .i64 x, undef, undef, undef], defers := [] }) ?assign ?body ?done ?stop
  case assign =>
    intro l x W K hK
    gi_wp2
    exact hK
  case body =>
    clear P2 htc hwc hRZ hseq EG HL
    rintro l pre x W hI hlen
    have q0 := hI.cu
    have q1 := hI.fu
    have hI2 := hI.set (pre' := pre ++ [x])
    rw [List.getLastD_concat] at hI2
    have HI := Lib.hid hI2
    clear hI2
    gi_wp2
    refine ⟨KeepsOthers.setCell _ _ _, (Keeps.refl _ _).setCell (p := ⟨w.heap.size + 1, 0, none⟩) (fun h => ?_) _, HI.out⟩
    simp only at h
    omega
  case done =>
    clear P2 htc hwc hRZ hseq EG
    rintro D ys W hD hS hI hK
    have hYS : ys = cycs t (ws ++ [(o, 0)]) := hS
    have HY : Hid (ys.getLastD 0 = lastC t (ws ++ [(o, 0)])) := Lib.hid (by rw [hYS]; exact HL.out)
    clear hS hYS HL
    have hmx : Try.prog.follows .mixedOrders = true := by kernel_rfl
    have q0 := hI.cu
    have q1 := hI.fu
    gi_wp2
    gi_region_o
    gi_wp2
    obtain ⟨V, hV⟩ : ∃ V, V = (W.setCell ⟨w.heap.size + 1, 0, none⟩ (.int .i64 (ys.getLast?.getD 0))).drew := ⟨_, rfl⟩
    have IV : UntilW w ys V := by
      have h1 := hI.set (pre' := ys)
      rw [List.getLastD_eq_getLast?] at h1
      rw [hV]
      exact ⟨by rw [List.getLastD_eq_getLast?]; exact (by simpa [List.getLastD_eq_getLast?] using h1.cu), h1.fu, h1.below.drew⟩
    have hKV : V.heap[D]? = some (.deferred (some [])) := by rw [hV]; exact ((KeepsOthers.setCell _ _ _).trans (KeepsOthers.drew _)).same D _ hK rfl
    rw [← hV]
    clear hV q0 q1 hI hK
    have k0 := cell_kept IV.cu (grownBy_putObj' _ D (.deferred none)) (fun r e => by cases e; exact ⟨_, hKV, rfl⟩)
    refine ⟨by simp, .inl ⟨_, _, rfl, run_takeDeferred hKV, ?_⟩⟩
    exact ⟨.tuple #[.int .i64 o, .int .i64 (ys.getLastD 0)], by simp [results, Try.results49, k0, go_sem], by rw [HY.out], IV.below.trans (belowK_b (w := w) (Nat.le_refl _) V D _ _ (by omega) hKV rfl rfl)⟩
  case stop =>
    rintro D c pre W _ _ h _
    exact h.elim
theorem when_any (a f o n t : Int) (b : Bool) (h : OkOrder a f o n) (ht : 0 ≤ t ∧ t ≤ 1000000100) (w : World) :
    Calls Try.prog 49 #[ordV a f o n, .int .i64 t, .bool b] w (WhenIs w (atO a o n b) (untilO a f o n t b)) := by
  unfold untilO atO
  by_cases ha : a = 5
  · subst ha
    cases b with
    | false => simpa using when_f f o n t h ht w
    | true => simpa using when_t f o n t h ht w
  · simpa [ha] using when_x a f o n t b h (by simpa using ha) ht w
end Go.Proofs.Ytmkcijecncdhpaa
