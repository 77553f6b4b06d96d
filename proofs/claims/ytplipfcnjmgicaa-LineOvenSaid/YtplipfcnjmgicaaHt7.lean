/-
  moments, the temperatures of an oven as an iterator. No statement is proved here.
-/
import Derived.Test.YtplipfcnjmgicaaHt6
import Derived.Test.YtplipfcnjmgicaaEnB
namespace Go.Proofs.Ytplipfcnjmgicaa
open Go.RowKit Go.Shelf
set_option linter.unusedVariables false
set_option linter.unusedSimpArgs false
attribute [local go_sem] Oper.semAt_some

theorem moments_any (o : Ov) (tl th : Int) (h : Bool) (mi : Int) (w : World) : Calls Try.prog 77 #[ovV o, .agg #[.int .i64 tl, .int .i64 th], .bool h, .int .i64 mi] w fun e w' =>
    e = .returned (.func (.func 91) #[] #[.pointer (some ⟨w.heap.size, 0, none⟩), .pointer (some ⟨w.heap.size + 1, 0, none⟩), .pointer (some ⟨w.heap.size + 1 + 1, 0, none⟩), .pointer (some ⟨w.heap.size + 1 + 1 + 1, 0, none⟩)]) ∧
      w'.heap.size = w.heap.size + 1 + 1 + 1 + 1 ∧ Below w.heap.size w w' ∧ CapAt w.heap.size (w.heap.size + 1) (w.heap.size + 1 + 1) (w.heap.size + 1 + 1 + 1) o tl th h mi w' := by
  go_enter Try.func77, Try.ntmps77
  go_wp2
  go_ret
  refine ⟨rfl, by simp, by go_grown, ⟨?_, ?_, ?_, ?_, ?_, ?_⟩, ?_, ?_, ?_, ?_⟩ <;> simp [go_sem]

theorem moments_back (o : Ov) (ok : o.Ok) (tl th : Int) (h : Bool) (b1 : -500 ≤ tl) (b2 : th ≤ 1000) (hs : tl ≤ th) (mi : Nat) (hmi : mi ≤ 200) (n : Nat) (hn : 1 ≤ n) (lo hi Bo Bt Bh Bm : Nat) (w : World) (hC : CapAt Bo Bt Bh Bm o tl th h mi w) (hout : ∀ k, k = Bo ∨ k = Bt ∨ k = Bh ∨ k = Bm → k < lo ∨ hi ≤ k) :
    SeqBack Fence.wide n Try.prog 91 #[.pointer (some ⟨Bo, 0, none⟩), .pointer (some ⟨Bt, 0, none⟩), .pointer (some ⟨Bh, 0, none⟩), .pointer (some ⟨Bm, 0, none⟩)] yieldV lo hi
      (fun ys => ys = Pq.upto o tl th h (mi + 1)) (fun pre => pre <+: Pq.upto o tl th h (mi + 1)) w := fun l J Jx W hW h1 h2 h3 h4 hJ hJx hY h0 =>
  moments_in o ok tl th h b1 b2 hs mi hmi n hn l lo hi Bo Bt Bh Bm J Jx W (Lib.hid hJ) (Lib.hid hJx) (Lib.hid hY) (hC.keep fun k hk => hW.block k (by have := hC.lt; omega)) (Lib.hid fun k hk => ⟨by have := hC.lt; omega, hout k hk⟩) h3 h4 h0

theorem round_any {m m' l l' : Nat} {P : Program} {f : FuncId} {tmps : Array Value} {assign body : Code} {w : World} {R : Ending → World → Prop} (h : RoundIn Fence.wide m P l f tmps assign body w R) : RoundIn (Fence.wide.inRound l') m' P l f tmps assign body w R :=
  ⟨h.1, fun c cs _ => h.2 c cs (room_wide _)⟩

/-- The temperatures of what has come. -/
def tempsOf (xs : List (Int × Mo)) : List Int := xs.map fun x => x.2.1
theorem tempsOf_snoc (xs : List (Int × Mo)) (x : Int × Mo) : tempsOf (xs ++ [x]) = tempsOf xs ++ [x.2.1] := by simp [tempsOf]

set_option maxRecDepth 100000 in
set_option maxHeartbeats 1000000 in
theorem temps_back (o : Ov) (ok : o.Ok) (tl th : Int) (h : Bool) (b1 : -500 ≤ tl) (b2 : th ≤ 1000) (hs : tl ≤ th) (mi : Nat) (hmi : mi ≤ 200) (lo hi Bo Bt Bh Bm : Nat) (w : World) (hC : CapAt Bo Bt Bh Bm o tl th h mi w) (hout : ∀ k, k = Bo ∨ k = Bt ∨ k = Bh ∨ k = Bm → k < lo) (hlo : lo ≤ w.heap.size) :
    SeqBack Fence.wide 3 Try.prog 76 #[.pointer (some ⟨Bo, 0, none⟩), .pointer (some ⟨Bt, 0, none⟩), .pointer (some ⟨Bh, 0, none⟩), .pointer (some ⟨Bm, 0, none⟩)] (fun x : Int => #[Value.int .i64 x]) lo hi
      (fun ys => ys = tempsOf (Pq.upto o tl th h (mi + 1))) (fun _ => True) w := by
  intro l J Jx W hW h1 h2 h3 h4 hJ hJx hY h0
  have HJ := Lib.hid hJ
  have HJx := Lib.hid hJx
  have HY := Lib.hid hY
  clear hJ hJx hY
  have hlt := hC.lt
  have hCW := hC.keep fun k hk => hW.block k (by omega)
  have hsW := hW.size
  show CallsIn Fence.wide 3 Try.prog 76 #[.func (.yield l) #[] #[], .pointer (some ⟨Bo, 0, none⟩), .pointer (some ⟨Bt, 0, none⟩), .pointer (some ⟨Bh, 0, none⟩), .pointer (some ⟨Bm, 0, none⟩)] W _
  refine callsIn_of_wp_marks Try.func76 rfl trivial ?_ rfl
  simp only [Try.ntmps76, List.size_toArray, List.length_cons, List.length_nil, Nat.reduceAdd, Nat.reduceSub, Array.replicate_succ, Array.replicate_zero, List.push_toArray, List.append_toArray, List.nil_append, List.cons_append]
  have hA := (Below.refl W.heap.size W).alloc (Nat.le_refl _) (.cells #[.func (.yield l) #[] #[]] 65)
  have ⟨⟨o0, o1, o2, o3, o4, o5⟩, t0, t1, hc, mc⟩ := hCW.keep fun k hk => hA.block k (by omega)
  gi_wp2_with fail
  refine ⟨trivial, ?_⟩
  refine (callsIn_wide.2 (moments_any o tl th h mi _)).mono ?_; rintro e X ⟨rfl, hXs, hXb, hXc⟩
  simp only [World.size_alloc] at hXs hXb hXc ⊢
  have y0 : X.cell? ⟨W.heap.size, 0, none⟩ = some (.func (.yield l) #[] #[]) := (hXb.cell (p := ⟨W.heap.size, 0, none⟩) (show W.heap.size < W.heap.size + 1 by omega)).trans (by simp [go_sem])
  have hWX : Below W.heap.size W X := hA.trans (hXb.mono (by omega))
  have hJ0 : J [] X := HJ.out _ _ _ h0 hWX
  have hseq := moments_back o ok tl th h b1 b2 hs mi hmi 2 (by decide) lo W.heap.size _ _ _ _ X hXc (fun k hk => .inr (by omega))
  clear o0 o1 o2 o3 o4 o5 t0 t1 hc mc hA hCW hC hXc hXb hWX
  gi_wp2_with fail
  have own : ∀ s A V, (J (tempsOf s) A ∧ A.cell? ⟨W.heap.size, 0, none⟩ = some (.func (.yield l) #[] #[])) → Below X.heap.size A V → J (tempsOf s) V ∧ V.cell? ⟨W.heap.size, 0, none⟩ = some (.func (.yield l) #[] #[]) := fun s A V h hb =>
    ⟨HJ.out _ _ _ h.1 (hb.mono (by omega)), (hb.cell (p := ⟨W.heap.size, 0, none⟩) (show W.heap.size < X.heap.size by omega)).trans h.2⟩
  refine wpIn_rangeBack rfl (by decide) (gf := 91) (lb := #[.pointer (some ⟨W.heap.size + 1, 0, none⟩), .pointer (some ⟨W.heap.size + 1 + 1, 0, none⟩), .pointer (some ⟨W.heap.size + 1 + 1 + 1, 0, none⟩), .pointer (some ⟨W.heap.size + 1 + 1 + 1 + 1, 0, none⟩)]) rfl trivial (enters_of Try.func91 (by kernel_rfl) rfl) hseq (Below.refl _ _) (fun _ => rfl) (by omega) (by omega)
    (fun pre V => J (tempsOf pre) V ∧ V.cell? ⟨W.heap.size, 0, none⟩ = some (.func (.yield l) #[] #[]))
    (fun c pre V => c = .ret ∧ Jx (tempsOf pre) V)
    own
    (fun c s A V h hb => ⟨h.1, HJx.out _ _ _ h.2 (hb.mono (by omega))⟩)
    ⟨hJ0, y0⟩
    (fun pre x a V => ∃ B, X.heap.size ≤ B ∧ a = { tmps := #[.func (.yield l) #[] #[], .pointer (some ⟨Bo, 0, none⟩), .pointer (some ⟨Bt, 0, none⟩), .pointer (some ⟨Bh, 0, none⟩), .pointer (some ⟨Bm, 0, none⟩), .pointer (some ⟨W.heap.size, 0, none⟩), undef, .pointer (some ⟨B, 0, none⟩), ovV o, .agg #[.int .i64 tl, .int .i64 th], .bool h, .int .i64 mi, .func (.func 91) #[] #[.pointer (some ⟨W.heap.size + 1, 0, none⟩), .pointer (some ⟨W.heap.size + 1 + 1, 0, none⟩), .pointer (some ⟨W.heap.size + 1 + 1 + 1, 0, none⟩), .pointer (some ⟨W.heap.size + 1 + 1 + 1 + 1, 0, none⟩)], .int .i64 x.1, .agg #[.int .i64 x.2.1, .bool x.2.2], undef, undef, undef, undef, undef], defers := [] } ∧
      V.cell? ⟨B, 0, none⟩ = some (.int .i64 x.2.1) ∧ V.cell? ⟨B, 1, none⟩ = some (.bool x.2.2) ∧ J (tempsOf pre) V ∧ V.cell? ⟨W.heap.size, 0, none⟩ = some (.func (.yield l) #[] #[]))
    ?own ?assign ?body ?done ?stop
  case own =>
    rintro pre x a s A V row ⟨B, hB, ha, hc0, hc1, hi⟩ hg hr
    have hlA : W.heap.size < A.heap.size := World.block_lt_of_cell? A _ hi.2
    have hBA : B < A.heap.size := World.block_lt_of_cell? A _ hc0
    have hb : Below X.heap.size A V := (Below.refl _ A).grown hg (by omega) (fun k e => (hr k e).1)
    exact ⟨B, hB, ha, cell_kept hc0 hg (fun k e => (hr k e).2), cell_kept hc1 hg (fun k e => (hr k e).2), own _ _ _ hi hb⟩
  case assign =>
    rintro l' pre x V hi hlt
    obtain ⟨a, t, hh⟩ := x
    have hnew := (Below.refl V.heap.size V).alloc (Nat.le_refl _) (.cells #[.int .i64 t, .bool hh] 107)
    have hi2 := own _ _ _ hi (hnew.mono (Nat.le_of_lt hlt))
    have hn0 : (V.alloc (.cells #[.int .i64 t, .bool hh] 107)).cell? ⟨V.heap.size, 0, none⟩ = some (.int .i64 t) := by simp [go_sem]
    have hn1 : (V.alloc (.cells #[.int .i64 t, .bool hh] 107)).cell? ⟨V.heap.size, 1, none⟩ = some (.bool hh) := by simp [go_sem]
    gi_wp2
    exact ⟨.of_below hnew, _, Nat.le_of_lt hlt, rfl, hn0, hn1, hi2.1, hi2.2⟩
  case body =>
    rintro l' pre x a V ⟨B, hB, rfl, hc0, hc1, hi⟩ hlt
    obtain ⟨a, t, hh⟩ := x
    obtain ⟨fn, tmps, assign, body, hy, hRr⟩ := HY.out _ t V hi.1
    have hy0 := hi.2
    have HT := Lib.hid (tempsOf_snoc pre (a, t, hh))
    gi_wp2_with fail
    refine (round_any hRr).mono ?_
    rintro e V3 (⟨rfl, hJv, har⟩ | ⟨rfl, hJxv, har⟩)
    · have ha := har.around (lo' := lo) (hi' := W.heap.size) (Nat.le_refl _) h4 h1 h3
      have hy3 : V3.cell? ⟨W.heap.size, 0, none⟩ = some (.func (.yield l) #[] #[]) := (ha.cell (p := ⟨W.heap.size, 0, none⟩) (by show W.heap.size < V.heap.size; omega) (.inr (Nat.le_refl _))).trans hi.2
      clear hc0 hc1 hy0
      gi_wp2
      exact ⟨ha, by rw [HT.out]; exact hJv, hy3⟩
    · have ha := har.around (lo' := lo) (hi' := W.heap.size) (Nat.le_refl _) h4 h1 h3
      clear hc0 hc1 hy0
      gi_wp2
      exact ⟨ha, rfl, by rw [HT.out]; exact hJxv⟩
  case done =>
    rintro ys V rfl hi hK
    have hb : Below W.heap.size V (V.putObj X.heap.size (.deferred none)) := belowK_b (w := W) (Nat.le_refl _) V _ _ _ (by omega) hK rfl rfl
    gi_wp2
    refine ⟨by simp, .inl ⟨_, _, rfl, run_takeDeferred hK, ?_⟩⟩
    exact ⟨_, results_none rfl _ _ _, ⟨_, rfl⟩, .inl ⟨_, rfl, HJ.out _ _ _ hi.1 hb⟩⟩
  case stop =>
    rintro c pre V hS ⟨rfl, hi⟩ hK
    have hb : Below W.heap.size V (V.putObj X.heap.size (.deferred none)) := belowK_b (w := W) (Nat.le_refl _) V _ _ _ (by omega) hK rfl rfl
    gi_wp2
    refine ⟨by simp, .inl ⟨_, _, rfl, run_takeDeferred hK, ?_⟩⟩
    exact ⟨_, results_none rfl _ _ _, ⟨_, rfl⟩, .inr ⟨_, trivial, HJx.out _ _ _ hi hb⟩⟩
end Go.Proofs.Ytplipfcnjmgicaa
