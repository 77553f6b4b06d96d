/-
  A MACHINE IN A COPY OF A STATE. No statement is proved here.
-/
import Derived.Test.YtmkcijecncdhpaaSt3
namespace Go.Proofs.Ytmkcijecncdhpaa
open Go.RowKit
set_option linter.unusedVariables false
set_option linter.unusedSimpArgs false

def OwnNew (w : World) (zs : List Int) (e : Ending) (w' : World) : Prop :=
  ∃ A c, e = .returned (.slice A zs.length c) ∧ w'.ownsRow w.heap.size 3 1 (.slice A zs.length c) zs.length (zs.map (Value.int .i64)) ∧ Below w.heap.size w w'
set_option maxRecDepth 100000 in
set_option maxHeartbeats 2000000 in
theorem clone_own (A : Option Addr) (c : Nat) (zs : List Int) (hl : zs.length ≤ 1000) (w : World) (h : IntsAt w w.heap.size A zs) :
    Calls Try.prog 42 #[.slice A zs.length c] w (OwnNew w zs) := by
  have hq := fun (w : World) (n : Nat) => Lib.run_eql_slice_nil (P := Try.prog) w 22 3 A n c 0 0 Try.underlying22
  cases A with
  | none =>
    have hz : zs.length = 0 := by
      rcases Nat.eq_zero_or_pos zs.length with h0 | h0
      · exact h0
      · obtain ⟨ad, e, _⟩ := h h0
        cases e
    obtain rfl : zs = [] := List.length_eq_zero_iff.1 hz
    clear hz hl
    go_enter Try.func42, Try.ntmps42
    go_wp2
    go_ret
    exact ⟨none, 0, rfl, World.ownsRow_nil _ _ _ _, Below.refl _ _⟩
  | some ad =>
    obtain ⟨i0, hi0, hi1, hi2, hi3⟩ := info_parts sliceI.info
    have hcell : Hid (∀ (j : Nat) (u : Value), (zs.map (Value.int .i64))[j]? = some u → w.cell? (ad.add j) = some u) := Lib.hid fun j u hj => by
      have hj' : j < zs.length := by
        have := (List.getElem?_eq_some_iff.1 hj).1
        simpa using this
      obtain ⟨ad', e, _, hc⟩ := h.at_ hj'
      cases e
      rw [hc]
      simpa [hj'] using hj
    have hall : Hid (∀ u ∈ zs.map (Value.int .i64), u.oneCell' = true) := Lib.hid fun u hu => by
      obtain ⟨n, _, rfl⟩ := List.mem_map.1 hu
      rfl
    have hblk : 0 < zs.length → ad.block < w.heap.size := fun h0 => by
      obtain ⟨ad', e, hlt, _⟩ := h h0
      cases e
      exact hlt
    go_enter Try.func42, Try.ntmps42
    go_wp2_with (at_builtin; refine wpList_append_own _ rfl _ _ 22 rfl w.heap.size 3 i0 (.int .i64 0) 1 8 Try.underlying22 hi0 hi1 hi2 hi3 rfl (by decide) _ _ _ rfl (empty_owned (RowIs.new w 3 []) (Nat.le_refl _)) ad zs.length c (zs.map (Value.int .i64)) rfl (by simp) ?c1 hall.out ?c3 ?c4 ?c5 ?_)
    case c1 =>
      intro j u hj
      have hj' : j < zs.length := by
        have := (List.getElem?_eq_some_iff.1 hj).1
        simpa using this
      rw [World.cell?_alloc_lt _ _ _ (by rw [add_block]; exact hblk (by omega))]
      exact hcell.out j u hj
    case c3 => unfold maxLen; omega
    case c4 => omega
    case c5 => simp
    intro v' w1 hown hgrow _
    try simp only [Nat.zero_add, List.nil_append] at hown
    obtain ⟨A2, c2, rfl, hn, hc2, hnew, hR⟩ := ListAt.own hown
    have hB1 : Below w.heap.size w w1 := below_grown_any ((Below.refl _ w).alloc (Nat.le_refl _) _) hgrow (by simp) (empty_owned (RowIs.new w 3 []) (Nat.le_refl _)) (Nat.le_refl _)
    go_wp2
    go_ret
    exact ⟨A2, c2, rfl, hown, hB1⟩

theorem own_mono {w : World} {base base' size n : Nat} {e : TypeId} {v : Value} {xs : List Value} (h : w.ownsRow base e size v n xs) (hb : base' ≤ base) : w.ownsRow base' e size v n xs := by
  refine ⟨h.1, ?_⟩
  rcases h.2 with h2 | ⟨g, cap, cur, e1, hg, r⟩
  · exact .inl h2
  · exact .inr ⟨g, cap, cur, e1, Nat.le_trans hb hg, r⟩
/-- The three rows of a machine that is made. -/
structure AtW (W : World) (s : MS) (A0 A1 A3 : Option Addr) (c0 c1 c3 : Nat) (U : World) : Prop where
  st : StAt U W.heap.size (.slice A0 s.store.length c0) (.slice A1 s.tape.length c1) (.slice A3 s.printed.length c3) s.taken s.time s.at_ s.done s.why
  r0 : U.ownsRow (W.heap.size + 1) 3 1 (.slice A0 s.store.length c0) s.store.length (s.store.map (Value.int .i64))
  r1 : U.ownsRow (W.heap.size + 1) 3 1 (.slice A1 s.tape.length c1) s.tape.length (s.tape.map (Value.int .i64))
  r3 : U.ownsRow (W.heap.size + 1) 3 1 (.slice A3 s.printed.length c3) s.printed.length (s.printed.map (Value.int .i64))
  n01 : ∀ k, blk A0 k → ¬ blk A1 k
  n03 : ∀ k, blk A0 k → ¬ blk A3 k
  n13 : ∀ k, blk A1 k → ¬ blk A3 k
  below : Below W.heap.size W U
  lt : W.heap.size < U.heap.size
theorem AtW.mk3 {W V X1 X2 X3 : World} {s : MS} {A0 A1 A3 : Option Addr} {c0 c1 c3 : Nat} {u0 u1 u3 : Value} (hs : V.heap.size = W.heap.size + 1) (hb0 : Below W.heap.size W V) (st : StAt V W.heap.size u0 u1 u3 s.taken s.time s.at_ s.done s.why)
    (o0 : X1.ownsRow V.heap.size 3 1 (.slice A0 s.store.length c0) s.store.length (s.store.map (Value.int .i64))) (b1 : Below V.heap.size V X1)
    (o1 : X2.ownsRow X1.heap.size 3 1 (.slice A1 s.tape.length c1) s.tape.length (s.tape.map (Value.int .i64))) (b2 : Below X1.heap.size X1 X2)
    (o3 : X3.ownsRow X2.heap.size 3 1 (.slice A3 s.printed.length c3) s.printed.length (s.printed.map (Value.int .i64))) (b3 : Below X2.heap.size X2 X3) :
    AtW W s A0 A1 A3 c0 c1 c3 (((X3.setCell ⟨W.heap.size, 0, none⟩ (.slice A0 s.store.length c0)).setCell ⟨W.heap.size, 1, none⟩ (.slice A1 s.tape.length c1)).setCell ⟨W.heap.size, 3, none⟩ (.slice A3 s.printed.length c3)) := by
  have s1 := b1.size
  have s2 := b2.size
  have s3 := b3.size
  have hst := ((st.below b1 (by omega)).below b2 (by omega)).below b3 (by omega)
  obtain ⟨q0, q1, q2, q3, q4, q5, q6, q7⟩ := hst
  have w0 : W.heap.size ≠ W.heap.size + 1 := by omega
  have far : ∀ {U : World} {base n c : Nat} {A : Option Addr} {xs : List Value}, U.ownsRow base 3 1 (.slice A n c) n xs → W.heap.size + 1 ≤ base → (((U.setCell ⟨W.heap.size, 0, none⟩ (.slice A0 s.store.length c0)).setCell ⟨W.heap.size, 1, none⟩ (.slice A1 s.tape.length c1)).setCell ⟨W.heap.size, 3, none⟩ (.slice A3 s.printed.length c3)).ownsRow (W.heap.size + 1) 3 1 (.slice A n c) n xs := fun h hb => by
    have ne : ∀ j, (Value.slice _ _ _).ownBlock ≠ some (⟨W.heap.size, j, none⟩ : Addr).block := fun j e => by
      have := (h.lt _ e).1
      simp only at this
      omega
    exact own_mono (ownsRow_setCell_other (ownsRow_setCell_other (ownsRow_setCell_other h (ne 0) _) (ne 1) _) (ne 3) _) hb
  refine ⟨by constructor <;> simp [go_sem, q0, q1, q2, q3, q4, q5, q6, q7], far (own_same (own_same o0 fun k e => b2.block k (o0.lt k e).2) fun k e => b3.block k (by have := (o0.lt k e).2; omega)) (by omega), far (own_same o1 fun k e => b3.block k (o1.lt k e).2) (by omega), far o3 (by omega), ?_, ?_, ?_, ?_, ?_⟩
  · intro k h0 h1
    have := own_lt o0 h0
    have := own_lt o1 h1
    omega
  · intro k h0 h1
    have := own_lt o0 h0
    have := own_lt o3 h1
    omega
  · intro k h0 h1
    have := own_lt o1 h0
    have := own_lt o3 h1
    omega
  · have hb : Below W.heap.size W X3 := ((hb0.trans (below_lower (by omega) b1)).trans (below_lower (by omega) b2)).trans (below_lower (by omega) b3)
    exact ((hb.setCell (p := ⟨W.heap.size, 0, none⟩) (Nat.le_refl _) _).setCell (p := ⟨W.heap.size, 1, none⟩) (Nat.le_refl _) _).setCell (p := ⟨W.heap.size, 3, none⟩) (Nat.le_refl _) _
  · simp [World.setCell]
    omega
end Go.Proofs.Ytmkcijecncdhpaa
namespace Go.Proofs.Ytmkcijecncdhpaa
open Go.RowKit
set_option linter.unusedVariables false
set_option linter.unusedSimpArgs false

/-- A machine in a copy of a state. -/
def WorkIs (W : World) (s : MS) (e : Ending) (W' : World) : Prop :=
  ∃ b g0 A1 A3 c0 c1 c3, e = .returned (.pointer (some ⟨b, 0, none⟩)) ∧ MachAt (W.heap.size + 1) W' b g0 A1 A3 c0 c1 c3 s ∧ Below W.heap.size W W'
theorem ints_at {W V : World} {A : Option Addr} {l : List Int} (h : IntsAt W W.heap.size A l) (hb : Below W.heap.size W V) : IntsAt V V.heap.size A l := (h.below hb).more hb.size
structure SbF (b : Nat) (u0 u1 u3 : Value) (U : World) : Prop where
  c0 : U.cell? ⟨b, 0, none⟩ = some u0
  c1 : U.cell? ⟨b, 1, none⟩ = some u1
  c3 : U.cell? ⟨b, 3, none⟩ = some u3
  f0 : U.frozen? ⟨b, 0, none⟩ = false
  f1 : U.frozen? ⟨b, 1, none⟩ = false
  f3 : U.frozen? ⟨b, 3, none⟩ = false
theorem SbF.below {b : Nat} {u0 u1 u3 : Value} {U X : World} (h : SbF b u0 u1 u3 U) (hb : Below U.heap.size U X) (hl : b < U.heap.size) : SbF b u0 u1 u3 X :=
  ⟨(hb.cell (p := ⟨b, 0, none⟩) hl).trans h.c0, (hb.cell (p := ⟨b, 1, none⟩) hl).trans h.c1, (hb.cell (p := ⟨b, 3, none⟩) hl).trans h.c3, (hb.frozen (p := ⟨b, 0, none⟩) hl).trans h.f0, (hb.frozen (p := ⟨b, 1, none⟩) hl).trans h.f1, (hb.frozen (p := ⟨b, 3, none⟩) hl).trans h.f3⟩
set_option maxRecDepth 100000 in
set_option maxHeartbeats 8000000 in
theorem atWork_ok (s : MS) (hok : s.Ok) (A0 A1 A3 : Option Addr) (n0 n1 n3 : Nat) (W : World) (i0 : IntsAt W W.heap.size A0 s.store) (i1 : IntsAt W W.heap.size A1 s.tape) (i3 : IntsAt W W.heap.size A3 s.printed) :
    Calls Try.prog 45 #[stV A0 A1 A3 n0 n1 n3 s.store s.tape s.printed s.taken s.time s.at_ s.done s.why] W (WorkIs W s) := by
  have C0 := Lib.hid (clone_own A0 n0 s.store (by have := hok.n0; omega))
  have C1 := Lib.hid (clone_own A1 n1 s.tape (by have := hok.n1; omega))
  have C3 := Lib.hid (clone_own A3 n3 s.printed (by have := hok.n3; omega))
  have h128 := Lib.hid hok.n0
  clear hok
  go_enter Try.func45, Try.ntmps45
  go_upto_region 1 with fail
  have hst : StAt (W.alloc (.cells #[.slice A0 s.store.length n0, .slice A1 s.tape.length n1, .int .i64 s.taken, .slice A3 s.printed.length n3, .int .i64 s.time, .int .i64 s.at_, .int .i64 s.done, .int .i64 s.why] 24)) W.heap.size (.slice A0 s.store.length n0) (.slice A1 s.tape.length n1) (.slice A3 s.printed.length n3) s.taken s.time s.at_ s.done s.why := StAt.new W _ _ _ _ _ _ _ _ _
  have hsz : (W.alloc (.cells #[.slice A0 s.store.length n0, .slice A1 s.tape.length n1, .int .i64 s.taken, .slice A3 s.printed.length n3, .int .i64 s.time, .int .i64 s.at_, .int .i64 s.done, .int .i64 s.why] 24)).heap.size = W.heap.size + 1 := by simp
  have hb0 : Below W.heap.size W (W.alloc (.cells #[.slice A0 s.store.length n0, .slice A1 s.tape.length n1, .int .i64 s.taken, .slice A3 s.printed.length n3, .int .i64 s.time, .int .i64 s.at_, .int .i64 s.done, .int .i64 s.why] 24)) := by go_grown
  have hfr : ∀ j, (W.alloc (.cells #[.slice A0 s.store.length n0, .slice A1 s.tape.length n1, .int .i64 s.taken, .slice A3 s.printed.length n3, .int .i64 s.time, .int .i64 s.at_, .int .i64 s.done, .int .i64 s.why] 24)).frozen? ⟨W.heap.size, j, none⟩ = false := fun j => by simp [go_sem]
  generalize W.alloc (.cells #[.slice A0 s.store.length n0, .slice A1 s.tape.length n1, .int .i64 s.taken, .slice A3 s.printed.length n3, .int .i64 s.time, .int .i64 s.at_, .int .i64 s.done, .int .i64 s.why] 24) = V at *
  have j0 := Lib.hid (ints_at i0 hb0)
  have I1 := Lib.hid i1
  have I3 := Lib.hid i3
  have HB := Lib.hid hb0
  have HS := Lib.hid hst
  obtain ⟨q0, q1, q2, q3, q4, q5, q6, q7⟩ := hst
  have f0 := hfr 0
  have f1 := hfr 1
  have f3 := hfr 3
  have hlt : W.heap.size < V.heap.size := by omega
  clear i0 i1 i3 hb0 hfr q2 q4 q5 q6 q7
  go_cut [] (fun wx => ∃ A0 A1 A3 c0 c1 c3, AtW W s A0 A1 A3 c0 c1 c3 wx)
  case first J K hJ hK =>
    go_region_with (first
      | (go_at_call 42; (with_reducible refine (C0.out _ ?_).mono ?_); (exact j0.out); rintro e X1 ⟨B0, d0, rfl, ho1, hb1⟩; have hb1' : Below V.heap.size V X1 := below_undrewR hb1; have g1 := SbF.below ⟨q0, q1, q3, f0, f1, f3⟩ hb1' hlt; obtain ⟨q10, q11, q13, f10, f11, f13⟩ := g1; have hl1 := Nat.lt_of_lt_of_le hlt hb1'.size; have hB1 := Lib.hid (HB.out.trans (below_lower (by omega) hb1')))
      | (go_at_call 42; (with_reducible refine (C1.out _ ?_).mono ?_); (exact ints_at I1.out hB1.out); rintro e X2 ⟨B1, d1, rfl, ho2, hb2⟩; have g2 := SbF.below ⟨q10, q11, q13, f10, f11, f13⟩ hb2 hl1; obtain ⟨q20, q21, q23, f20, f21, f23⟩ := g2; have hl2 := Nat.lt_of_lt_of_le hl1 hb2.size; have hB2 := Lib.hid (hB1.out.trans (below_lower hB1.out.size hb2)))
      | (go_at_call 42; (with_reducible refine (C3.out _ ?_).mono ?_); (exact ints_at I3.out hB2.out); rintro e X3 ⟨B3, d3, rfl, ho3, hb3⟩; have g3 := SbF.below ⟨q20, q21, q23, f20, f21, f23⟩ hb3 hl2; obtain ⟨q30, q31, q33, f30, f31, f33⟩ := g3))
    all_goals
      refine hK _ _ (Met.intro (hJ _ _ ?_))
      (repeat apply Exists.intro)
      refine ⟨?_, rfl⟩
      exact ⟨_, _, _, _, _, _, AtW.mk3 hsz HB.out HS.out ho1 hb1' ho2 hb2 ho3 hb3⟩
  case rest =>
    obtain ⟨D0, D1, D3, e0, e1, e3, P⟩ := hcut
    have HP := Lib.hid P
    obtain ⟨x0, x1, x2, x3, x4, x5, x6, x7⟩ := P.st
    clear P q0 q1 q3 f0 f1 f3
    go_wp2
    go_ret
    obtain ⟨g, rfl⟩ : ∃ g, D0 = some ⟨g, 0, none⟩ := by
      obtain ⟨g, e, _⟩ := own_cell HP.out.r0 (k := 0) (by have := h128.out; omega)
      exact ⟨g, e⟩
    have hab := (Below.refl wc.heap.size wc).alloc (Nat.le_refl _) (.cells #[.slice (some ⟨g, 0, none⟩) s.store.length e0, .slice D1 s.tape.length e1, .int .i64 s.taken, .slice D3 s.printed.length e3, .int .i64 s.time, .int .i64 s.at_, .int .i64 s.done, .int .i64 s.why] 74)
    have hl := HP.out.lt
    have l0 := HP.out.r0.lt g rfl
    refine ⟨wc.heap.size, g, D1, D3, e0, e1, e3, rfl, ⟨StAt.new _ _ _ _ _ _ _ _ _ _, fun j => by simp [go_sem], by omega, by simp, HP.out.r0.alloc _, HP.out.r1.alloc _, HP.out.r3.alloc _, by omega, fun h => ?_, fun h => ?_, HP.out.n01 g ⟨_, rfl, rfl⟩, HP.out.n03 g ⟨_, rfl, rfl⟩, HP.out.n13⟩, HP.out.below.trans (below_lower HP.out.below.size hab)⟩
    · have := (own_lt HP.out.r1 h).2
      omega
    · have := (own_lt HP.out.r3 h).2
      omega
end Go.Proofs.Ytmkcijecncdhpaa
