/-
  WHAT AN ORDER CHANGES. No statement is proved here.
-/
import Derived.Test.YtmkcijecncdhpaaSt1
import Derived.StillTailTactics
import Derived.Deep.RegionWith
import Derived.Deep.RegionHeld3
import Derived.Deep.QuietTactic
import Derived.Maps.AppendAt
namespace Go.Proofs.Ytmkcijecncdhpaa
open Go.RowKit
set_option linter.unusedVariables false
set_option linter.unusedSimpArgs false

theorem mixed_orders : Try.prog.follows .mixedOrders = true := by kernel_rfl
/-- The machine is at s', by moves of its own. -/
def ToM (B : Nat) (W : World) (b g0 : Nat) (A1 A3 : Option Addr) (c0 c1 c3 : Nat) (s' : MS) (e : Ending) (W' : World) : Prop :=
  (∃ v, e = .returned v) ∧ MachAt B W' b g0 A1 A3 c0 c1 c3 s' ∧ Moves B (MB b g0 A1 A3) (MB b g0 A1 A3) W W'
section
variable {B : Nat} {b g0 : Nat} {A1 A3 : Option Addr} {c0 c1 c3 : Nat} {s : MS}
set_option maxHeartbeats 1000000 in
theorem replace_ok (n : Int) (to : Nat) (hto : to < s.store.length) (W : World) (h : MachAt B W b g0 A1 A3 c0 c1 c3 s) :
    Calls Try.prog 75 #[.pointer (some ⟨b, 0, none⟩), .int .i64 n, .int .i64 (to : Int)] W (ToM B W b g0 A1 A3 c0 c1 c3 { s with store := setI s.store to (n % 16777216) }) := by
  obtain ⟨q0, q1, q2, q3, q4, q5, q6, q7⟩ := h.st
  obtain ⟨g, e, k0, k1, _, _⟩ := own_cell h.r0 hto
  simp only [Option.some.injEq, Addr.mk.injEq, and_true] at e
  subst e
  have H := Lib.hid (h.word to (n % 16777216))
  have HM := Lib.hid (Moves.set (B := B) (M := MB b g0 A1 A3) (U := W) (p := ⟨g0, to, none⟩) (.inr (.inl rfl)) (.int .i64 (n % 16777216)))
  go_enter Try.func75, Try.ntmps75
  go_region_with (first
    | (go_at_call 82; refine (toWord_any n _).mono ?_; rintro e X ⟨rfl, rfl⟩))
  all_goals
    go_end0
    exact ⟨⟨_, rfl⟩, H.out.drew, HM.out.drew⟩
set_option maxHeartbeats 1000000 in
theorem add_ok (n : Int) (hn : -16777216 ≤ n ∧ n ≤ 16777216) (to : Nat) (hto : to < s.store.length) (hw : IsW (getI s.store to)) (W : World) (h : MachAt B W b g0 A1 A3 c0 c1 c3 s) :
    Calls Try.prog 76 #[.pointer (some ⟨b, 0, none⟩), .int .i64 n, .int .i64 (to : Int)] W (ToM B W b g0 A1 A3 c0 c1 c3 { s with store := setI s.store to ((getI s.store to + n) % 16777216) }) := by
  obtain ⟨q0, q1, q2, q3, q4, q5, q6, q7⟩ := h.st
  obtain ⟨g, e, k0, k1, _, _⟩ := own_cell h.r0 hto
  simp only [Option.some.injEq, Addr.mk.injEq, and_true] at e
  subst e
  have H := Lib.hid (replace_ok (B := B) (b := b) (g0 := g0) (A1 := A1) (A3 := A3) (c0 := c0) (c1 := c1) (c3 := c3) (s := s) (getI s.store to + n) to hto W h)
  unfold IsW at hw
  generalize getI s.store to = x at *
  go_enter Try.func76, Try.ntmps76
  go_wp2_with fail
  refine H.out.mono ?_; rintro e W1 ⟨⟨v, rfl⟩, h1, m1⟩
  go_wp2
  go_end0
  exact ⟨⟨_, rfl⟩, h1, m1⟩
theorem mul_bd {x y : Int} (hx : -8388608 ≤ x ∧ x < 8388608) (hy : -8388608 ≤ y ∧ y < 8388608) : -70368744177664 ≤ x * y ∧ x * y ≤ 70368744177664 := by
  have h1 : x.natAbs ≤ 8388608 := by omega
  have h2 : y.natAbs ≤ 8388608 := by omega
  have h3 : (x * y).natAbs ≤ 8388608 * 8388608 := by rw [Int.natAbs_mul]; exact Nat.mul_le_mul h1 h2
  omega
set_option maxHeartbeats 1000000 in
theorem multiply_ok (n : Int) (hn : IsW n) (to : Nat) (hto : to < s.store.length) (hw : IsW (getI s.store to)) (W : World) (h : MachAt B W b g0 A1 A3 c0 c1 c3 s) :
    Calls Try.prog 77 #[.pointer (some ⟨b, 0, none⟩), .int .i64 n, .int .i64 (to : Int)] W (ToM B W b g0 A1 A3 c0 c1 c3 { s with store := setI s.store to ((signO n * signO (getI s.store to) / 8388608) % 16777216) }) := by
  obtain ⟨q0, q1, q2, q3, q4, q5, q6, q7⟩ := h.st
  obtain ⟨g, e, k0, k1, _, _⟩ := own_cell h.r0 hto
  simp only [Option.some.injEq, Addr.mk.injEq, and_true] at e
  subst e
  have H := Lib.hid (fun (W' : World) (h' : MachAt B W' b g0 A1 A3 c0 c1 c3 s) => replace_ok (signO n * signO (getI s.store to) / 8388608) to hto W' h')
  have hp := mul_bd (signO_bd hn) (signO_bd hw)
  have hm := h.drew
  have S1 := Lib.hid (fun w => signed_any n hn w)
  have S2 := Lib.hid (fun w => signed_any (getI s.store to) hw w)
  generalize getI s.store to = x at *
  generalize signO n = sn at *
  generalize signO x = sx at *
  generalize hpr : sn * sx = p at *
  go_enter Try.func77, Try.ntmps77
  have hwr : IntKind.i64.wrap (sn * sx) = p := by rw [hpr, IntKind.wrap_i64]; omega
  have hwr2 : IntKind.i64.wrap p = p := by rw [IntKind.wrap_i64]; omega
  clear q0 q1 q2 q3 q4 q5 q6 q7
  obtain ⟨q0, q1, q2, q3, q4, q5, q6, q7⟩ := h.st
  go_wp2_with fail
  go_quiet (first
    | (go_at_call 54; with_reducible exact Calls.quiet_of_same (S1.out _))
    | (go_at_call 54; with_reducible exact Calls.quiet_of_same (S2.out _)))
  go_wp2_with fail
  refine (H.out _ (h.drewN _)).mono ?_; rintro e W1 ⟨⟨v, rfl⟩, h1, m1⟩
  go_wp2
  go_end0
  exact ⟨⟨_, rfl⟩, h1, ((Moves.refl _ _ _).drewN _).trans m1⟩
set_option maxRecDepth 100000 in
set_option maxHeartbeats 1000000 in
/-- An order that takes a word from the tape. -/
theorem read_ok (n : Int) (to k : Nat) (hto : to < s.store.length) (hk : k < s.tape.length) (hsk : s.taken = k) (hl : s.tape.length ≤ 200) (hw : IsW (getI s.tape k)) (W : World) (h : MachAt B W b g0 A1 A3 c0 c1 c3 s) :
    Calls Try.prog 78 #[.pointer (some ⟨b, 0, none⟩), .int .i64 n, .int .i64 (to : Int)] W (ToM B W b g0 A1 A3 c0 c1 c3 { s with store := setI s.store to (getI s.tape k % 16777216), taken := k + 1 }) := by
  have hst := h.st
  rw [hsk] at hst
  obtain ⟨q0, q1, q2, q3, q4, q5, q6, q7⟩ := hst
  obtain ⟨g, rfl, k0, k1, _, _⟩ := own_cell h.r1 hk
  have H := Lib.hid (fun (W' : World) (h' : MachAt B W' b g0 (some ⟨g, 0, none⟩) A3 c0 c1 c3 s) => replace_ok (getI s.tape k) to hto W' h')
  have HH := Lib.hid h
  have HSK := Lib.hid hsk
  clear h hsk
  unfold IsW at hw
  generalize getI s.tape k = x at *
  go_enter Try.func78, Try.ntmps78
  go_wp2_with fail
  go_still_tail 14, mixed_orders
  go_wp2_with fail
  refine (H.out _ HH.out.drew).mono ?_; rintro e W1 ⟨⟨v, rfl⟩, h1, m1⟩
  have h2 := h1.taken ((k : Int) + 1)
  have m2 := m1.trans (Moves.set (B := B) (M := MB b g0 (some ⟨g, 0, none⟩) A3) (U := W1) (p := ⟨b, 2, none⟩) (.inl rfl) (.int .i64 ((k : Int) + 1)))
  have hf := h1.fr 2
  have hst := h1.st
  simp only [HSK.out] at hst
  obtain ⟨p0, p1, p2, p3, p4, p5, p6, p7⟩ := hst
  have HF := Lib.hid (And.intro h2 m2)
  clear h1 m1 h2 m2 q0 q1 q2 q3 q4 q5 q6 q7
  go_wp2
  go_end0
  exact ⟨⟨_, rfl⟩, HF.out.1, (Moves.refl _ _ _).drew.trans HF.out.2⟩
/-- A number is added to what is printed. -/
theorem MachAt.pushed {U V : World} (h : MachAt B U b g0 A1 A3 c0 c1 c3 s) (x : Int) (v' : Value) (hown : V.ownsRow B 3 1 v' (s.printed.length + 1) (s.printed.map (Value.int .i64) ++ [.int .i64 x])) (hg : U.grownBy V (Value.slice A3 s.printed.length c3).ownBlock)
    (hnew : v'.ownBlock = (Value.slice A3 s.printed.length c3).ownBlock ∨ v'.ownBlock = some U.heap.size) :
    ∃ A3' c3', v' = .slice A3' (s.printed.length + 1) c3' ∧ MachAt B (V.setCell ⟨b, 3, none⟩ v') b g0 A1 A3' c0 c1 c3' { s with printed := s.printed ++ [x] } ∧ Moves B (MB b g0 A1 A3) (MB b g0 A1 A3') U (V.setCell ⟨b, 3, none⟩ v') := by
  have hl : (s.printed ++ [x]).length = s.printed.length + 1 := by simp
  obtain ⟨g, cap, rfl⟩ : ∃ g cap, v' = .slice (some ⟨g, 0, none⟩) (s.printed.length + 1) cap := by
    rcases hown.2 with ⟨_, h0⟩ | ⟨g, cap, cur, h1, _⟩
    · omega
    · exact ⟨g, cap, h1⟩
  have hsame : ∀ k, k < U.heap.size → ¬ blk A3 k → V.heap[k]? = U.heap[k]? := fun k hk hn => hg.block k hk (fun e => hn (own_blk e.symm))
  have hg3 : blk A3 g ∨ U.heap.size ≤ g := by
    rcases hnew with e | e
    · exact .inl (own_blk (by rw [← e]; rfl))
    · simp only [Value.ownBlock, Option.some.injEq] at e
      exact .inr (Nat.le_of_eq e.symm)
  have far : ∀ k, k < U.heap.size → ¬ blk A3 k → ¬ blk (some ⟨g, 0, none⟩) k := fun k hk hn ⟨a, e, e2⟩ => by
    cases e
    simp only at e2
    subst e2
    rcases hg3 with h3 | h3
    · exact hn h3
    · omega
  have hb := hsame b h.lt h.n3
  have st := st_same h.st hb
  obtain ⟨q0, q1, q2, q3, q4, q5, q6, q7⟩ := st
  have g0lt := (h.blocks (k := g0) (.inr (.inl rfl))).2
  have n3' := far b h.lt h.n3
  refine ⟨some ⟨g, 0, none⟩, cap, rfl, ⟨?_, fun i => ?_, h.bB, ?_, ?_, ?_, ?_, h.n0, h.n1, n3', h.n01, far g0 g0lt h.n03, fun k hk => far k (own_lt h.r1 hk).2 (h.n13 k hk)⟩, ?_⟩
  · show StAt _ b _ _ (.slice _ (s.printed ++ [x]).length cap) _ _ _ _ _
    rw [hl]
    constructor <;> simp [go_sem, q0, q1, q2, q3, q4, q5, q6, q7]
  · rw [World.frozen?_setCell]
    exact (World.frozen?_of_block hb).trans (h.fr i)
  · have := hg.size
    have := h.lt
    simp [World.setCell]
    omega
  · exact ownsRow_setCell_other (own_same h.r0 fun k e => by
      simp only [Value.ownBlock, Option.some.injEq] at e
      subst e
      exact hsame _ g0lt h.n03) (by simp [Value.ownBlock]; exact h.n0) _
  · exact ownsRow_setCell_other (own_same h.r1 fun k e => hsame k (own_lt h.r1 (own_blk e)).2 (h.n13 k (own_blk e))) (fun e => h.n1 (own_blk e)) _
  · show World.ownsRow _ B _ 1 (.slice _ (s.printed ++ [x]).length cap) (s.printed ++ [x]).length ((s.printed ++ [x]).map _)
    rw [hl, List.map_append]
    exact ownsRow_setCell_other hown (fun e => n3' (own_blk e)) _
  · refine ⟨hg.os, hg.tape, hg.output, by simpa [World.setCell] using hg.size, fun k hk hM => ?_, fun k hk => ?_⟩
    · exact (Below.heap_setCell V ⟨b, 3, none⟩ _ k (fun e => hM (.inl e))).trans (hsame k hk (fun e => hM (.inr (.inr (.inr e)))))
    · rcases hk with hk | hk | hk | ⟨a, e, rfl⟩
      · exact .inl (.inl hk)
      · exact .inl (.inr (.inl hk))
      · exact .inl (.inr (.inr (.inl hk)))
      · cases e
        rcases hg3 with h3 | h3
        · exact .inl (.inr (.inr (.inr h3)))
        · exact .inr h3
set_option maxRecDepth 100000 in
set_option maxHeartbeats 2000000 in
theorem print_ok (n : Int) (to : Int) (hl : s.printed.length ≤ 200) (W : World) (hB : B ≤ W.heap.size) (h : MachAt B W b g0 A1 A3 c0 c1 c3 s) :
    Calls Try.prog 79 #[.pointer (some ⟨b, 0, none⟩), .int .i64 n, .int .i64 to] W fun e W' => (∃ v, e = .returned v) ∧ ∃ A3' c3', MachAt B W' b g0 A1 A3' c0 c1 c3' { s with printed := s.printed ++ [n] } ∧ Moves B (MB b g0 A1 A3) (MB b g0 A1 A3') W W' := by
  obtain ⟨q0, q1, q2, q3, q4, q5, q6, q7⟩ := h.st
  obtain ⟨i0, hi0, hi1, hi2, hi3⟩ := info_parts sliceI.info
  have hab := (Below.refl W.heap.size W).alloc (Nat.le_refl _) (.cells #[.int .i64 n] 3)
  have hu := h.below hab
  have hbl := h.lt
  have HU := Lib.hid hu
  have HA := Lib.hid hab
  have HH := Lib.hid h
  clear h hu hab
  go_enter Try.func79, Try.ntmps79
  go_wp2_with (at_builtin; refine wpList_append_own_at _ rfl (.tmp 11) (.tmp 13) 22 rfl B 3 i0 (.int .i64 0) 1 8 Try.underlying22 hi0 hi1 hi2 hi3 rfl (by decide) (.slice A3 s.printed.length c3) s.printed.length (s.printed.map (Value.int .i64)) rfl HU.out.r3 ⟨W.heap.size, 0, none⟩ 1 1 [.int .i64 n] rfl rfl ?c1 ?c2 ?c3 ?c4 ?c5 ?_)
  case c1 => exact cell_one_new W _ _
  case c2 => intro u hu; simp only [List.mem_singleton] at hu; subst hu; rfl
  case c3 => unfold maxLen; omega
  case c4 => omega
  case c5 => simp; omega
  intro v' w1 hown hgrow _ hat
  have hbs : w1.heap[b]? = (W.alloc (.cells #[.int .i64 n] 3)).heap[b]? := hgrow.block b HU.out.lt (fun e => HU.out.n3 (own_blk e.symm))
  obtain ⟨p0, p1, p2, p3, p4, p5, p6, p7⟩ := st_same HU.out.st hbs
  have hf := (World.frozen?_of_block (a := ⟨b, 3, none⟩) hbs).trans (HU.out.fr 3)
  obtain ⟨A3', c3', rfl, h2, m2⟩ := HU.out.pushed n v' hown hgrow (by simpa using hat)
  have HF := Lib.hid (And.intro h2 ((Moves.below HA.out).trans m2))
  clear h2 m2 hown hgrow hat hbs q0 q1 q2 q3 q4 q5 q6 q7
  go_wp2
  go_end0
  exact ⟨⟨_, rfl⟩, _, _, HF.out.1, HF.out.2⟩
end
end Go.Proofs.Ytmkcijecncdhpaa
namespace Go.Proofs.Ytmkcijecncdhpaa
open Go.RowKit
set_option linter.unusedVariables false
set_option linter.unusedSimpArgs false

def DoneM (B : Nat) (W : World) (b g0 : Nat) (A1 A3 : Option Addr) (c0 c1 : Nat) (s' : MS) (e : Ending) (W' : World) : Prop :=
  (∃ v, e = .returned v) ∧ ∃ A3' c3', MachAt B W' b g0 A1 A3' c0 c1 c3' s' ∧ Moves B (MB b g0 A1 A3) (MB b g0 A1 A3') W W'
section
variable {B : Nat} {b g0 : Nat} {A1 A3 : Option Addr} {c0 c1 c3 : Nat} {s : MS}
theorem ToM.done {W W' : World} {s' : MS} {e : Ending} (h : ToM B W b g0 A1 A3 c0 c1 c3 s' e W') : DoneM B W b g0 A1 A3 c0 c1 s' e W' := ⟨h.1, A3, c3, h.2.1, h.2.2⟩
theorem DoneM.before {V W W' : World} {s' : MS} {e : Ending} (h : DoneM B W b g0 A1 A3 c0 c1 s' e W') (hm : Moves B (MB b g0 A1 A3) (MB b g0 A1 A3) V W) : DoneM B V b g0 A1 A3 c0 c1 s' e W' := by
  obtain ⟨h1, A, c, h2, h3⟩ := h
  exact ⟨h1, A, c, h2, hm.trans h3⟩
set_option maxRecDepth 100000 in
set_option maxHeartbeats 4000000 in
/-- What do walks: the order's block, the word at From, and the work. -/
theorem do_of (op : Int) (hop : op = 1 ∨ op = 2 ∨ op = 3 ∨ op = 4 ∨ op = 6 ∨ op = 7) (f t : Nat) (n : Int) (hf : f < s.store.length) (hw : IsW (getI s.store f)) (W : World) (h : MachAt B W b g0 A1 A3 c0 c1 c3 s) (s' : MS) (wrk : Nat) (x : Int)
    (hk : (op = 1 ∧ wrk = 75 ∧ x = getI s.store f) ∨ (op = 2 ∧ wrk = 76 ∧ x = getI s.store f) ∨ (op = 3 ∧ wrk = 76 ∧ x = - getI s.store f) ∨ (op = 4 ∧ wrk = 77 ∧ x = getI s.store f) ∨ (op = 6 ∧ wrk = 78 ∧ x = getI s.store f) ∨ (op = 7 ∧ wrk = 79 ∧ x = getI s.store f))
    (hcall : Hid (∀ W', MachAt B W' b g0 A1 A3 c0 c1 c3 s → Calls Try.prog wrk #[.pointer (some ⟨b, 0, none⟩), .int .i64 x, .int .i64 (t : Int)] W' (DoneM B W' b g0 A1 A3 c0 c1 s'))) :
    Calls Try.prog 68 #[.pointer (some ⟨b, 0, none⟩), ordV op f t n] W (DoneM B W b g0 A1 A3 c0 c1 s') := by
  obtain ⟨q0, q1, q2, q3, q4, q5, q6, q7⟩ := h.st
  obtain ⟨g, e, k0, k1, _, hgl⟩ := own_cell h.r0 hf
  simp only [Option.some.injEq, Addr.mk.injEq, and_true] at e
  subst e
  have hbl := h.lt
  have hab := (Below.refl W.heap.size W).alloc (Nat.le_refl _) (.cells #[.int .i64 op, .int .i64 f, .int .i64 t, .int .i64 n] 33)
  have HU := Lib.hid (And.intro (h.below hab) (Moves.below (B := B) (M := MB b g0 A1 A3) hab))
  unfold IsW at hw
  clear h hab
  generalize getI s.store f = y at *
  rcases hk with ⟨rfl, rfl, rfl⟩ | ⟨rfl, rfl, rfl⟩ | ⟨rfl, rfl, rfl⟩ | ⟨rfl, rfl, rfl⟩ | ⟨rfl, rfl, rfl⟩ | ⟨rfl, rfl, rfl⟩
  all_goals
    go_enter Try.func68, Try.ntmps68
    go_wp2_with fail
    go_quiet (fail)
    go_wp2_with fail
    refine (hcall.out _ (HU.out.1.drewN _)).mono ?_
    rintro e W1 hd
    obtain ⟨⟨v, rfl⟩, A, c, h1, m1⟩ := hd
    go_wp2
    go_end0
    exact ⟨⟨_, rfl⟩, A, c, h1, (HU.out.2.drewN _).trans m1⟩
theorem emod_word {x : Int} (h : IsW x) : x % 16777216 = x := by unfold IsW at h; omega
theorem setI_self (l : List Int) (k : Nat) (h : k < l.length) : setI l k (getI l k) = l := by
  unfold setI getI
  rw [Int.toNat_natCast, List.getD_eq_getElem?_getD, List.getElem?_eq_getElem h, Option.getD_some, List.set_getElem_self]
theorem ms_eta (s : MS) : (⟨s.store, s.tape, s.printed, s.taken, s.time, s.at_, s.done, s.why⟩ : MS) = s := rfl
set_option maxRecDepth 100000 in
set_option maxHeartbeats 4000000 in
theorem do_test (f t : Nat) (n : Int) (hf : f < s.store.length) (W : World) (h : MachAt B W b g0 A1 A3 c0 c1 c3 s) :
    Calls Try.prog 68 #[.pointer (some ⟨b, 0, none⟩), ordV 5 f t n] W (DoneM B W b g0 A1 A3 c0 c1 s) := by
  obtain ⟨q0, q1, q2, q3, q4, q5, q6, q7⟩ := h.st
  obtain ⟨g, e, k0, k1, _, hgl⟩ := own_cell h.r0 hf
  simp only [Option.some.injEq, Addr.mk.injEq, and_true] at e
  subst e
  have hbl := h.lt
  have hab := (Below.refl W.heap.size W).alloc (Nat.le_refl _) (.cells #[.int .i64 5, .int .i64 f, .int .i64 t, .int .i64 n] 33)
  have HU := Lib.hid (And.intro (h.below hab) (Moves.below (B := B) (M := MB b g0 A1 A3) hab))
  clear h hab
  generalize getI s.store f = y at *
  go_enter Try.func68, Try.ntmps68
  go_wp2_with fail
  go_quiet (fail)
  go_wp2_with fail
  refine bodyPost_ret (results_none rfl _ _ _) rfl ⟨⟨_, rfl⟩, _, _, HU.out.1.drewN _, HU.out.2.drewN _⟩
theorem do_any (hok : s.Ok) (he : s.ends = 0) (W : World) (hB : B ≤ W.heap.size) (h : MachAt B W b g0 A1 A3 c0 c1 c3 s) :
    Calls Try.prog 68 #[.pointer (some ⟨b, 0, none⟩), ordV s.op s.frm s.to s.nxt] W (DoneM B W b g0 A1 A3 c0 c1 s.does) := by
  obtain ⟨e1, e2, e3, e4, e5⟩ := MS.ends_zero he
  have ho := hok.order
  have hwf := hok.operand
  have hwt := hok.other
  have hn0 := hok.n0
  obtain ⟨f, hf⟩ := Int.eq_ofNat_of_zero_le ho.from_.1
  obtain ⟨t, ht⟩ := Int.eq_ofNat_of_zero_le ho.to_.1
  have hfl : f < s.store.length := by have := ho.from_; omega
  have htl : t < s.store.length := by have := ho.to_; omega
  have hF : s.operand = getI s.store f := by unfold MS.operand; rw [hf]
  have hT : s.other = getI s.store t := by unfold MS.other; rw [ht]
  have hself : setI s.store s.to s.other = s.store := by rw [ht, hT]; exact setI_self _ _ htl
  rw [hf, ht]
  rw [hF] at hwf
  rw [hT] at hwt
  have h7 := ho.op
  have hcase : s.op = 1 ∨ s.op = 2 ∨ s.op = 3 ∨ s.op = 4 ∨ s.op = 5 ∨ s.op = 6 ∨ s.op = 7 := by omega
  rcases hcase with hop | hop | hop | hop | hop | hop | hop
  · have e : s.does = { s with store := setI s.store t (getI s.store f % 16777216) } := by
      simp [MS.does, MS.result, hop, hF, ht, emod_word hwf]
    rw [e, hop]
    exact do_of 1 (by simp) f t _ hfl hwf W h _ _ _ (by simp) (Lib.hid fun W' h' => (replace_ok _ t htl W' h').mono fun _ _ k => k.done)
  · have e : s.does = { s with store := setI s.store t ((getI s.store t + getI s.store f) % 16777216) } := by
      simp [MS.does, MS.result, hop, hF, hT, ht]
    rw [e, hop]
    exact do_of 2 (by simp) f t _ hfl hwf W h _ _ _ (by simp) (Lib.hid fun W' h' => (add_ok _ (by unfold IsW at hwf; omega) t htl hwt W' h').mono fun _ _ k => k.done)
  · have e : s.does = { s with store := setI s.store t ((getI s.store t + - getI s.store f) % 16777216) } := by
      simp [MS.does, MS.result, hop, hF, hT, ht, Int.sub_eq_add_neg]
    rw [e, hop]
    exact do_of 3 (by simp) f t _ hfl hwf W h _ _ _ (by simp) (Lib.hid fun W' h' => (add_ok _ (by unfold IsW at hwf; omega) t htl hwt W' h').mono fun _ _ k => k.done)
  · have e : s.does = { s with store := setI s.store t ((signO (getI s.store f) * signO (getI s.store t) / 8388608) % 16777216) } := by
      simp [MS.does, MS.result, hop, hF, hT, ht]
    rw [e, hop]
    exact do_of 4 (by simp) f t _ hfl hwf W h _ _ _ (by simp) (Lib.hid fun W' h' => (multiply_ok _ hwf t htl hwt W' h').mono fun _ _ k => k.done)
  · have e : s.does = s := by
      simp [MS.does, MS.result, hop, hself]
    rw [e, hop]
    exact do_test f t _ hfl W h
  · have htk := hok.taken
    obtain ⟨k, hk⟩ := Int.eq_ofNat_of_zero_le htk.1
    have hkl : k < s.tape.length := by omega
    have hwk : IsW (getI s.tape k) := by rw [← hk]; exact MS.all_get hok.w1 htk.1 (by omega)
    have e : s.does = { s with store := setI s.store t (getI s.tape k % 16777216), taken := k + 1 } := by
      simp [MS.does, MS.result, hop, hk, ht, emod_word hwk]
    rw [e, hop]
    exact do_of 6 (by simp) f t _ hfl hwf W h _ _ (getI s.store f) (by simp) (Lib.hid fun W' h' => (read_ok _ t k htl hkl hk hok.n1 hwk W' h').mono fun _ _ k => k.done)
  · have e : s.does = { s with printed := s.printed ++ [getI s.store f] } := by
      simp [MS.does, MS.result, hop, hF, hself]
    rw [e, hop]
    exact do_of 7 (by simp) f t _ hfl hwf W h _ _ _ (by simp) (Lib.hid fun W' h' => print_ok _ _ hok.n3 W' (by have := h'.bB; have := h'.lt; omega) h')
end
end Go.Proofs.Ytmkcijecncdhpaa
