/-
  CONTRACTS OF delays, of the program and of the reference. No statement is proved here.
-/
import Derived.Test.YtpjeaajjlkgekaaDoorGt2
namespace Go.Proofs.YtpjeaajjlkgekaaDoor
open Go.RowKit Gt
set_option linter.unusedVariables false
set_option linter.unusedSimpArgs false

theorem sliceInt : SliceT Tryd.prog 23 3 (.int .i64 0) 8 := ⟨Tryd.underlying23, by kernel_rfl, rfl, by decide⟩
abbrev ints (xs : List Int) : List Value := xs.map (Value.int .i64)
/-- What stands in delays' blocks. -/
structure DlW (w : World) (n : Nt) (A : Option Addr) (c : Nat) (B : Option Addr) (d : Nat) (xs : List Int) (v : Value) (U : World) : Prop where
  nt : NtW w n A c B d U
  own : U.ownsRow (w.heap.size + 1) 3 1 v xs.length (ints xs)
theorem NtW.keep {w U V : World} {n : Nt} {A B : Option Addr} {c d : Nat} (h : NtW w n A c B d U) (hb : Below (w.heap.size + 1) U V) : NtW w n A c B d V :=
  have e : ∀ j, V.cell? ⟨w.heap.size, j, none⟩ = U.cell? ⟨w.heap.size, j, none⟩ := fun j => hb.cell (p := ⟨w.heap.size, j, none⟩) (Nat.lt_succ_self _)
  ⟨h.below.trans (below_low (by omega) hb), (e 0).trans h.c0, (e 1).trans h.c1, (e 2).trans h.c2, Nat.lt_of_lt_of_le h.size hb.size⟩
theorem dl_succ {gs : List G} {k : Nat} (h : (gG gs k).1 = 5) : dl gs (k + 1) = dl gs k + 1 := by show dl gs k + (if (gG gs k).1 = 5 then 1 else 0) = _; rw [if_pos h]
theorem dl_same {gs : List G} {k : Nat} (h : ¬ (gG gs k).1 = 5) : dl gs (k + 1) = dl gs k := by show dl gs k + (if (gG gs k).1 = 5 then 1 else 0) = _; rw [if_neg h]; rfl
set_option maxRecDepth 100000 in
set_option maxHeartbeats 4000000 in
theorem delays_any (n : Nt) (A : Option Addr) (c : Nat) (B : Option Addr) (d : Nat) (h24 : n.gs.length ≤ 24) (hins : 1 ≤ n.ins ∧ n.ins ≤ 6) (w : World) (hN : NetAt w A B n) :
    Calls Tryd.prog 41 #[ntV n A c B d] w (fun e w' => ∃ D k, e = .returned (.slice D (dl n.gs n.gs.length) k) ∧ Below w.heap.size w w') := by
  have P0 := ntW_new w n A c B d 25
  have HN := Lib.hid hN
  clear hN
  go_enter Tryd.func41, Tryd.ntmps41
  have P1 := P0
  obtain ⟨_, c0, c1, c2, hs⟩ := P1
  go_wp2
  clear c0 c1 c2 hs
  go_loopw [3, 9] (fun v i wr => ∃ (k : Nat) (xs : List Int), k ≤ n.gs.length ∧ i = .int .i64 k ∧ Hid (xs.length = dl n.gs k) ∧ DlW w n A c B d xs v wr) (fun _ i _ => n.gs.length - (intOf i).toNat)
  case atStart => exact ⟨0, [], by omega, rfl, Lib.hid rfl, ⟨P0, World.ownsRow_nil _ _ _ _⟩⟩
  case round =>
    clear P0
    obtain ⟨k, xs, hk, rfl, HX, T⟩ := hrel
    by_cases hlt : k < n.gs.length
    · obtain ⟨ad, rfl, hb, GA⟩ := (T.nt.net HN.out).g.at_ hlt
      have hxl := HX.out
      have hdl := dl_le n.gs k
      obtain ⟨a0, a1, a2⟩ := GA
      have P1 := T.nt.after ((Below.refl _ _).alloc (Nat.le_refl _) (.cells #[.int .i64 (gG n.gs k).1, .int .i64 (gG n.gs k).2.1, .int .i64 (gG n.gs k).2.2] 46))
      have W1 := T.own.alloc (.cells #[.int .i64 (gG n.gs k).1, .int .i64 (gG n.gs k).2.1, .int .i64 (gG n.gs k).2.2] 46)
      have T' := T.nt
      obtain ⟨_, c0, c1, c2, hs⟩ := T'
      by_cases h5 : (gG n.gs k).1 = 5
      · have HS := Lib.hid (dl_succ h5)
        have q5 : ((gG n.gs k).1 == 5) = true := by rw [h5]; decide
        have hl : xs.length + 1 ≤ 1000000 := by omega
        clear hxl hdl h5
        go_wp2_with (with_reducible refine wp_push sliceInt rfl (.tmp 17) (.tmp 22) rfl (w.heap.size + 1) _ _ _ (W1.alloc _) (wr.heap.size + 1) (.int .i64 (n.ins + k)) rfl rfl ?c4 rfl hl ?c5 ?_)
        case c4 => simp [go_sem]
        case c5 => simp; omega
        intro v' U' hown hg
        have T1 : DlW w n (some ad) c B d (xs ++ [n.ins + k]) v' U' := by
          have hs2 := T.nt.size
          have hb1 : Below (w.heap.size + 1) wr ((wr.alloc (.cells #[.int .i64 (gG n.gs k).1, .int .i64 (gG n.gs k).2.1, .int .i64 (gG n.gs k).2.2] 46)).alloc (.cells #[.int .i64 (n.ins + k)] 3)) := ((Below.refl _ _).alloc hs2 _).alloc (by simp; omega) _
          have hb2 := below_grown hb1 hg (by simp; omega) (W1.alloc _) (Nat.le_refl _)
          exact ⟨T.nt.keep hb2, by simpa [ints] using hown⟩
        have HN2 : Hid ((xs ++ [n.ins + (k : Int)]).length = dl n.gs (k + 1)) := Lib.hid (by rw [HS.out, List.length_append, HX.out]; rfl)
        clear T P1 W1 hown hg hl a0 a1 a2 c0 c1 c2 hs
        go_wp2
        go_roundw
        case rel => exact ⟨k + 1, xs ++ [n.ins + k], by omega, by go_num, HN2, T1⟩
        case measure => simp [intOf]; omega
      · have HS := Lib.hid (dl_same h5)
        have q5 : ((gG n.gs k).1 == 5) = false := by simpa using h5
        have T1 := DlW.mk P1 W1
        have HN2 : Hid (xs.length = dl n.gs (k + 1)) := Lib.hid (by rw [HS.out, HX.out])
        clear T P1 W1 hxl hdl h5
        go_wp2
        go_roundw
        case rel => exact ⟨k + 1, xs, by omega, by go_num, HN2, T1⟩
        case measure => simp [intOf]; omega
    · obtain rfl : k = n.gs.length := by omega
      obtain ⟨A', c', rfl, hlen, hcap, hnew, hB⟩ := ListAt.own T.own
      have HB := Lib.hid T.nt.below
      clear T hlen
      have HX2 := HX.out
      go_wp2
      go_ret
      exact ⟨A', c', by rw [← HX.out]; rfl, HB.out⟩
/-- The reference counts them. -/
theorem rdelays_any (n : Nt) (A : Option Addr) (c : Nat) (B : Option Addr) (d : Nat) (h24 : n.gs.length ≤ 24) (w : World) (hN : NetAt w A B n) :
    Calls Tryd.prog 45 #[ntV n A c B d] w (RetInt w (dl n.gs n.gs.length)) := by
  have P0 := ntW_new w n A c B d 25
  have HN := Lib.hid (P0.net hN)
  have HB := Lib.hid P0.below
  go_enter Tryd.func45, Tryd.ntmps45
  go_wp2
  generalize w.alloc (.cells #[.int .i64 n.ins, .slice A n.gs.length c, .slice B n.outs.length d] 25) = V at *
  obtain ⟨_, c0, c1, c2, hs⟩ := P0
  clear hN
  go_loop [3, 4] (fun v i => ∃ k : Nat, k ≤ n.gs.length ∧ i = .int .i64 k ∧ v = .int .i64 (dl n.gs k)) (fun _ i => n.gs.length - (intOf i).toNat)
  case atStart => exact ⟨0, by omega, rfl, rfl⟩
  case round =>
    obtain ⟨k, hk, rfl, rfl⟩ := hrel
    by_cases hlt : k < n.gs.length
    · obtain ⟨ad, rfl, hb, GA⟩ := HN.out.g.at_ hlt
      have hdl := dl_le n.gs k
      obtain ⟨a0, a1, a2⟩ := GA
      by_cases h5 : (gG n.gs k).1 = 5
      · have HS := Lib.hid (dl_succ h5)
        have q5 : ((gG n.gs k).1 == 5) = true := by rw [h5]; decide
        clear h5
        generalize hdk : dl n.gs k = x at *
        go_wp2
        go_round
        case rel => exact ⟨k + 1, by omega, by go_num, by rw [HS.out]; go_num⟩
        case measure => simp [intOf]; omega
      · have HS := Lib.hid (dl_same h5)
        have q5 : ((gG n.gs k).1 == 5) = false := by simpa using h5
        clear h5
        generalize hdk : dl n.gs k = x at *
        go_wp2
        go_round
        case rel => exact ⟨k + 1, by omega, by go_num, by rw [HS.out]⟩
        case measure => simp [intOf]; omega
    · obtain rfl : k = n.gs.length := by omega
      have hdl := dl_le n.gs n.gs.length
      go_wp2
      go_ret
      exact ⟨rfl, HB.out⟩
theorem isSignal_any (n : Nt) (A : Option Addr) (c : Nat) (B : Option Addr) (d : Nat) (s : Int) (h24 : n.gs.length ≤ 24) (hins : 1 ≤ n.ins ∧ n.ins ≤ 6) (w : World) :
    Calls Tryd.prog 42 #[ntV n A c B d, .int .i64 s] w (fun e w' => e = .returned (.bool (inS 0 (n.ins + n.gs.length - 1) s)) ∧ Below w.heap.size w w') := by
  have P0 := ntW_new w n A c B d 25
  go_enter Tryd.func42, Tryd.ntmps42
  go_wp2_with fail
  refine (signals_any n A c B d hins h24 _).mono ?_; rintro e w1 ⟨rfl, hb⟩
  have HB := Lib.hid (P0.after hb).below
  clear P0 hb
  go_wp2_with fail
  refine (within_any s 0 _ _).mono ?_; rintro e w2 ⟨rfl, rfl⟩
  go_wp2
  go_ret
  exact ⟨rfl, HB.out⟩
end Go.Proofs.YtpjeaajjlkgekaaDoor
