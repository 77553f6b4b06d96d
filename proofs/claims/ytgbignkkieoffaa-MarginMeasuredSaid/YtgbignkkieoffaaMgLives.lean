/-
  MarginLives: the walk. No statement is proved here.
-/
import Derived.Test.YtgbignkkieoffaaMg13
import Derived.Test.YtgbignkkieoffaaM3Awake
namespace Go.Proofs.Ytgbignkkieoffaa
open Go.RowKit Mg Go.Sort
set_option linter.unusedVariables false
set_option linter.unusedSimpArgs false

theorem awake_l (w : World) : Calls Try.prog 12 #[] w (fun e w' => e = .returned (.bool true) ∧ Below w.heap.size w w') := Ev.awake w
set_option maxRecDepth 100000 in
set_option maxHeartbeats 4000000 in
theorem lives_walk (W : World) (k : Kd) (A : Option Addr) (c : Nat) (hk : KindAt W A k) (step : Int) (_ : (Lit.int .i64 step).wf = true) :
    Calls Try.prog 4 #[kdV k A c, .int .i64 step] W fun e w' => e = .returned (.bool true) ∧ Below W.heap.size W w' := by
  have P0 := kdW_new W k A c 26
  have HK := Lib.hid hk
  clear hk
  go_enter Try.func4, Try.ntmps4
  go_wp2_with fail
  refine (life_any k A c step _ (P0.kind HK.out)).mono ?_; rintro e w1 ⟨rfl, hb⟩
  have P1 := P0.after hb
  clear P0 hb
  have KB := Lib.hid (fun U (hU : KindAt U A k) => rlife_any k A c step U hU)
  obtain ⟨x, y, hxy⟩ : ∃ x y, k.lifeV step = (x, y) := ⟨_, _, rfl⟩
  obtain ⟨er, her⟩ : ∃ er, k.lifeErr step = er := ⟨_, rfl⟩
  have KB' : Hid (∀ U, KindAt U A k → Calls Try.prog 14 #[kdV k A c, .int .i64 step] U fun e w' => e = .returned (.tuple #[.agg #[.int .i64 x, .int .i64 y], .int .i64 er]) ∧ Below U.heap.size U w') :=
    Lib.hid (fun U hU => (KB.out U hU).mono fun e w' h => ⟨by rw [h.1, hxy, her], h.2⟩)
  rw [hxy, her]
  clear KB hxy her
  have P2 := P1.after ((Below.refl _ _).alloc (Nat.le_refl _) (.cells #[.int .i64 x, .int .i64 y] 34))
  have HS := Lib.hid P1.size
  have q0 : (w1.alloc (.cells #[.int .i64 x, .int .i64 y] 34)).cell? ⟨w1.heap.size, 0, none⟩ = some (.int .i64 x) := by simp [go_sem]
  have q1 : (w1.alloc (.cells #[.int .i64 x, .int .i64 y] 34)).cell? ⟨w1.heap.size, 1, none⟩ = some (.int .i64 y) := by simp [go_sem]
  have ql : w1.heap.size < (w1.alloc (.cells #[.int .i64 x, .int .i64 y] 34)).heap.size := by simp
  obtain ⟨_, c0, c1, c2, c3, hs⟩ := P1
  go_wp2_with fail
  clear c0 c1 c2 c3 hs
  generalize w1.alloc (.cells #[.int .i64 x, .int .i64 y] 34) = V at *
  refine (KB'.out V (P2.kind HK.out)).mono ?_; rintro e w3 ⟨rfl, hb3⟩
  have HB := Lib.hid (P2.after hb3).below
  have d0 := (hb3.cell (p := ⟨w1.heap.size, 0, none⟩) ql).trans q0
  have d1 := (hb3.cell (p := ⟨w1.heap.size, 1, none⟩) ql).trans q1
  have dl := Nat.lt_of_lt_of_le ql hb3.size
  clear P2 hb3 q0 q1 ql
  have z1 : (x == x) = true := by simp
  have z2 : (y == y) = true := by simp
  have z3 : (er == er) = true := by simp
  go_wp2_with fail
  refine (awake_l _).mono ?_; rintro e w4 ⟨rfl, hb4⟩
  have hB2 := HB.out.trans (below_low HB.out.size ((Below.refl _ _).alloc (Nat.le_refl _) (.cells #[.int .i64 x, .int .i64 y] 34)))
  have hB3 := hB2.trans (below_low hB2.size hb4)
  clear d0 d1 dl
  go_wp2
  go_ret
  exact ⟨rfl, hB3⟩
end Go.Proofs.Ytgbignkkieoffaa
