/-
  OrderNext: the walk. No statement is proved here.
-/
import Derived.Test.YtmkcijecncdhpaaOTimes
import Derived.LoopTactic
namespace Go.Proofs.Ytmkcijecncdhpaa
open Go.RowKit
set_option linter.unusedVariables false
set_option linter.unusedSimpArgs false

theorem aft_same {t a a' : Int} (h : a' % 16 = a % 16) : aft t a' = aft t a := by unfold aft; omega
theorem untilO_same {a f o n f' o' n' t : Int} {b : Bool} (hf : f' % 16 = f % 16) (ho : o' % 16 = o % 16) (hn : n' % 16 = n % 16) : untilO a f' o' n' t b = untilO a f o n t b := by
  have ha : atO a o' n' b % 16 = atO a o n b % 16 := by unfold atO; split <;> assumption
  unfold untilO
  simp only [lastC_append, lastC, Int.add_zero]
  rw [aft_same ha]
  congr 1
  unfold waitsO
  split
  · simp only [lastC, Int.add_zero]; rw [aft_same hf]
  · split
    · simp only [lastC, Int.add_zero]; rw [aft_same ho]
    · split
      · simp only [lastC, Int.add_zero]; rw [aft_same hf, aft_same ho, aft_same ho]
      · simp only [lastC, Int.add_zero]; rw [aft_same hf, aft_same ho]
theorem untilO_mod (a f o n t : Int) (b : Bool) : untilO a f o n t b % 16 = atO a o n b % 16 := by
  unfold untilO
  rw [lastC_snoc]
  exact aft_mod _ _
theorem lines_ok {a f o n x0 x1 x2 : Int} (h : OkOrder a f o n) (h0 : 0 ≤ x0) (h1 : 0 ≤ x1) (h2 : 0 ≤ x2) : OkOrder a ((f + 16 * x0) % 128) ((o + 16 * x1) % 128) ((n + 16 * x2) % 128) :=
  ⟨h.op, by omega, by omega, by omega⟩

/-- What the two boxes hold. -/
structure NextW (w : World) (a f o n x0 x1 x2 : Int) (U : World) : Prop where
  below : Below w.heap.size w U
  c0 : U.cell? ⟨w.heap.size, 0, none⟩ = some (.int .i64 a)
  c1 : U.cell? ⟨w.heap.size, 1, none⟩ = some (.int .i64 f)
  c2 : U.cell? ⟨w.heap.size, 2, none⟩ = some (.int .i64 o)
  c3 : U.cell? ⟨w.heap.size, 3, none⟩ = some (.int .i64 n)
  l0 : U.cell? ⟨w.heap.size + 1, 0, none⟩ = some (.int .u8 x0)
  l1 : U.cell? ⟨w.heap.size + 1, 1, none⟩ = some (.int .u8 x1)
  l2 : U.cell? ⟨w.heap.size + 1, 2, none⟩ = some (.int .u8 x2)
  size : w.heap.size + 1 < U.heap.size
theorem NextW.after {w U V : World} {a f o n x0 x1 x2 : Int} (h : NextW w a f o n x0 x1 x2 U) (hb : Below U.heap.size U V) : NextW w a f o n x0 x1 x2 V :=
  have hs := h.size
  have c : ∀ j, V.cell? ⟨w.heap.size, j, none⟩ = U.cell? ⟨w.heap.size, j, none⟩ := fun j => hb.cell (p := ⟨w.heap.size, j, none⟩) (by show w.heap.size < _; omega)
  have l : ∀ j, V.cell? ⟨w.heap.size + 1, j, none⟩ = U.cell? ⟨w.heap.size + 1, j, none⟩ := fun j => hb.cell (p := ⟨w.heap.size + 1, j, none⟩) hs
  ⟨h.below.trans (below_lower (by omega) hb), (c 0).trans h.c0, (c 1).trans h.c1, (c 2).trans h.c2, (c 3).trans h.c3, (l 0).trans h.l0, (l 1).trans h.l1, (l 2).trans h.l2, Nat.lt_of_lt_of_le hs hb.size⟩
theorem nextW_new (w : World) (a f o n x0 x1 x2 : Int) : NextW w a f o n x0 x1 x2 ((w.alloc (.cells #[.int .i64 a, .int .i64 f, .int .i64 o, .int .i64 n] 33)).alloc (.cells #[.int .u8 x0, .int .u8 x1, .int .u8 x2] 48)) := by
  constructor
  · go_grown
  all_goals simp [go_sem]

set_option maxHeartbeats 2000000 in
theorem next_bad (a f o n t x0 x1 x2 e0 : Int) (he : (e0 != 0) = true) (K : Hid (∀ w, Calls Try.prog 20 #[ordV a f o n, .int .i64 t, .bool false] w fun e w' => e = .returned (.tuple #[.int .i64 0, .int .i64 0, .int .i64 e0]) ∧ Below w.heap.size w w')) (w : World) :
    Calls Try.prog 9 #[ordV a f o n, .int .i64 t, .agg #[.int .u8 x0, .int .u8 x1, .int .u8 x2]] w fun e w' => e = .returned (.bool true) ∧ Below w.heap.size w w' := by
  go_enter Try.func9, Try.ntmps9
  go_wp2
  have P0 := nextW_new w a f o n x0 x1 x2
  generalize (w.alloc (.cells #[.int .i64 a, .int .i64 f, .int .i64 o, .int .i64 n] 33)).alloc (.cells #[.int .u8 x0, .int .u8 x1, .int .u8 x2] 48) = U at *
  refine wp_loop_rounds 1 ?_
  rw [rounds_succ]
  obtain ⟨hb, c0, c1, c2, c3, l0, l1, l2, hs⟩ := P0
  go_wp2_with fail
  refine (K.out _).mono ?_; rintro e w1 ⟨rfl, hb1⟩
  have bW := below_next hb hb.size hb1
  clear hb1 hb c0 c1 c2 c3 l0 l1 l2
  go_wp2_with fail
  refine (awake_b _).mono ?_; rintro e w7 ⟨rfl, hb7⟩
  go_wp2
  go_ret
  exact ⟨rfl, below_next bW bW.size hb7⟩
set_option maxRecDepth 100000 in
set_option maxHeartbeats 4000000 in
theorem next_1 (f o n t x0 x1 x2 u0 u1 : Int) (h : OkOrder 1 f o n) (ht : 0 ≤ t ∧ t ≤ 1000000000) (h0 : 0 ≤ x0 ∧ x0 ≤ 255) (h1 : 0 ≤ x1 ∧ x1 ≤ 255) (h2 : 0 ≤ x2 ∧ x2 ≤ 255)
    (K0 : Hid (∀ w, Calls Try.prog 20 #[ordV 1 f o n, .int .i64 t, .bool false] w fun e w' => e = .returned (.tuple #[.int .i64 n, .int .i64 u0, .int .i64 0]) ∧ Below w.heap.size w w'))
    (P0 : Hid (∀ w, Calls Try.prog 20 #[ordV 1 ((f + 16 * x0) % 128) ((o + 16 * x1) % 128) ((n + 16 * x2) % 128), .int .i64 t, .bool false] w fun e w' => e = .returned (.tuple #[.int .i64 ((n + 16 * x2) % 128), .int .i64 u0, .int .i64 0]) ∧ Below w.heap.size w w'))
    (hu0 : 3 ≤ u0 - t ∧ u0 - t ≤ 48) (hm0 : u0 % 16 = n % 16)
    (K1 : Hid (∀ w, Calls Try.prog 20 #[ordV 1 f o n, .int .i64 t, .bool true] w fun e w' => e = .returned (.tuple #[.int .i64 n, .int .i64 u1, .int .i64 0]) ∧ Below w.heap.size w w'))
    (P1 : Hid (∀ w, Calls Try.prog 20 #[ordV 1 ((f + 16 * x0) % 128) ((o + 16 * x1) % 128) ((n + 16 * x2) % 128), .int .i64 t, .bool true] w fun e w' => e = .returned (.tuple #[.int .i64 ((n + 16 * x2) % 128), .int .i64 u1, .int .i64 0]) ∧ Below w.heap.size w w'))
    (hu1 : 3 ≤ u1 - t ∧ u1 - t ≤ 48) (hm1 : u1 % 16 = n % 16)
    (w : World) :
    Calls Try.prog 9 #[ordV 1 f o n, .int .i64 t, .agg #[.int .u8 x0, .int .u8 x1, .int .u8 x2]] w fun e w' => e = .returned (.bool true) ∧ Below w.heap.size w w' := by
  obtain ⟨-, ⟨hf1, hf2⟩, ⟨ho1', ho2'⟩, hn1, hn2⟩ := h
  obtain ⟨ht1, ht2⟩ := ht
  obtain ⟨h01, h02⟩ := h0
  obtain ⟨h11, h12⟩ := h1
  obtain ⟨h21, h22⟩ := h2
  obtain ⟨hu01, hu02⟩ := hu0
  obtain ⟨hu11, hu12⟩ := hu1
  have hp0 : 0 ≤ u0 := by omega
  have hp1 : 0 ≤ u1 := by omega
  have hq0 : u0 ≤ 1000000100 := by omega
  have hq1 : u1 ≤ 1000000100 := by omega
  have hm0' : (u0 % 16 != n % 16) = false := by simpa using hm0
  have hm1' : (u1 % 16 != n % 16) = false := by simpa using hm1
  have hnn : (n != n) = false := by simp
  have hv0 : (u0 != u0) = false := by simp
  have hv1 : (u1 != u1) = false := by simp
  clear hm0 hm1
  go_enter Try.func9, Try.ntmps9
  go_wp2
  have P0 := nextW_new w 1 f o n x0 x1 x2
  generalize (w.alloc (.cells #[.int .i64 1, .int .i64 f, .int .i64 o, .int .i64 n] 33)).alloc (.cells #[.int .u8 x0, .int .u8 x1, .int .u8 x2] 48) = U at *
  go_loopw [7] (fun i wr => ∃ k : Nat, k ≤ 2 ∧ i = .int .i64 k ∧ NextW w 1 f o n x0 x1 x2 wr) (fun i _ => 2 - (intOf i).toNat)
  case atStart => exact ⟨0, by omega, rfl, P0⟩
  case round =>
    clear P0
    obtain ⟨k, hk, rfl, P⟩ := hrel
    obtain rfl | rfl | rfl : k = 0 ∨ k = 1 ∨ k = 2 := by omega
    · simp only [Int.natCast_zero] at *
      obtain ⟨hb, c0, c1, c2, c3, l0, l1, l2, hs⟩ := P
      go_wp2_with fail
      refine (K0.out _).mono ?_; rintro e w1 ⟨rfl, hb1⟩
      have Q1 := (NextW.mk hb c0 c1 c2 c3 l0 l1 l2 hs).after hb1
      clear hb1 hb c0 c1 c2 c3 l0 l1 l2 hs
      obtain ⟨hb, c0, c1, c2, c3, l0, l1, l2, hs⟩ := Q1
      go_wp2_with fail
      refine (P0.out _).mono ?_; rintro e w2 ⟨rfl, hb2⟩
      have Q2 := ((NextW.mk hb c0 c1 c2 c3 l0 l1 l2 hs).after ((Below.refl _ _).alloc (Nat.le_refl _) _)).after hb2
      clear hb2 hb c0 c1 c2 c3 l0 l1 l2 hs
      go_wp2
      go_roundw
      case rel => exact ⟨1, by omega, by go_num, Q2⟩
      case measure => simp [intOf] <;> omega
    · simp only [Int.natCast_one] at *
      obtain ⟨hb, c0, c1, c2, c3, l0, l1, l2, hs⟩ := P
      go_wp2_with fail
      refine (K1.out _).mono ?_; rintro e w1 ⟨rfl, hb1⟩
      have Q1 := (NextW.mk hb c0 c1 c2 c3 l0 l1 l2 hs).after hb1
      clear hb1 hb c0 c1 c2 c3 l0 l1 l2 hs
      obtain ⟨hb, c0, c1, c2, c3, l0, l1, l2, hs⟩ := Q1
      go_wp2_with fail
      refine (P1.out _).mono ?_; rintro e w2 ⟨rfl, hb2⟩
      have Q2 := ((NextW.mk hb c0 c1 c2 c3 l0 l1 l2 hs).after ((Below.refl _ _).alloc (Nat.le_refl _) _)).after hb2
      clear hb2 hb c0 c1 c2 c3 l0 l1 l2 hs
      go_wp2
      go_roundw
      case rel => exact ⟨2, by omega, by go_num, Q2⟩
      case measure => simp [intOf] <;> omega
    · have hc2 : ((2 : Nat) : Int) = 2 := rfl
      rw [hc2]
      clear hc2
      have hb := P.below
      clear P
      go_wp2_with fail
      refine (awake_b _).mono ?_; rintro e w7 ⟨rfl, hb7⟩
      go_wp2
      go_ret
      exact ⟨rfl, below_next hb hb.size hb7⟩
set_option maxRecDepth 100000 in
set_option maxHeartbeats 4000000 in
theorem next_2 (f o n t x0 x1 x2 u0 u1 : Int) (h : OkOrder 2 f o n) (ht : 0 ≤ t ∧ t ≤ 1000000000) (h0 : 0 ≤ x0 ∧ x0 ≤ 255) (h1 : 0 ≤ x1 ∧ x1 ≤ 255) (h2 : 0 ≤ x2 ∧ x2 ≤ 255)
    (K0 : Hid (∀ w, Calls Try.prog 20 #[ordV 2 f o n, .int .i64 t, .bool false] w fun e w' => e = .returned (.tuple #[.int .i64 n, .int .i64 u0, .int .i64 0]) ∧ Below w.heap.size w w'))
    (P0 : Hid (∀ w, Calls Try.prog 20 #[ordV 2 ((f + 16 * x0) % 128) ((o + 16 * x1) % 128) ((n + 16 * x2) % 128), .int .i64 t, .bool false] w fun e w' => e = .returned (.tuple #[.int .i64 ((n + 16 * x2) % 128), .int .i64 u0, .int .i64 0]) ∧ Below w.heap.size w w'))
    (hu0 : 3 ≤ u0 - t ∧ u0 - t ≤ 48) (hm0 : u0 % 16 = n % 16)
    (K1 : Hid (∀ w, Calls Try.prog 20 #[ordV 2 f o n, .int .i64 t, .bool true] w fun e w' => e = .returned (.tuple #[.int .i64 n, .int .i64 u1, .int .i64 0]) ∧ Below w.heap.size w w'))
    (P1 : Hid (∀ w, Calls Try.prog 20 #[ordV 2 ((f + 16 * x0) % 128) ((o + 16 * x1) % 128) ((n + 16 * x2) % 128), .int .i64 t, .bool true] w fun e w' => e = .returned (.tuple #[.int .i64 ((n + 16 * x2) % 128), .int .i64 u1, .int .i64 0]) ∧ Below w.heap.size w w'))
    (hu1 : 3 ≤ u1 - t ∧ u1 - t ≤ 48) (hm1 : u1 % 16 = n % 16)
    (w : World) :
    Calls Try.prog 9 #[ordV 2 f o n, .int .i64 t, .agg #[.int .u8 x0, .int .u8 x1, .int .u8 x2]] w fun e w' => e = .returned (.bool true) ∧ Below w.heap.size w w' := by
  obtain ⟨-, ⟨hf1, hf2⟩, ⟨ho1', ho2'⟩, hn1, hn2⟩ := h
  obtain ⟨ht1, ht2⟩ := ht
  obtain ⟨h01, h02⟩ := h0
  obtain ⟨h11, h12⟩ := h1
  obtain ⟨h21, h22⟩ := h2
  obtain ⟨hu01, hu02⟩ := hu0
  obtain ⟨hu11, hu12⟩ := hu1
  have hp0 : 0 ≤ u0 := by omega
  have hp1 : 0 ≤ u1 := by omega
  have hq0 : u0 ≤ 1000000100 := by omega
  have hq1 : u1 ≤ 1000000100 := by omega
  have hm0' : (u0 % 16 != n % 16) = false := by simpa using hm0
  have hm1' : (u1 % 16 != n % 16) = false := by simpa using hm1
  have hnn : (n != n) = false := by simp
  have hv0 : (u0 != u0) = false := by simp
  have hv1 : (u1 != u1) = false := by simp
  clear hm0 hm1
  go_enter Try.func9, Try.ntmps9
  go_wp2
  have P0 := nextW_new w 2 f o n x0 x1 x2
  generalize (w.alloc (.cells #[.int .i64 2, .int .i64 f, .int .i64 o, .int .i64 n] 33)).alloc (.cells #[.int .u8 x0, .int .u8 x1, .int .u8 x2] 48) = U at *
  go_loopw [7] (fun i wr => ∃ k : Nat, k ≤ 2 ∧ i = .int .i64 k ∧ NextW w 2 f o n x0 x1 x2 wr) (fun i _ => 2 - (intOf i).toNat)
  case atStart => exact ⟨0, by omega, rfl, P0⟩
  case round =>
    clear P0
    obtain ⟨k, hk, rfl, P⟩ := hrel
    obtain rfl | rfl | rfl : k = 0 ∨ k = 1 ∨ k = 2 := by omega
    · simp only [Int.natCast_zero] at *
      obtain ⟨hb, c0, c1, c2, c3, l0, l1, l2, hs⟩ := P
      go_wp2_with fail
      refine (K0.out _).mono ?_; rintro e w1 ⟨rfl, hb1⟩
      have Q1 := (NextW.mk hb c0 c1 c2 c3 l0 l1 l2 hs).after hb1
      clear hb1 hb c0 c1 c2 c3 l0 l1 l2 hs
      obtain ⟨hb, c0, c1, c2, c3, l0, l1, l2, hs⟩ := Q1
      go_wp2_with fail
      refine (P0.out _).mono ?_; rintro e w2 ⟨rfl, hb2⟩
      have Q2 := ((NextW.mk hb c0 c1 c2 c3 l0 l1 l2 hs).after ((Below.refl _ _).alloc (Nat.le_refl _) _)).after hb2
      clear hb2 hb c0 c1 c2 c3 l0 l1 l2 hs
      go_wp2
      go_roundw
      case rel => exact ⟨1, by omega, by go_num, Q2⟩
      case measure => simp [intOf] <;> omega
    · simp only [Int.natCast_one] at *
      obtain ⟨hb, c0, c1, c2, c3, l0, l1, l2, hs⟩ := P
      go_wp2_with fail
      refine (K1.out _).mono ?_; rintro e w1 ⟨rfl, hb1⟩
      have Q1 := (NextW.mk hb c0 c1 c2 c3 l0 l1 l2 hs).after hb1
      clear hb1 hb c0 c1 c2 c3 l0 l1 l2 hs
      obtain ⟨hb, c0, c1, c2, c3, l0, l1, l2, hs⟩ := Q1
      go_wp2_with fail
      refine (P1.out _).mono ?_; rintro e w2 ⟨rfl, hb2⟩
      have Q2 := ((NextW.mk hb c0 c1 c2 c3 l0 l1 l2 hs).after ((Below.refl _ _).alloc (Nat.le_refl _) _)).after hb2
      clear hb2 hb c0 c1 c2 c3 l0 l1 l2 hs
      go_wp2
      go_roundw
      case rel => exact ⟨2, by omega, by go_num, Q2⟩
      case measure => simp [intOf] <;> omega
    · have hc2 : ((2 : Nat) : Int) = 2 := rfl
      rw [hc2]
      clear hc2
      have hb := P.below
      clear P
      go_wp2_with fail
      refine (awake_b _).mono ?_; rintro e w7 ⟨rfl, hb7⟩
      go_wp2
      go_ret
      exact ⟨rfl, below_next hb hb.size hb7⟩
set_option maxRecDepth 100000 in
set_option maxHeartbeats 4000000 in
theorem next_3 (f o n t x0 x1 x2 u0 u1 : Int) (h : OkOrder 3 f o n) (ht : 0 ≤ t ∧ t ≤ 1000000000) (h0 : 0 ≤ x0 ∧ x0 ≤ 255) (h1 : 0 ≤ x1 ∧ x1 ≤ 255) (h2 : 0 ≤ x2 ∧ x2 ≤ 255)
    (K0 : Hid (∀ w, Calls Try.prog 20 #[ordV 3 f o n, .int .i64 t, .bool false] w fun e w' => e = .returned (.tuple #[.int .i64 n, .int .i64 u0, .int .i64 0]) ∧ Below w.heap.size w w'))
    (P0 : Hid (∀ w, Calls Try.prog 20 #[ordV 3 ((f + 16 * x0) % 128) ((o + 16 * x1) % 128) ((n + 16 * x2) % 128), .int .i64 t, .bool false] w fun e w' => e = .returned (.tuple #[.int .i64 ((n + 16 * x2) % 128), .int .i64 u0, .int .i64 0]) ∧ Below w.heap.size w w'))
    (hu0 : 3 ≤ u0 - t ∧ u0 - t ≤ 48) (hm0 : u0 % 16 = n % 16)
    (K1 : Hid (∀ w, Calls Try.prog 20 #[ordV 3 f o n, .int .i64 t, .bool true] w fun e w' => e = .returned (.tuple #[.int .i64 n, .int .i64 u1, .int .i64 0]) ∧ Below w.heap.size w w'))
    (P1 : Hid (∀ w, Calls Try.prog 20 #[ordV 3 ((f + 16 * x0) % 128) ((o + 16 * x1) % 128) ((n + 16 * x2) % 128), .int .i64 t, .bool true] w fun e w' => e = .returned (.tuple #[.int .i64 ((n + 16 * x2) % 128), .int .i64 u1, .int .i64 0]) ∧ Below w.heap.size w w'))
    (hu1 : 3 ≤ u1 - t ∧ u1 - t ≤ 48) (hm1 : u1 % 16 = n % 16)
    (w : World) :
    Calls Try.prog 9 #[ordV 3 f o n, .int .i64 t, .agg #[.int .u8 x0, .int .u8 x1, .int .u8 x2]] w fun e w' => e = .returned (.bool true) ∧ Below w.heap.size w w' := by
  obtain ⟨-, ⟨hf1, hf2⟩, ⟨ho1', ho2'⟩, hn1, hn2⟩ := h
  obtain ⟨ht1, ht2⟩ := ht
  obtain ⟨h01, h02⟩ := h0
  obtain ⟨h11, h12⟩ := h1
  obtain ⟨h21, h22⟩ := h2
  obtain ⟨hu01, hu02⟩ := hu0
  obtain ⟨hu11, hu12⟩ := hu1
  have hp0 : 0 ≤ u0 := by omega
  have hp1 : 0 ≤ u1 := by omega
  have hq0 : u0 ≤ 1000000100 := by omega
  have hq1 : u1 ≤ 1000000100 := by omega
  have hm0' : (u0 % 16 != n % 16) = false := by simpa using hm0
  have hm1' : (u1 % 16 != n % 16) = false := by simpa using hm1
  have hnn : (n != n) = false := by simp
  have hv0 : (u0 != u0) = false := by simp
  have hv1 : (u1 != u1) = false := by simp
  clear hm0 hm1
  go_enter Try.func9, Try.ntmps9
  go_wp2
  have P0 := nextW_new w 3 f o n x0 x1 x2
  generalize (w.alloc (.cells #[.int .i64 3, .int .i64 f, .int .i64 o, .int .i64 n] 33)).alloc (.cells #[.int .u8 x0, .int .u8 x1, .int .u8 x2] 48) = U at *
  go_loopw [7] (fun i wr => ∃ k : Nat, k ≤ 2 ∧ i = .int .i64 k ∧ NextW w 3 f o n x0 x1 x2 wr) (fun i _ => 2 - (intOf i).toNat)
  case atStart => exact ⟨0, by omega, rfl, P0⟩
  case round =>
    clear P0
    obtain ⟨k, hk, rfl, P⟩ := hrel
    obtain rfl | rfl | rfl : k = 0 ∨ k = 1 ∨ k = 2 := by omega
    · simp only [Int.natCast_zero] at *
      obtain ⟨hb, c0, c1, c2, c3, l0, l1, l2, hs⟩ := P
      go_wp2_with fail
      refine (K0.out _).mono ?_; rintro e w1 ⟨rfl, hb1⟩
      have Q1 := (NextW.mk hb c0 c1 c2 c3 l0 l1 l2 hs).after hb1
      clear hb1 hb c0 c1 c2 c3 l0 l1 l2 hs
      obtain ⟨hb, c0, c1, c2, c3, l0, l1, l2, hs⟩ := Q1
      go_wp2_with fail
      refine (P0.out _).mono ?_; rintro e w2 ⟨rfl, hb2⟩
      have Q2 := ((NextW.mk hb c0 c1 c2 c3 l0 l1 l2 hs).after ((Below.refl _ _).alloc (Nat.le_refl _) _)).after hb2
      clear hb2 hb c0 c1 c2 c3 l0 l1 l2 hs
      go_wp2
      go_roundw
      case rel => exact ⟨1, by omega, by go_num, Q2⟩
      case measure => simp [intOf] <;> omega
    · simp only [Int.natCast_one] at *
      obtain ⟨hb, c0, c1, c2, c3, l0, l1, l2, hs⟩ := P
      go_wp2_with fail
      refine (K1.out _).mono ?_; rintro e w1 ⟨rfl, hb1⟩
      have Q1 := (NextW.mk hb c0 c1 c2 c3 l0 l1 l2 hs).after hb1
      clear hb1 hb c0 c1 c2 c3 l0 l1 l2 hs
      obtain ⟨hb, c0, c1, c2, c3, l0, l1, l2, hs⟩ := Q1
      go_wp2_with fail
      refine (P1.out _).mono ?_; rintro e w2 ⟨rfl, hb2⟩
      have Q2 := ((NextW.mk hb c0 c1 c2 c3 l0 l1 l2 hs).after ((Below.refl _ _).alloc (Nat.le_refl _) _)).after hb2
      clear hb2 hb c0 c1 c2 c3 l0 l1 l2 hs
      go_wp2
      go_roundw
      case rel => exact ⟨2, by omega, by go_num, Q2⟩
      case measure => simp [intOf] <;> omega
    · have hc2 : ((2 : Nat) : Int) = 2 := rfl
      rw [hc2]
      clear hc2
      have hb := P.below
      clear P
      go_wp2_with fail
      refine (awake_b _).mono ?_; rintro e w7 ⟨rfl, hb7⟩
      go_wp2
      go_ret
      exact ⟨rfl, below_next hb hb.size hb7⟩
set_option maxRecDepth 100000 in
set_option maxHeartbeats 4000000 in
theorem next_4 (f o n t x0 x1 x2 u0 u1 : Int) (h : OkOrder 4 f o n) (ht : 0 ≤ t ∧ t ≤ 1000000000) (h0 : 0 ≤ x0 ∧ x0 ≤ 255) (h1 : 0 ≤ x1 ∧ x1 ≤ 255) (h2 : 0 ≤ x2 ∧ x2 ≤ 255)
    (K0 : Hid (∀ w, Calls Try.prog 20 #[ordV 4 f o n, .int .i64 t, .bool false] w fun e w' => e = .returned (.tuple #[.int .i64 n, .int .i64 u0, .int .i64 0]) ∧ Below w.heap.size w w'))
    (P0 : Hid (∀ w, Calls Try.prog 20 #[ordV 4 ((f + 16 * x0) % 128) ((o + 16 * x1) % 128) ((n + 16 * x2) % 128), .int .i64 t, .bool false] w fun e w' => e = .returned (.tuple #[.int .i64 ((n + 16 * x2) % 128), .int .i64 u0, .int .i64 0]) ∧ Below w.heap.size w w'))
    (hu0 : 16 ≤ u0 - t ∧ u0 - t ≤ 76) (hm0 : u0 % 16 = n % 16)
    (K1 : Hid (∀ w, Calls Try.prog 20 #[ordV 4 f o n, .int .i64 t, .bool true] w fun e w' => e = .returned (.tuple #[.int .i64 n, .int .i64 u1, .int .i64 0]) ∧ Below w.heap.size w w'))
    (P1 : Hid (∀ w, Calls Try.prog 20 #[ordV 4 ((f + 16 * x0) % 128) ((o + 16 * x1) % 128) ((n + 16 * x2) % 128), .int .i64 t, .bool true] w fun e w' => e = .returned (.tuple #[.int .i64 ((n + 16 * x2) % 128), .int .i64 u1, .int .i64 0]) ∧ Below w.heap.size w w'))
    (hu1 : 16 ≤ u1 - t ∧ u1 - t ≤ 76) (hm1 : u1 % 16 = n % 16)
    (w : World) :
    Calls Try.prog 9 #[ordV 4 f o n, .int .i64 t, .agg #[.int .u8 x0, .int .u8 x1, .int .u8 x2]] w fun e w' => e = .returned (.bool true) ∧ Below w.heap.size w w' := by
  obtain ⟨-, ⟨hf1, hf2⟩, ⟨ho1', ho2'⟩, hn1, hn2⟩ := h
  obtain ⟨ht1, ht2⟩ := ht
  obtain ⟨h01, h02⟩ := h0
  obtain ⟨h11, h12⟩ := h1
  obtain ⟨h21, h22⟩ := h2
  obtain ⟨hu01, hu02⟩ := hu0
  obtain ⟨hu11, hu12⟩ := hu1
  have hp0 : 0 ≤ u0 := by omega
  have hp1 : 0 ≤ u1 := by omega
  have hq0 : u0 ≤ 1000000100 := by omega
  have hq1 : u1 ≤ 1000000100 := by omega
  have hm0' : (u0 % 16 != n % 16) = false := by simpa using hm0
  have hm1' : (u1 % 16 != n % 16) = false := by simpa using hm1
  have hnn : (n != n) = false := by simp
  have hv0 : (u0 != u0) = false := by simp
  have hv1 : (u1 != u1) = false := by simp
  clear hm0 hm1
  go_enter Try.func9, Try.ntmps9
  go_wp2
  have P0 := nextW_new w 4 f o n x0 x1 x2
  generalize (w.alloc (.cells #[.int .i64 4, .int .i64 f, .int .i64 o, .int .i64 n] 33)).alloc (.cells #[.int .u8 x0, .int .u8 x1, .int .u8 x2] 48) = U at *
  go_loopw [7] (fun i wr => ∃ k : Nat, k ≤ 2 ∧ i = .int .i64 k ∧ NextW w 4 f o n x0 x1 x2 wr) (fun i _ => 2 - (intOf i).toNat)
  case atStart => exact ⟨0, by omega, rfl, P0⟩
  case round =>
    clear P0
    obtain ⟨k, hk, rfl, P⟩ := hrel
    obtain rfl | rfl | rfl : k = 0 ∨ k = 1 ∨ k = 2 := by omega
    · simp only [Int.natCast_zero] at *
      obtain ⟨hb, c0, c1, c2, c3, l0, l1, l2, hs⟩ := P
      go_wp2_with fail
      refine (K0.out _).mono ?_; rintro e w1 ⟨rfl, hb1⟩
      have Q1 := (NextW.mk hb c0 c1 c2 c3 l0 l1 l2 hs).after hb1
      clear hb1 hb c0 c1 c2 c3 l0 l1 l2 hs
      obtain ⟨hb, c0, c1, c2, c3, l0, l1, l2, hs⟩ := Q1
      go_wp2_with fail
      refine (P0.out _).mono ?_; rintro e w2 ⟨rfl, hb2⟩
      have Q2 := ((NextW.mk hb c0 c1 c2 c3 l0 l1 l2 hs).after ((Below.refl _ _).alloc (Nat.le_refl _) _)).after hb2
      clear hb2 hb c0 c1 c2 c3 l0 l1 l2 hs
      go_wp2
      go_roundw
      case rel => exact ⟨1, by omega, by go_num, Q2⟩
      case measure => simp [intOf] <;> omega
    · simp only [Int.natCast_one] at *
      obtain ⟨hb, c0, c1, c2, c3, l0, l1, l2, hs⟩ := P
      go_wp2_with fail
      refine (K1.out _).mono ?_; rintro e w1 ⟨rfl, hb1⟩
      have Q1 := (NextW.mk hb c0 c1 c2 c3 l0 l1 l2 hs).after hb1
      clear hb1 hb c0 c1 c2 c3 l0 l1 l2 hs
      obtain ⟨hb, c0, c1, c2, c3, l0, l1, l2, hs⟩ := Q1
      go_wp2_with fail
      refine (P1.out _).mono ?_; rintro e w2 ⟨rfl, hb2⟩
      have Q2 := ((NextW.mk hb c0 c1 c2 c3 l0 l1 l2 hs).after ((Below.refl _ _).alloc (Nat.le_refl _) _)).after hb2
      clear hb2 hb c0 c1 c2 c3 l0 l1 l2 hs
      go_wp2
      go_roundw
      case rel => exact ⟨2, by omega, by go_num, Q2⟩
      case measure => simp [intOf] <;> omega
    · have hc2 : ((2 : Nat) : Int) = 2 := rfl
      rw [hc2]
      clear hc2
      have hb := P.below
      clear P
      go_wp2_with fail
      refine (awake_b _).mono ?_; rintro e w7 ⟨rfl, hb7⟩
      go_wp2
      go_ret
      exact ⟨rfl, below_next hb hb.size hb7⟩
set_option maxRecDepth 100000 in
set_option maxHeartbeats 4000000 in
theorem next_5 (f o n t x0 x1 x2 u0 u1 : Int) (h : OkOrder 5 f o n) (ht : 0 ≤ t ∧ t ≤ 1000000000) (h0 : 0 ≤ x0 ∧ x0 ≤ 255) (h1 : 0 ≤ x1 ∧ x1 ≤ 255) (h2 : 0 ≤ x2 ∧ x2 ≤ 255) (hon : o = n ∨ o ≠ n)
    (K0 : Hid (∀ w, Calls Try.prog 20 #[ordV 5 f o n, .int .i64 t, .bool false] w fun e w' => e = .returned (.tuple #[.int .i64 n, .int .i64 u0, .int .i64 0]) ∧ Below w.heap.size w w'))
    (P0 : Hid (∀ w, Calls Try.prog 20 #[ordV 5 ((f + 16 * x0) % 128) ((o + 16 * x1) % 128) ((n + 16 * x2) % 128), .int .i64 t, .bool false] w fun e w' => e = .returned (.tuple #[.int .i64 ((n + 16 * x2) % 128), .int .i64 u0, .int .i64 0]) ∧ Below w.heap.size w w'))
    (hu0 : 2 ≤ u0 - t ∧ u0 - t ≤ 32) (hm0 : u0 % 16 = n % 16)
    (K1 : Hid (∀ w, Calls Try.prog 20 #[ordV 5 f o n, .int .i64 t, .bool true] w fun e w' => e = .returned (.tuple #[.int .i64 o, .int .i64 u1, .int .i64 0]) ∧ Below w.heap.size w w'))
    (P1 : Hid (∀ w, Calls Try.prog 20 #[ordV 5 ((f + 16 * x0) % 128) ((o + 16 * x1) % 128) ((n + 16 * x2) % 128), .int .i64 t, .bool true] w fun e w' => e = .returned (.tuple #[.int .i64 ((o + 16 * x1) % 128), .int .i64 u1, .int .i64 0]) ∧ Below w.heap.size w w'))
    (hu1 : 2 ≤ u1 - t ∧ u1 - t ≤ 32) (hm1 : u1 % 16 = o % 16)
    (w : World) :
    Calls Try.prog 9 #[ordV 5 f o n, .int .i64 t, .agg #[.int .u8 x0, .int .u8 x1, .int .u8 x2]] w fun e w' => e = .returned (.bool true) ∧ Below w.heap.size w w' := by
  obtain ⟨-, ⟨hf1, hf2⟩, ⟨ho1', ho2'⟩, hn1, hn2⟩ := h
  obtain ⟨ht1, ht2⟩ := ht
  obtain ⟨h01, h02⟩ := h0
  obtain ⟨h11, h12⟩ := h1
  obtain ⟨h21, h22⟩ := h2
  obtain ⟨hu01, hu02⟩ := hu0
  obtain ⟨hu11, hu12⟩ := hu1
  have hp0 : 0 ≤ u0 := by omega
  have hp1 : 0 ≤ u1 := by omega
  have hq0 : u0 ≤ 1000000100 := by omega
  have hq1 : u1 ≤ 1000000100 := by omega
  have hm0' : (u0 % 16 != n % 16) = false := by simpa using hm0
  have hm1' : (u1 % 16 != o % 16) = false := by simpa using hm1
  have hnn : (n != n) = false := by simp
  have hv0 : (u0 != u0) = false := by simp
  have hv1 : (u1 != u1) = false := by simp
  clear hm0 hm1
  go_enter Try.func9, Try.ntmps9
  go_wp2
  have P0 := nextW_new w 5 f o n x0 x1 x2
  generalize (w.alloc (.cells #[.int .i64 5, .int .i64 f, .int .i64 o, .int .i64 n] 33)).alloc (.cells #[.int .u8 x0, .int .u8 x1, .int .u8 x2] 48) = U at *
  go_loopw [7] (fun i wr => ∃ k : Nat, k ≤ 2 ∧ i = .int .i64 k ∧ NextW w 5 f o n x0 x1 x2 wr) (fun i _ => 2 - (intOf i).toNat)
  case atStart => exact ⟨0, by omega, rfl, P0⟩
  case round =>
    clear P0
    obtain ⟨k, hk, rfl, P⟩ := hrel
    obtain rfl | rfl | rfl : k = 0 ∨ k = 1 ∨ k = 2 := by omega
    · simp only [Int.natCast_zero] at *
      obtain ⟨hb, c0, c1, c2, c3, l0, l1, l2, hs⟩ := P
      go_wp2_with fail
      refine (K0.out _).mono ?_; rintro e w1 ⟨rfl, hb1⟩
      have Q1 := (NextW.mk hb c0 c1 c2 c3 l0 l1 l2 hs).after hb1
      clear hb1 hb c0 c1 c2 c3 l0 l1 l2 hs
      obtain ⟨hb, c0, c1, c2, c3, l0, l1, l2, hs⟩ := Q1
      go_wp2_with fail
      refine (P0.out _).mono ?_; rintro e w2 ⟨rfl, hb2⟩
      have Q2 := ((NextW.mk hb c0 c1 c2 c3 l0 l1 l2 hs).after ((Below.refl _ _).alloc (Nat.le_refl _) _)).after hb2
      clear hb2 hb c0 c1 c2 c3 l0 l1 l2 hs
      go_wp2
      go_roundw
      case rel => exact ⟨1, by omega, by go_num, Q2⟩
      case measure => simp [intOf] <;> omega
    · simp only [Int.natCast_one] at *
      rcases hon with rfl | hon
      · have ho1 : (o != o) = false := by simp
        obtain ⟨hb, c0, c1, c2, c3, l0, l1, l2, hs⟩ := P
        go_wp2_with fail
        refine (K1.out _).mono ?_; rintro e w1 ⟨rfl, hb1⟩
        have Q1 := (NextW.mk hb c0 c1 c2 c3 l0 l1 l2 hs).after hb1
        clear hb1 hb c0 c1 c2 c3 l0 l1 l2 hs
        obtain ⟨hb, c0, c1, c2, c3, l0, l1, l2, hs⟩ := Q1
        go_wp2_with fail
        refine (P1.out _).mono ?_; rintro e w2 ⟨rfl, hb2⟩
        have Q2 := ((NextW.mk hb c0 c1 c2 c3 l0 l1 l2 hs).after ((Below.refl _ _).alloc (Nat.le_refl _) _)).after hb2
        clear hb2 hb c0 c1 c2 c3 l0 l1 l2 hs
        go_wp2
        go_roundw
        case rel => exact ⟨2, by omega, by go_num, Q2⟩
        case measure => simp [intOf] <;> omega
      · have ho1 : (o != n) = true := by simpa using hon
        have ho2 : (o != o) = false := by simp
        clear hon
        obtain ⟨hb, c0, c1, c2, c3, l0, l1, l2, hs⟩ := P
        go_wp2_with fail
        refine (K1.out _).mono ?_; rintro e w1 ⟨rfl, hb1⟩
        have Q1 := (NextW.mk hb c0 c1 c2 c3 l0 l1 l2 hs).after hb1
        clear hb1 hb c0 c1 c2 c3 l0 l1 l2 hs
        obtain ⟨hb, c0, c1, c2, c3, l0, l1, l2, hs⟩ := Q1
        go_wp2_with fail
        refine (P1.out _).mono ?_; rintro e w2 ⟨rfl, hb2⟩
        have Q2 := ((NextW.mk hb c0 c1 c2 c3 l0 l1 l2 hs).after ((Below.refl _ _).alloc (Nat.le_refl _) _)).after hb2
        clear hb2 hb c0 c1 c2 c3 l0 l1 l2 hs
        go_wp2
        go_roundw
        case rel => exact ⟨2, by omega, by go_num, Q2⟩
        case measure => simp [intOf] <;> omega
    · have hc2 : ((2 : Nat) : Int) = 2 := rfl
      rw [hc2]
      clear hc2
      have hb := P.below
      clear P
      go_wp2_with fail
      refine (awake_b _).mono ?_; rintro e w7 ⟨rfl, hb7⟩
      go_wp2
      go_ret
      exact ⟨rfl, below_next hb hb.size hb7⟩
set_option maxRecDepth 100000 in
set_option maxHeartbeats 4000000 in
theorem next_6 (f o n t x0 x1 x2 u0 u1 : Int) (h : OkOrder 6 f o n) (ht : 0 ≤ t ∧ t ≤ 1000000000) (h0 : 0 ≤ x0 ∧ x0 ≤ 255) (h1 : 0 ≤ x1 ∧ x1 ≤ 255) (h2 : 0 ≤ x2 ∧ x2 ≤ 255)
    (K0 : Hid (∀ w, Calls Try.prog 20 #[ordV 6 f o n, .int .i64 t, .bool false] w fun e w' => e = .returned (.tuple #[.int .i64 n, .int .i64 u0, .int .i64 0]) ∧ Below w.heap.size w w'))
    (P0 : Hid (∀ w, Calls Try.prog 20 #[ordV 6 ((f + 16 * x0) % 128) ((o + 16 * x1) % 128) ((n + 16 * x2) % 128), .int .i64 t, .bool false] w fun e w' => e = .returned (.tuple #[.int .i64 ((n + 16 * x2) % 128), .int .i64 u0, .int .i64 0]) ∧ Below w.heap.size w w'))
    (hu0 : 2 ≤ u0 - t ∧ u0 - t ≤ 32) (hm0 : u0 % 16 = n % 16)
    (K1 : Hid (∀ w, Calls Try.prog 20 #[ordV 6 f o n, .int .i64 t, .bool true] w fun e w' => e = .returned (.tuple #[.int .i64 n, .int .i64 u1, .int .i64 0]) ∧ Below w.heap.size w w'))
    (P1 : Hid (∀ w, Calls Try.prog 20 #[ordV 6 ((f + 16 * x0) % 128) ((o + 16 * x1) % 128) ((n + 16 * x2) % 128), .int .i64 t, .bool true] w fun e w' => e = .returned (.tuple #[.int .i64 ((n + 16 * x2) % 128), .int .i64 u1, .int .i64 0]) ∧ Below w.heap.size w w'))
    (hu1 : 2 ≤ u1 - t ∧ u1 - t ≤ 32) (hm1 : u1 % 16 = n % 16)
    (w : World) :
    Calls Try.prog 9 #[ordV 6 f o n, .int .i64 t, .agg #[.int .u8 x0, .int .u8 x1, .int .u8 x2]] w fun e w' => e = .returned (.bool true) ∧ Below w.heap.size w w' := by
  obtain ⟨-, ⟨hf1, hf2⟩, ⟨ho1', ho2'⟩, hn1, hn2⟩ := h
  obtain ⟨ht1, ht2⟩ := ht
  obtain ⟨h01, h02⟩ := h0
  obtain ⟨h11, h12⟩ := h1
  obtain ⟨h21, h22⟩ := h2
  obtain ⟨hu01, hu02⟩ := hu0
  obtain ⟨hu11, hu12⟩ := hu1
  have hp0 : 0 ≤ u0 := by omega
  have hp1 : 0 ≤ u1 := by omega
  have hq0 : u0 ≤ 1000000100 := by omega
  have hq1 : u1 ≤ 1000000100 := by omega
  have hm0' : (u0 % 16 != n % 16) = false := by simpa using hm0
  have hm1' : (u1 % 16 != n % 16) = false := by simpa using hm1
  have hnn : (n != n) = false := by simp
  have hv0 : (u0 != u0) = false := by simp
  have hv1 : (u1 != u1) = false := by simp
  clear hm0 hm1
  go_enter Try.func9, Try.ntmps9
  go_wp2
  have P0 := nextW_new w 6 f o n x0 x1 x2
  generalize (w.alloc (.cells #[.int .i64 6, .int .i64 f, .int .i64 o, .int .i64 n] 33)).alloc (.cells #[.int .u8 x0, .int .u8 x1, .int .u8 x2] 48) = U at *
  go_loopw [7] (fun i wr => ∃ k : Nat, k ≤ 2 ∧ i = .int .i64 k ∧ NextW w 6 f o n x0 x1 x2 wr) (fun i _ => 2 - (intOf i).toNat)
  case atStart => exact ⟨0, by omega, rfl, P0⟩
  case round =>
    clear P0
    obtain ⟨k, hk, rfl, P⟩ := hrel
    obtain rfl | rfl | rfl : k = 0 ∨ k = 1 ∨ k = 2 := by omega
    · simp only [Int.natCast_zero] at *
      obtain ⟨hb, c0, c1, c2, c3, l0, l1, l2, hs⟩ := P
      go_wp2_with fail
      refine (K0.out _).mono ?_; rintro e w1 ⟨rfl, hb1⟩
      have Q1 := (NextW.mk hb c0 c1 c2 c3 l0 l1 l2 hs).after hb1
      clear hb1 hb c0 c1 c2 c3 l0 l1 l2 hs
      obtain ⟨hb, c0, c1, c2, c3, l0, l1, l2, hs⟩ := Q1
      go_wp2_with fail
      refine (P0.out _).mono ?_; rintro e w2 ⟨rfl, hb2⟩
      have Q2 := ((NextW.mk hb c0 c1 c2 c3 l0 l1 l2 hs).after ((Below.refl _ _).alloc (Nat.le_refl _) _)).after hb2
      clear hb2 hb c0 c1 c2 c3 l0 l1 l2 hs
      go_wp2
      go_roundw
      case rel => exact ⟨1, by omega, by go_num, Q2⟩
      case measure => simp [intOf] <;> omega
    · simp only [Int.natCast_one] at *
      obtain ⟨hb, c0, c1, c2, c3, l0, l1, l2, hs⟩ := P
      go_wp2_with fail
      refine (K1.out _).mono ?_; rintro e w1 ⟨rfl, hb1⟩
      have Q1 := (NextW.mk hb c0 c1 c2 c3 l0 l1 l2 hs).after hb1
      clear hb1 hb c0 c1 c2 c3 l0 l1 l2 hs
      obtain ⟨hb, c0, c1, c2, c3, l0, l1, l2, hs⟩ := Q1
      go_wp2_with fail
      refine (P1.out _).mono ?_; rintro e w2 ⟨rfl, hb2⟩
      have Q2 := ((NextW.mk hb c0 c1 c2 c3 l0 l1 l2 hs).after ((Below.refl _ _).alloc (Nat.le_refl _) _)).after hb2
      clear hb2 hb c0 c1 c2 c3 l0 l1 l2 hs
      go_wp2
      go_roundw
      case rel => exact ⟨2, by omega, by go_num, Q2⟩
      case measure => simp [intOf] <;> omega
    · have hc2 : ((2 : Nat) : Int) = 2 := rfl
      rw [hc2]
      clear hc2
      have hb := P.below
      clear P
      go_wp2_with fail
      refine (awake_b _).mono ?_; rintro e w7 ⟨rfl, hb7⟩
      go_wp2
      go_ret
      exact ⟨rfl, below_next hb hb.size hb7⟩
set_option maxRecDepth 100000 in
set_option maxHeartbeats 4000000 in
theorem next_7 (f o n t x0 x1 x2 u0 u1 : Int) (h : OkOrder 7 f o n) (ht : 0 ≤ t ∧ t ≤ 1000000000) (h0 : 0 ≤ x0 ∧ x0 ≤ 255) (h1 : 0 ≤ x1 ∧ x1 ≤ 255) (h2 : 0 ≤ x2 ∧ x2 ≤ 255)
    (K0 : Hid (∀ w, Calls Try.prog 20 #[ordV 7 f o n, .int .i64 t, .bool false] w fun e w' => e = .returned (.tuple #[.int .i64 n, .int .i64 u0, .int .i64 0]) ∧ Below w.heap.size w w'))
    (P0 : Hid (∀ w, Calls Try.prog 20 #[ordV 7 ((f + 16 * x0) % 128) ((o + 16 * x1) % 128) ((n + 16 * x2) % 128), .int .i64 t, .bool false] w fun e w' => e = .returned (.tuple #[.int .i64 ((n + 16 * x2) % 128), .int .i64 u0, .int .i64 0]) ∧ Below w.heap.size w w'))
    (hu0 : 2 ≤ u0 - t ∧ u0 - t ≤ 32) (hm0 : u0 % 16 = n % 16)
    (K1 : Hid (∀ w, Calls Try.prog 20 #[ordV 7 f o n, .int .i64 t, .bool true] w fun e w' => e = .returned (.tuple #[.int .i64 n, .int .i64 u1, .int .i64 0]) ∧ Below w.heap.size w w'))
    (P1 : Hid (∀ w, Calls Try.prog 20 #[ordV 7 ((f + 16 * x0) % 128) ((o + 16 * x1) % 128) ((n + 16 * x2) % 128), .int .i64 t, .bool true] w fun e w' => e = .returned (.tuple #[.int .i64 ((n + 16 * x2) % 128), .int .i64 u1, .int .i64 0]) ∧ Below w.heap.size w w'))
    (hu1 : 2 ≤ u1 - t ∧ u1 - t ≤ 32) (hm1 : u1 % 16 = n % 16)
    (w : World) :
    Calls Try.prog 9 #[ordV 7 f o n, .int .i64 t, .agg #[.int .u8 x0, .int .u8 x1, .int .u8 x2]] w fun e w' => e = .returned (.bool true) ∧ Below w.heap.size w w' := by
  obtain ⟨-, ⟨hf1, hf2⟩, ⟨ho1', ho2'⟩, hn1, hn2⟩ := h
  obtain ⟨ht1, ht2⟩ := ht
  obtain ⟨h01, h02⟩ := h0
  obtain ⟨h11, h12⟩ := h1
  obtain ⟨h21, h22⟩ := h2
  obtain ⟨hu01, hu02⟩ := hu0
  obtain ⟨hu11, hu12⟩ := hu1
  have hp0 : 0 ≤ u0 := by omega
  have hp1 : 0 ≤ u1 := by omega
  have hq0 : u0 ≤ 1000000100 := by omega
  have hq1 : u1 ≤ 1000000100 := by omega
  have hm0' : (u0 % 16 != n % 16) = false := by simpa using hm0
  have hm1' : (u1 % 16 != n % 16) = false := by simpa using hm1
  have hnn : (n != n) = false := by simp
  have hv0 : (u0 != u0) = false := by simp
  have hv1 : (u1 != u1) = false := by simp
  clear hm0 hm1
  go_enter Try.func9, Try.ntmps9
  go_wp2
  have P0 := nextW_new w 7 f o n x0 x1 x2
  generalize (w.alloc (.cells #[.int .i64 7, .int .i64 f, .int .i64 o, .int .i64 n] 33)).alloc (.cells #[.int .u8 x0, .int .u8 x1, .int .u8 x2] 48) = U at *
  go_loopw [7] (fun i wr => ∃ k : Nat, k ≤ 2 ∧ i = .int .i64 k ∧ NextW w 7 f o n x0 x1 x2 wr) (fun i _ => 2 - (intOf i).toNat)
  case atStart => exact ⟨0, by omega, rfl, P0⟩
  case round =>
    clear P0
    obtain ⟨k, hk, rfl, P⟩ := hrel
    obtain rfl | rfl | rfl : k = 0 ∨ k = 1 ∨ k = 2 := by omega
    · simp only [Int.natCast_zero] at *
      obtain ⟨hb, c0, c1, c2, c3, l0, l1, l2, hs⟩ := P
      go_wp2_with fail
      refine (K0.out _).mono ?_; rintro e w1 ⟨rfl, hb1⟩
      have Q1 := (NextW.mk hb c0 c1 c2 c3 l0 l1 l2 hs).after hb1
      clear hb1 hb c0 c1 c2 c3 l0 l1 l2 hs
      obtain ⟨hb, c0, c1, c2, c3, l0, l1, l2, hs⟩ := Q1
      go_wp2_with fail
      refine (P0.out _).mono ?_; rintro e w2 ⟨rfl, hb2⟩
      have Q2 := ((NextW.mk hb c0 c1 c2 c3 l0 l1 l2 hs).after ((Below.refl _ _).alloc (Nat.le_refl _) _)).after hb2
      clear hb2 hb c0 c1 c2 c3 l0 l1 l2 hs
      go_wp2
      go_roundw
      case rel => exact ⟨1, by omega, by go_num, Q2⟩
      case measure => simp [intOf] <;> omega
    · simp only [Int.natCast_one] at *
      obtain ⟨hb, c0, c1, c2, c3, l0, l1, l2, hs⟩ := P
      go_wp2_with fail
      refine (K1.out _).mono ?_; rintro e w1 ⟨rfl, hb1⟩
      have Q1 := (NextW.mk hb c0 c1 c2 c3 l0 l1 l2 hs).after hb1
      clear hb1 hb c0 c1 c2 c3 l0 l1 l2 hs
      obtain ⟨hb, c0, c1, c2, c3, l0, l1, l2, hs⟩ := Q1
      go_wp2_with fail
      refine (P1.out _).mono ?_; rintro e w2 ⟨rfl, hb2⟩
      have Q2 := ((NextW.mk hb c0 c1 c2 c3 l0 l1 l2 hs).after ((Below.refl _ _).alloc (Nat.le_refl _) _)).after hb2
      clear hb2 hb c0 c1 c2 c3 l0 l1 l2 hs
      go_wp2
      go_roundw
      case rel => exact ⟨2, by omega, by go_num, Q2⟩
      case measure => simp [intOf] <;> omega
    · have hc2 : ((2 : Nat) : Int) = 2 := rfl
      rw [hc2]
      clear hc2
      have hb := P.below
      clear P
      go_wp2_with fail
      refine (awake_b _).mono ?_; rintro e w7 ⟨rfl, hb7⟩
      go_wp2
      go_ret
      exact ⟨rfl, below_next hb hb.size hb7⟩
theorem until_3 (a f o n t : Int) (b : Bool) (h4 : a ≠ 4) (h5 : a ≠ 5) (h6 : a ≠ 6) (h7 : a ≠ 7) : 3 ≤ untilO a f o n t b - t ∧ untilO a f o n t b - t ≤ 48 := by
  have e : untilO a f o n t b = aft (aft (aft t f) o) n := by simp [untilO, waitsO, atO, lastC, h4, h5, h6, h7]
  rw [e]
  have h1 := aft_bd t f
  have h2 := aft_bd (aft t f) o
  have h3 := aft_bd (aft (aft t f) o) n
  omega
theorem until_4 (f o n t : Int) (b : Bool) : 16 ≤ untilO 4 f o n t b - t ∧ untilO 4 f o n t b - t ≤ 76 := by
  have e : untilO 4 f o n t b = aft (aft (aft (aft t f) o + 12) o) n := by simp [untilO, waitsO, atO, lastC]
  rw [e]
  have h1 := aft_bd t f
  have h2 := aft_bd (aft t f) o
  have h3 := aft_bd (aft (aft t f) o + 12) o
  have h4 := aft_bd (aft (aft (aft t f) o + 12) o) n
  omega
theorem until_2 (a f o n t : Int) (b : Bool) (h : a = 5 ∨ a = 6 ∨ a = 7) : 2 ≤ untilO a f o n t b - t ∧ untilO a f o n t b - t ≤ 32 := by
  have e : ∃ x, untilO a f o n t b = aft (aft t x) (atO a o n b) := by
    rcases h with rfl | rfl | rfl
    · exact ⟨f, by simp [untilO, waitsO, lastC]⟩
    · exact ⟨o, by simp [untilO, waitsO, lastC]⟩
    · exact ⟨f, by simp [untilO, waitsO, lastC]⟩
  obtain ⟨x, e⟩ := e
  rw [e]
  have h1 := aft_bd t x
  have h2 := aft_bd (aft t x) (atO a o n b)
  omega
theorem When_of (a f o n t : Int) (b : Bool) (h : OkOrder a f o n) (h0 : a ≠ 0) (ht : 0 ≤ t ∧ t ≤ 1000000000) (at_ u : Int) (ha : atO a o n b = at_) (hu : untilO a f o n t b = u) (w : World) :
    Calls Try.prog 20 #[ordV a f o n, .int .i64 t, .bool b] w fun e w' => e = .returned (.tuple #[.int .i64 at_, .int .i64 u, .int .i64 0]) ∧ Below w.heap.size w w' := by
  subst ha hu
  exact When_ok a f o n t b h h0 ht w
theorem orderNext_walk (a f o n t : Int) (hw : (Lit.int .i64 t).wf = true) (x0 x1 x2 : Int) (h0 : 0 ≤ x0 ∧ x0 ≤ 255) (h1 : 0 ≤ x1 ∧ x1 ≤ 255) (h2 : 0 ≤ x2 ∧ x2 ≤ 255) (w : World) :
    Calls Try.prog 9 #[ordV a f o n, .int .i64 t, .agg #[.int .u8 x0, .int .u8 x1, .int .u8 x2]] w fun e w' => e = .returned (.bool true) ∧ Below w.heap.size w w' := by
  by_cases h : OkOrder a f o n
  · by_cases ht : 0 ≤ t ∧ t ≤ 1000000000
    · by_cases ha : a = 0
      · subst ha
        exact next_bad 0 f o n t x0 x1 x2 2 rfl (Lib.hid (When_halt f o n t false h ht)) w
      · have h' := lines_ok h h0.1 h1.1 h2.1
        have same : ∀ b, untilO a ((f + 16 * x0) % 128) ((o + 16 * x1) % 128) ((n + 16 * x2) % 128) t b = untilO a f o n t b := fun b => untilO_same (by omega) (by omega) (by omega)
        have hm : ∀ b, untilO a f o n t b % 16 = atO a o n b % 16 := fun b => untilO_mod a f o n t b
        have K := fun b at_ (e : atO a o n b = at_) => When_of a f o n t b h ha ht at_ _ e rfl
        have P := fun b at_ (e : atO a ((o + 16 * x1) % 128) ((n + 16 * x2) % 128) b = at_) => When_of a _ _ _ t b h' ha ht at_ _ e (same b)
        have hr := h.op
        obtain rfl | rfl | rfl | rfl | rfl | rfl | rfl : a = 1 ∨ a = 2 ∨ a = 3 ∨ a = 4 ∨ a = 5 ∨ a = 6 ∨ a = 7 := by omega
        · exact next_1 f o n t x0 x1 x2 _ _ h ht h0 h1 h2 (Lib.hid (K false n (by simp [atO]))) (Lib.hid (P false _ (by simp [atO]))) (until_3 1 f o n t false (by decide) (by decide) (by decide) (by decide)) (by simpa [atO] using hm false) (Lib.hid (K true n (by simp [atO]))) (Lib.hid (P true _ (by simp [atO]))) (until_3 1 f o n t true (by decide) (by decide) (by decide) (by decide)) (by simpa [atO] using hm true) w
        · exact next_2 f o n t x0 x1 x2 _ _ h ht h0 h1 h2 (Lib.hid (K false n (by simp [atO]))) (Lib.hid (P false _ (by simp [atO]))) (until_3 2 f o n t false (by decide) (by decide) (by decide) (by decide)) (by simpa [atO] using hm false) (Lib.hid (K true n (by simp [atO]))) (Lib.hid (P true _ (by simp [atO]))) (until_3 2 f o n t true (by decide) (by decide) (by decide) (by decide)) (by simpa [atO] using hm true) w
        · exact next_3 f o n t x0 x1 x2 _ _ h ht h0 h1 h2 (Lib.hid (K false n (by simp [atO]))) (Lib.hid (P false _ (by simp [atO]))) (until_3 3 f o n t false (by decide) (by decide) (by decide) (by decide)) (by simpa [atO] using hm false) (Lib.hid (K true n (by simp [atO]))) (Lib.hid (P true _ (by simp [atO]))) (until_3 3 f o n t true (by decide) (by decide) (by decide) (by decide)) (by simpa [atO] using hm true) w
        · exact next_4 f o n t x0 x1 x2 _ _ h ht h0 h1 h2 (Lib.hid (K false n (by simp [atO]))) (Lib.hid (P false _ (by simp [atO]))) (until_4 f o n t false) (by simpa [atO] using hm false) (Lib.hid (K true n (by simp [atO]))) (Lib.hid (P true _ (by simp [atO]))) (until_4 f o n t true) (by simpa [atO] using hm true) w
        · exact next_5 f o n t x0 x1 x2 _ _ h ht h0 h1 h2 (by omega) (Lib.hid (K false n (by simp [atO]))) (Lib.hid (P false _ (by simp [atO]))) (until_2 5 f o n t false (by omega)) (by simpa [atO] using hm false) (Lib.hid (K true o (by simp [atO]))) (Lib.hid (P true _ (by simp [atO]))) (until_2 5 f o n t true (by omega)) (by simpa [atO] using hm true) w
        · exact next_6 f o n t x0 x1 x2 _ _ h ht h0 h1 h2 (Lib.hid (K false n (by simp [atO]))) (Lib.hid (P false _ (by simp [atO]))) (until_2 6 f o n t false (by omega)) (by simpa [atO] using hm false) (Lib.hid (K true n (by simp [atO]))) (Lib.hid (P true _ (by simp [atO]))) (until_2 6 f o n t true (by omega)) (by simpa [atO] using hm true) w
        · exact next_7 f o n t x0 x1 x2 _ _ h ht h0 h1 h2 (Lib.hid (K false n (by simp [atO]))) (Lib.hid (P false _ (by simp [atO]))) (until_2 7 f o n t false (by omega)) (by simpa [atO] using hm false) (Lib.hid (K true n (by simp [atO]))) (Lib.hid (P true _ (by simp [atO]))) (until_2 7 f o n t true (by omega)) (by simpa [atO] using hm true) w
    · exact next_bad a f o n t x0 x1 x2 7 rfl (Lib.hid (When_far a f o n t false h ht)) w
  · exact next_bad a f o n t x0 x1 x2 7 rfl (Lib.hid (When_bad a f o n t false h)) w
end Go.Proofs.Ytmkcijecncdhpaa
