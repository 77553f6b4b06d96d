/-
  THE CONTRACT OF turn. No statement is proved here.
-/
import Derived.Test.YtplipfcnjmgicaaPs3
import Derived.Laws.CopyOwn
import Derived.StillTailTactics
namespace Go.Proofs.Ytplipfcnjmgicaa
open Go.RowKit
set_option linter.unusedVariables false
set_option linter.unusedSimpArgs false

/-- A list turned: each element comes s places later. -/
def rot {α : Type} (s : Nat) (l : List α) : List α := l.drop (l.length - s) ++ l.take (l.length - s)
theorem rot_length {α : Type} (s : Nat) (l : List α) : (rot s l).length = l.length := by simp [rot]

theorem bool_size : (Try.prog.info? 4).map (·.size) = some 1 := by kernel_rfl
theorem mixed_orders : Try.prog.follows .mixedOrders = true := by kernel_rfl

theorem splice_two {α : Type} (Z X1 X0 : List α) (y : Nat) (h0 : X0.length = y) (h1 : Z.length = y + X1.length) : splice (splice Z y X1) 0 X0 = X0 ++ X1 := by
  subst h0
  unfold splice
  have e1 : (Z.take X0.length ++ (X1 ++ Z.drop (X0.length + X1.length))).drop (0 + X0.length) = X1 := by
    rw [Nat.zero_add, List.drop_append_of_le_length (by simp; omega)]
    simp [h1]
  rw [e1]
  simp

set_option maxRecDepth 100000 in
set_option maxHeartbeats 2000000 in
theorem turn_any (A : Option Addr) (c : Nat) (bs : List Bool) (hz : 1 ≤ bs.length ∧ bs.length ≤ 2560) (hcap : bs.length ≤ c) (s : Int) (w : World) (hR : BoolsAt w w.heap.size A bs) :
    Calls Try.prog 66 #[.slice A bs.length c, .int .i64 s] w (NewBools (rot (s % bs.length).toNat bs) w) := by
  obtain ⟨n, hn⟩ : ∃ n, n = bs.length := ⟨_, rfl⟩
  obtain ⟨y, hy⟩ : ∃ y : Nat, s % (bs.length : Int) = y := ⟨(s % (bs.length : Int)).toNat, by have := Int.emod_nonneg s (by omega : (bs.length : Int) ≠ 0); omega⟩
  have hyn : y < bs.length := by have := Int.emod_lt_of_pos s (by omega : (0 : Int) < bs.length); omega
  rw [hy, Int.toNat_natCast]
  have HY := Lib.hid hy
  clear hy
  rw [← hn] at hz hcap hyn HY ⊢
  have HN := Lib.hid hn
  clear hn
  go_enter Try.func66, Try.ntmps66
  go_wp2_with (with_reducible refine wp_make sliceBool rfl _ _ rfl w.heap.size n n n rfl rfl rfl rfl ?c2 ?c3 ?_)
  case c2 => omega
  case c3 => simp
  intro W hown hg
  have hrow := Lib.hid (row_full hown)
  have hB := below_grown0 (Below.refl w.heap.size w) hg (Nat.le_refl _)
  clear hown hg
  go_wp2_with fail
  refine (modulo_any s n (by omega) (by omega) _).mono ?_; rintro e W1 ⟨rfl, rfl⟩
  rw [HY.out]
  go_wp2_with fail
  have hle : y ≤ n := by omega
  have hne : ¬ n = y := by omega
  have hsub : IntKind.i64.wrap ((n : Int) - (y : Int)) = ((n - y : Nat) : Int) := by rw [IntKind.wrap_i64]; omega
  have hle2 : n - y ≤ c := by omega
  go_still_tail 10, mixed_orders
  clear hsub hle2
  refine wpList_copy_splice rfl (.tmp 18) (.tmp 23) 88 88 rfl 4 sliceBool.und bool_size _ _ _ _ _ _ rfl rfl w.heap.size y (List.replicate n (Value.bool false)) 4 hrow.out ((bs.take (n - y)).map Value.bool) ?c7 ?c8 ?c9 ?c10 w.heap.size w hB.drew (Nat.le_refl _) ?_
  case c7 => have := HN.out; simp; omega
  case c8 =>
    intro hp
    obtain ⟨ad, rfl, _, hc⟩ := hR (by simp at hp; omega)
    refine ⟨rfl, ad, rfl, fun j v hv => ?_⟩
    simp only [List.getElem?_map, List.getElem?_take, Option.map_eq_some_iff] at hv
    obtain ⟨b, hb, rfl⟩ := hv
    split at hb
    · obtain ⟨hj, rfl⟩ := List.getElem?_eq_some_iff.1 hb
      exact (hB.cell (p := ad.add j) (by rw [add_block]; assumption)).trans (hc j hj)
    · cases hb
  case c9 => have := HN.out; simp; omega
  case c10 => intro v hv; obtain ⟨b, _, rfl⟩ := List.mem_map.1 hv; rfl
  intro W2 hrow2 hB2
  clear hrow hB
  go_wp2_with fail
  have hsub : IntKind.i64.wrap ((n : Int) - (y : Int)) = ((n - y : Nat) : Int) := by rw [IntKind.wrap_i64]; omega
  have hle2 : n - y ≤ n := by omega
  have hle3 : n - y ≤ c := by omega
  go_still_tail 9, mixed_orders
  clear hsub
  refine wpList_copy_splice rfl (.tmp 28) (.tmp 33) 88 88 rfl 4 sliceBool.und bool_size _ _ _ _ _ _ rfl rfl w.heap.size 0 _ 4 hrow2.out ((bs.drop (n - y)).map Value.bool) ?d7 ?d8 ?d9 ?d10 w.heap.size w hB2.drew (Nat.le_refl _) ?_
  case d7 =>
    have hN := HN.out
    have h2 : (n - (n - y)).min y = y := Nat.min_eq_right (by omega)
    rw [h2]; simp; omega
  case d8 =>
    intro hp
    have hN := HN.out
    have hy0 : 0 < y := by simp at hp; omega
    obtain ⟨ad, rfl, hlt, hc⟩ := hR (by omega)
    rw [if_neg (by omega)]
    refine ⟨rfl, ad.add (n - y), rfl, fun j v hv => ?_⟩
    simp only [List.getElem?_map, List.getElem?_drop, Option.map_eq_some_iff] at hv
    obtain ⟨b, hb, rfl⟩ := hv
    obtain ⟨hj, rfl⟩ := List.getElem?_eq_some_iff.1 hb
    rw [add_add]
    exact (hB2.cell (p := ad.add (n - y + j)) (by rw [add_block]; exact hlt)).trans (hc _ hj)
  case d9 =>
    have hN := HN.out
    have h1 : (splice (List.replicate n (Value.bool false)) y ((bs.take (n - y)).map Value.bool)).length = n := by rw [length_splice _ _ _ (by simp; omega)]; simp
    rw [h1]; simp; omega
  case d10 => intro v hv; obtain ⟨b, _, rfl⟩ := List.mem_map.1 hv; rfl
  intro W3 hrow3 hB3
  have hfin : W3.heap[w.heap.size]? = some (.cells ((rot y bs).map Value.bool).toArray 4 (0, 0)) := by
    have h := hrow3.out
    have hN := HN.out
    rw [splice_two _ _ _ _ (by simp; omega) (by simp; omega)] at h
    rw [h]
    unfold rot
    rw [← HN.out, List.map_append]
  have hl : (rot y bs).length = n := by rw [rot_length, HN.out]
  have HF := Lib.hid hfin
  have HL := Lib.hid hl
  clear hrow3 hrow2 hfin hl
  go_wp2
  all_goals
    go_ret
    exact ⟨_, _, by rw [HL.out]; rfl, Nat.le_of_eq HL.out, (fun ad e => by cases e; exact Nat.le_refl _), ListAt.row HF.out, hB3⟩
end Go.Proofs.Ytplipfcnjmgicaa
