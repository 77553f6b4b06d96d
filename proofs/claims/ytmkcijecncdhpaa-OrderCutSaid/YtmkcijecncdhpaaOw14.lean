/-
  CONTRACT OF slices.Clone. No statement is proved here.
-/
import Derived.Test.YtmkcijecncdhpaaOw13
import Derived.Test.YtmkcijecncdhpaaOw10
import Derived.Lib.SliceRun
namespace Go.Proofs.Ytmkcijecncdhpaa
open Go.RowKit
set_option linter.unusedVariables false
set_option linter.unusedSimpArgs false

/-- A new list. -/
def NewList (w : World) (zs : List Int) (e : Ending) (w' : World) : Prop :=
  ∃ A c, e = .returned (.slice A zs.length c) ∧ zs.length ≤ c ∧ (∀ ad, A = some ad → w.heap.size ≤ ad.block ∧ ad.block < w'.heap.size) ∧ IntsAt w' w'.heap.size A zs ∧ Below w.heap.size w w'
theorem sliceI : SliceT Try.prog 22 3 (.int .i64 0) 8 := ⟨Try.underlying22, by kernel_rfl, rfl, by decide⟩
theorem empty_owned {U : World} {base k : Nat} (h : RowIs U k 3 []) (hb : base ≤ k) : U.ownsRow base 3 1 (.slice (some ⟨k, 0, none⟩) 0 0) 0 [] :=
  ⟨rfl, .inr ⟨k, 0, #[], rfl, hb, h, Nat.le_refl _, by unfold maxLen; omega, rfl, rfl⟩⟩
set_option maxRecDepth 100000 in
set_option maxHeartbeats 2000000 in
theorem clone_any (A : Option Addr) (c : Nat) (zs : List Int) (hl : zs.length ≤ 1000) (w : World) (h : IntsAt w w.heap.size A zs) :
    Calls Try.prog 42 #[.slice A zs.length c] w (NewList w zs) := by
  have hq := fun (w : World) (n : Nat) => Lib.run_eql_slice_nil (P := Try.prog) w 22 3 A n c 0 0 Try.underlying22
  cases A with
  | none =>
    have hz : zs.length = 0 := by
      rcases Nat.eq_zero_or_pos zs.length with h0 | h0
      · exact h0
      · obtain ⟨ad, e, _⟩ := h h0
        cases e
    obtain rfl : zs = [] := List.length_eq_zero_iff.1 hz
    clear hz hl
    go_enter Try.func42, Try.ntmps42
    go_wp2
    go_ret
    exact ⟨none, 0, rfl, Nat.zero_le _, (fun ad e => by cases e), ListAt.nil _ _ _, Below.refl _ _⟩
  | some ad =>
    obtain ⟨i0, hi0, hi1, hi2, hi3⟩ := info_parts sliceI.info
    have hcell : Hid (∀ (j : Nat) (u : Value), (zs.map (Value.int .i64))[j]? = some u → w.cell? (ad.add j) = some u) := Lib.hid fun j u hj => by
      have hj' : j < zs.length := by
        have := (List.getElem?_eq_some_iff.1 hj).1
        simpa using this
      obtain ⟨ad', e, _, hc⟩ := h.at_ hj'
      cases e
      rw [hc]
      simpa [hj'] using hj
    have hall : Hid (∀ u ∈ zs.map (Value.int .i64), u.oneCell' = true) := Lib.hid fun u hu => by
      obtain ⟨n, _, rfl⟩ := List.mem_map.1 hu
      rfl
    have hblk : 0 < zs.length → ad.block < w.heap.size := fun h0 => by
      obtain ⟨ad', e, hlt, _⟩ := h h0
      cases e
      exact hlt
    go_enter Try.func42, Try.ntmps42
    go_wp2_with (at_builtin; refine wpList_append_own _ rfl _ _ 22 rfl w.heap.size 3 i0 (.int .i64 0) 1 8 Try.underlying22 hi0 hi1 hi2 hi3 rfl (by decide) _ _ _ rfl (empty_owned (RowIs.new w 3 []) (Nat.le_refl _)) ad zs.length c (zs.map (Value.int .i64)) rfl (by simp) ?c1 hall.out ?c3 ?c4 ?c5 ?_)
    case c1 =>
      intro j u hj
      have hj' : j < zs.length := by
        have := (List.getElem?_eq_some_iff.1 hj).1
        simpa using this
      rw [World.cell?_alloc_lt _ _ _ (by rw [add_block]; exact hblk (by omega))]
      exact hcell.out j u hj
    case c3 => unfold maxLen; omega
    case c4 => omega
    case c5 => simp
    intro v' w1 hown hgrow _
    try simp only [Nat.zero_add, List.nil_append] at hown
    obtain ⟨A2, c2, rfl, hn, hc2, hnew, hR⟩ := ListAt.own hown
    have hlt2 : ∀ ad, A2 = some ad → ad.block < w1.heap.size := fun ad e => by subst e; exact (hown.lt ad.block rfl).2
    have hB1 : Below w.heap.size w w1 := below_grown_any ((Below.refl _ w).alloc (Nat.le_refl _) _) hgrow (by simp) (empty_owned (RowIs.new w 3 []) (Nat.le_refl _)) (Nat.le_refl _)
    go_wp2
    go_ret
    exact ⟨A2, c2, rfl, hc2, fun ad e => ⟨hnew ad e, hlt2 ad e⟩, hR, hB1⟩
end Go.Proofs.Ytmkcijecncdhpaa
