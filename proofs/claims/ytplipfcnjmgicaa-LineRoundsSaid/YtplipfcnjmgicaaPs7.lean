/-
  THE CONTRACT OF the reference's Late. No statement is proved here.
-/
import Derived.Test.YtplipfcnjmgicaaLate
namespace Go.Proofs.Ytplipfcnjmgicaa
open Go.RowKit
set_option linter.unusedVariables false
set_option linter.unusedSimpArgs false

/-- What Late keeps between two rounds. -/
structure LaW (w : World) (A : Option Addr) (xs L : List Int) (U : World) : Prop where
  read : IntsAt U w.heap.size A xs
  row : RowIs U w.heap.size 3 (ints L)
  below : Below w.heap.size w U

set_option maxRecDepth 100000 in
set_option maxHeartbeats 4000000 in
theorem rLate_any (A : Option Addr) (c : Nat) (xs : List Int) (hz : xs.length ≤ 2560) (s : Int) (hs : -1099511627776 ≤ s ∧ s ≤ 1099511627776) (w : World) (hR : IntsAt w w.heap.size A xs) :
    Calls Try.prog 50 #[.slice A xs.length c, .int .i64 s] w (NewInts (rot (s % xs.length).toNat xs) w) := by
  obtain ⟨y, hy⟩ : ∃ y : Nat, y = (s % (xs.length : Int)).toNat := ⟨_, rfl⟩
  rw [← hy]
  have hyn : 0 < xs.length → y < xs.length := fun h => by
    have h1 := Int.emod_lt_of_pos s (by omega : (0 : Int) < xs.length)
    have h2 := Int.emod_nonneg s (by omega : (xs.length : Int) ≠ 0)
    omega
  have HY := Lib.hid hy
  have HYN := Lib.hid hyn
  clear hy hyn
  obtain ⟨n, hn⟩ : ∃ n, n = xs.length := ⟨_, rfl⟩
  rw [← hn] at hz ⊢
  have HN := Lib.hid hn
  clear hn
  go_enter Try.func50, Try.ntmps50
  go_wp2_with (with_reducible refine wp_make sliceInt rfl _ _ rfl w.heap.size n n n rfl rfl rfl rfl ?c2 ?c3 ?_)
  case c2 => omega
  case c3 => simp
  intro X hown hg
  have T0 : LaW w A xs (lateTo y xs 0) X := by
    have hb2 : Below w.heap.size w X := below_grown0 (Below.refl _ _) hg (Nat.le_refl _)
    refine ⟨hR.below hb2, ?_, hb2⟩
    rw [lateTo_zero, ints_replicate, ← HN.out]
    exact row_full hown
  clear hown hg
  go_wp2
  go_loopw [7] (fun i U => ∃ k : Nat, k ≤ n ∧ i = .int .i64 k ∧ LaW w A xs (lateTo y xs k) U) (fun i _ => n - (intOf i).toNat)
  case atStart => exact ⟨0, by omega, rfl, T0⟩
  case round =>
    clear T0
    obtain ⟨k, hk, rfl, T⟩ := hrel
    by_cases hlt : k < n
    · have hlx : k < xs.length := by have := HN.out; omega
      obtain ⟨ad, rfl, hlb, hc⟩ := T.read.at_ hlx
      have hy1 := HYN.out (by omega)
      have hq : (k + y) % n < n := Nat.mod_lt _ (by omega)
      have HS := lateTo_succ y xs k hlx hy1
      rw [← HN.out] at HS
      have HP := late_place (k := k) (n := n) (s := s) (by omega)
      have hyy := HY.out
      rw [← HN.out] at hyy
      rw [← hyy] at HP
      obtain ⟨q, hq0⟩ : ∃ q, q = (k + y) % n := ⟨_, rfl⟩
      rw [← hq0] at HP HS hq
      have h5 := Int.tmod_lt_of_pos ((k : Int) + s) (by omega : (0 : Int) < n)
      have h6 := Int.tmod_lt_of_pos (-((k : Int) + s)) (by omega : (0 : Int) < n)
      rw [Int.neg_tmod] at h6
      obtain ⟨t, ht⟩ : ∃ t, t = (k : Int) + s := ⟨_, rfl⟩
      rw [← ht] at HP h5 h6
      obtain ⟨u, hu⟩ : ∃ u, u = t.tmod n := ⟨_, rfl⟩
      rw [← hu] at HP h5 h6
      obtain ⟨v, hv⟩ : ∃ v, v = u + n := ⟨_, rfl⟩
      rw [← hv] at HP
      have e1 : IntKind.i64.wrap ((k : Int) + s) = t := by rw [← ht, IntKind.wrap_i64]; omega
      have e3 : IntKind.i64.wrap (u + n) = v := by rw [← hv, IntKind.wrap_i64]; omega
      have e2 := hu.symm
      have hn0 : ¬ n = 0 := by omega
      obtain ⟨x, hx⟩ : ∃ x, x = xs[k] := ⟨_, rfl⟩
      rw [← hx] at hc HS
      have HS' := Lib.hid HS
      have hfr := T.row.frozen q
      have hcell : ∃ o, wr.cell? ⟨w.heap.size, q, none⟩ = some o := ⟨_, by rw [T.row.cell, ints_get, List.getElem?_eq_getElem (by rw [lateTo_length, ← HN.out]; exact hq)]; rfl⟩
      obtain ⟨o, hcell⟩ := hcell
      clear hx hv hu ht hq0 h5 h6 hyy HS hlx hy1
      go_wp2_with fail
      go_still_tail 15, mixed_orders
      go_wp2
      go_roundw
      case rel =>
        refine ⟨k + 1, by omega, by go_num, ?_⟩
        rw [HS'.out]
        refine ⟨T.read.below ((Below.refl w.heap.size wr).setCell (p := ⟨w.heap.size, q, none⟩) (Nat.le_refl _) _).drew, ?_, (T.below.setCell (p := ⟨w.heap.size, q, none⟩) (Nat.le_refl _) _).drew⟩
        have := (T.row.set q (.int .i64 x)).drew
        rwa [ints_set] at this
      case measure => simp [intOf]; omega
    · obtain rfl : k = n := by omega
      have hrow := T.row
      have T' := T.below
      rw [HN.out] at hrow
      by_cases h0 : 0 < xs.length
      · rw [lateTo_end y xs (HYN.out h0)] at hrow
        have hl : (rot y xs).length = k := by rw [rot_length, HN.out]
        have HL := Lib.hid hl
        clear T hl
        go_wp2
        go_ret
        exact ⟨_, _, by rw [HL.out]; rfl, Nat.le_of_eq HL.out, (fun ad e => by cases e; exact Nat.le_refl _), ListAt.row hrow, T'⟩
      · obtain rfl : xs = [] := List.eq_nil_of_length_eq_zero (by omega)
        have hl : (rot y ([] : List Int)).length = k := by rw [rot_length, HN.out]
        have HL := Lib.hid hl
        clear T hl
        go_wp2
        go_ret
        exact ⟨_, _, by rw [HL.out]; rfl, Nat.le_of_eq HL.out, (fun ad e => by cases e; exact Nat.le_refl _), fun h => by simp [rot] at h, T'⟩
end Go.Proofs.Ytplipfcnjmgicaa
