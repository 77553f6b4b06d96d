/-
  THE CONTRACT OF Ints. No statement is proved here.
-/
import Derived.Test.YtplipfcnjmgicaaMem
import Derived.Deep.QuietTactic
import Derived.BigQuiet
namespace Go.Proofs.Ytplipfcnjmgicaa
open Go.RowKit
set_option linter.unusedVariables false
set_option linter.unusedSimpArgs false

def intsEq (a b : List Int) : Bool := decide (a = b)

set_option maxHeartbeats 2000000 in
theorem ints_len (A B : Option Addr) (n m c d : Nat) (hn : n ≤ maxLen) (hm : m ≤ maxLen) (h : n ≠ m) (w : World) :
    Calls Try.prog 31 #[.slice A n c, .slice B m d] w fun e w' => e = .returned (.bool false) ∧ Below w.heap.size w w' := by
  unfold maxLen at hn hm
  go_enter Try.func31, Try.ntmps31
  go_wp2
  all_goals
    go_ret
    exact ⟨rfl, Below.refl _ _⟩

set_option maxHeartbeats 2000000 in
theorem ints_same (A B : Option Addr) (c d : Nat) (xs ys : List Int) (hl : xs.length = ys.length) (hz : xs.length ≤ maxLen) (w : World) (hA : IntsAt w w.heap.size A xs) (hB : IntsAt w w.heap.size B ys) :
    Calls Try.prog 31 #[.slice A xs.length c, .slice B xs.length d] w fun e w' => e = .returned (.bool (intsEq xs ys)) ∧ Below w.heap.size w w' := by
  unfold maxLen at hz
  have HL := Lib.hid hl
  clear hl
  go_enter Try.func31, Try.ntmps31
  go_wp2
  go_loopw [5] (fun i U => ∃ k : Nat, k ≤ xs.length ∧ i = .int .i64 k ∧ xs.take k = ys.take k ∧ ∃ n, U = w.drewN n) (fun i _ => xs.length - (intOf i).toNat)
  case atStart => exact ⟨0, by omega, rfl, rfl, 0, rfl⟩
  case round =>
    obtain ⟨k, hk, rfl, heq, n, hU⟩ := hrel
    have hB1 : Below w.heap.size w wr := by rw [hU]; exact ⟨rfl, rfl, rfl, Nat.le_refl _, fun _ _ => rfl⟩
    have hA1 := hA.below hB1
    have hB2 := hB.below hB1
    have HU := Lib.hid hU
    have HE := Lib.hid heq
    clear hU heq
    by_cases hlt : k < xs.length
    · have hlt2 : k < ys.length := by have := HL.out; omega
      obtain ⟨ad, rfl, _, hc⟩ := hA1.at_ hlt
      obtain ⟨bd, rfl, _, hd⟩ := hB2.at_ hlt2
      have h1 := List.take_succ_eq_append_getElem hlt
      have h2 := List.take_succ_eq_append_getElem hlt2
      have H1 := Lib.hid h1
      have H2 := Lib.hid h2
      obtain ⟨x, hx⟩ : ∃ x, x = xs[k] := ⟨_, rfl⟩
      obtain ⟨y, hy⟩ : ∃ y, y = ys[k] := ⟨_, rfl⟩
      rw [← hx] at hc
      rw [← hy] at hd
      have HX := Lib.hid hx
      have HY := Lib.hid hy
      clear h1 h2 hx hy
      by_cases hxy : x = y
      · have hne : (x != y) = false := by simpa using hxy
        have HXY := Lib.hid hxy
        clear hxy
        go_wp2_with fail
        go_quiet (fail)
        go_wp2
        go_roundw
        case rel => exact ⟨k + 1, by omega, by go_num, by rw [H1.out, H2.out, HE.out, ← HX.out, ← HY.out, HXY.out], n + nq, by rw [HU.out, World.drewN_drewN]⟩
        case measure => simp [intOf]; omega
      · have hne : (x != y) = true := by simpa using hxy
        have HXY := Lib.hid hxy
        clear hxy
        go_wp2_with fail
        go_quiet (fail)
        go_wp2
        go_ret
        have hf : intsEq xs ys = false := by
          unfold intsEq
          rw [decide_eq_false_iff_not]
          rintro rfl
          exact HXY.out (by rw [HX.out, HY.out])
        exact ⟨by rw [hf]; rfl, hB1.trans ⟨rfl, rfl, rfl, Nat.le_refl _, fun _ _ => rfl⟩⟩
    · obtain rfl : k = xs.length := by omega
      have ht : intsEq xs ys = true := by
        have h1 := HE.out
        rw [List.take_length, HL.out, List.take_length] at h1
        unfold intsEq
        simp [h1]
      have HT := Lib.hid ht
      clear ht
      go_wp2
      go_ret
      exact ⟨by rw [HT.out]; rfl, hB1⟩

/-- **Ints.** -/
theorem ints_any (A B : Option Addr) (c d : Nat) (xs ys : List Int) (hx : xs.length ≤ maxLen) (hy : ys.length ≤ maxLen) (w : World) (hA : IntsAt w w.heap.size A xs) (hB : IntsAt w w.heap.size B ys) :
    Calls Try.prog 31 #[.slice A xs.length c, .slice B ys.length d] w fun e w' => e = .returned (.bool (intsEq xs ys)) ∧ Below w.heap.size w w' := by
  by_cases hl : xs.length = ys.length
  · rw [← hl]
    exact ints_same A B c d xs ys hl hx w hA hB
  · have hf : intsEq xs ys = false := by
      unfold intsEq
      rw [decide_eq_false_iff_not]
      rintro rfl
      exact hl rfl
    rw [hf]
    exact ints_len A B _ _ c d hx hy hl w
end Go.Proofs.Ytplipfcnjmgicaa
