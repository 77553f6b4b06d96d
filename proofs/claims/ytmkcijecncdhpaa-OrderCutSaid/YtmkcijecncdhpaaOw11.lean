/-
  CONTRACTS OF Check, of the program and of the reference. No statement is proved here.
-/
import Derived.Test.YtmkcijecncdhpaaOw5
import Derived.Test.YtmkcijecncdhpaaOw3
import Derived.LoopTactic
namespace Go.Proofs.Ytmkcijecncdhpaa
open Go.RowKit
set_option linter.unusedVariables false
set_option linter.unusedSimpArgs false

/-- The index of the first number that is no word. -/
def oddF : List Int → Int → Int
  | [], _ => -1
  | z :: r, i => if inB 16777215 z = true then oddF r (i + 1) else i
theorem oddF_cons (z : Int) (r : List Int) (i : Int) : oddF (z :: r) i = if inB 16777215 z = true then oddF r (i + 1) else i := rfl
def oddI (zs : List Int) : Int := oddF zs 0
theorem oddF_append : ∀ (p r : List Int) (i : Int), p.all (inB 16777215) = true → oddF (p ++ r) i = oddF r (i + p.length)
  | [], r, i, _ => by simp
  | z :: p, r, i, h => by
    simp only [List.all_cons, Bool.and_eq_true] at h
    show oddF (z :: (p ++ r)) i = _
    rw [oddF_cons, if_pos h.1, oddF_append p r (i + 1) h.2]
    congr 1
    simp only [List.length_cons, Int.natCast_add, Int.natCast_one]
    omega
theorem oddI_at {zs : List Int} {k : Nat} (hk : k < zs.length) (h : (zs.take k).all (inB 16777215) = true) (hb : inB 16777215 zs[k] = false) : oddI zs = k := by
  have e : zs = zs.take k ++ zs[k] :: zs.drop (k + 1) := by
    conv => lhs; rw [← List.take_append_drop k zs]
    rw [List.drop_eq_getElem_cons hk]
  have h1 : oddF (zs.take k ++ zs[k] :: zs.drop (k + 1)) 0 = k := by
    rw [oddF_append _ _ _ h, oddF_cons, hb, if_neg (by decide), List.length_take]
    omega
  rw [← e] at h1
  exact h1
theorem oddI_none {zs : List Int} (h : zs.all (inB 16777215) = true) : oddI zs = -1 := by
  have := oddF_append zs [] 0 h
  rw [List.append_nil] at this
  exact this
theorem oddI_words : ∀ {zs : List Int}, oddI zs = -1 → zs.all (inB 16777215) = true := by
  intro zs
  have key : ∀ (l : List Int) (i : Int), 0 ≤ i → oddF l i = -1 → l.all (inB 16777215) = true := by
    intro l
    induction l with
    | nil => intro i _ _; rfl
    | cons z r ih =>
      intro i hi h
      rw [oddF_cons] at h
      split at h
      · rename_i hz
        rw [List.all_cons, hz, ih (i + 1) (by omega) h]
        rfl
      · omega
  exact key zs 0 (by omega)
theorem take_words {zs : List Int} {k : Nat} (hk : k < zs.length) (h : (zs.take k).all (inB 16777215) = true) (hb : inB 16777215 zs[k] = true) : (zs.take (k + 1)).all (inB 16777215) = true := by
  rw [List.take_succ_eq_append_getElem hk, List.all_append, h]
  simp [hb]

set_option maxHeartbeats 2000000 in
theorem indexFunc_any (A : Option Addr) (c : Nat) (zs : List Int) (hl : zs.length ≤ maxLen) (w : World) (h : IntsAt w w.heap.size A zs) :
    Calls Try.prog 59 #[.slice A zs.length c, .func (.func 58) #[] #[]] w fun e w' => e = .returned (.int .i64 (oddI zs)) ∧ Below w.heap.size w w' := by
  unfold maxLen at hl
  go_enter Try.func59, Try.ntmps59
  go_wp2
  go_loopw [8] (fun i wr => ∃ k : Nat, k ≤ zs.length ∧ i = .int .i64 k ∧ (zs.take k).all (inB 16777215) = true ∧ Below w.heap.size w wr) (fun i _ => zs.length - (intOf i).toNat)
  case atStart => exact ⟨0, by omega, rfl, rfl, Below.refl _ _⟩
  case round =>
    obtain ⟨k, hk, rfl, hall, hB⟩ := hrel
    by_cases hlt : k < zs.length
    · obtain ⟨ad, rfl, hlb, hc⟩ := (h.below hB).at_ hlt
      have K1 := isNone_any zs[k]
      cases hz : inB 16777215 zs[k] with
      | true =>
        have HA := Lib.hid (take_words hlt hall hz)
        rw [hz] at K1
        have K1' := Lib.hid K1
        clear K1 hz hall
        go_wp2_with fail
        refine (K1'.out _).mono ?_; rintro e w1 ⟨rfl, hw1⟩
        have hB1 : Below w.heap.size w w1 := by rw [hw1]; exact hB.alloc hB.size _
        clear hw1 hc
        go_wp2
        go_roundw
        case rel => exact ⟨k + 1, by omega, by go_num, HA.out, hB1⟩
        case measure => simp [intOf]; omega
      | false =>
        have HA := Lib.hid (oddI_at hlt hall hz)
        rw [hz] at K1
        have K1' := Lib.hid K1
        clear K1 hz hall
        go_wp2_with fail
        refine (K1'.out _).mono ?_; rintro e w1 ⟨rfl, hw1⟩
        have hB1 : Below w.heap.size w w1 := by rw [hw1]; exact hB.alloc hB.size _
        clear hw1 hc
        go_wp2
        go_ret
        exact ⟨by rw [HA.out]; rfl, hB1⟩
    · obtain rfl : k = zs.length := by omega
      rw [List.take_length] at hall
      have HA := Lib.hid (oddI_none hall)
      clear hall
      go_wp2
      go_ret
      exact ⟨by rw [HA.out]; rfl, hB⟩
set_option maxHeartbeats 2000000 in
theorem rodd_any (A : Option Addr) (c : Nat) (zs : List Int) (hl : zs.length ≤ maxLen) (B : Nat) (w : World) (h : IntsAt w B A zs) :
    Calls Try.prog 60 #[.slice A zs.length c] w fun e w' => e = .returned (.int .i64 (oddI zs)) ∧ w' = w := by
  unfold maxLen at hl
  go_enter Try.func60, Try.ntmps60
  go_wp2
  go_loop [3] (fun i => ∃ k : Nat, k ≤ zs.length ∧ i = .int .i64 k ∧ (zs.take k).all (inB 16777215) = true) (fun i => zs.length - (intOf i).toNat)
  case atStart => exact ⟨0, by omega, rfl, rfl⟩
  case round =>
    obtain ⟨k, hk, rfl, hall⟩ := hrel
    by_cases hlt : k < zs.length
    · obtain ⟨ad, rfl, hlb, hc⟩ := h.at_ hlt
      have K1 := rword_any zs[k]
      cases hz : inB 16777215 zs[k] with
      | true =>
        have HA := Lib.hid (take_words hlt hall hz)
        rw [hz] at K1
        have K1' := Lib.hid K1
        clear K1 hz hall
        go_wp2_with fail
        refine (K1'.out _).mono ?_; rintro e w1 ⟨rfl, rfl⟩
        go_wp2
        go_round
        case rel => exact ⟨k + 1, by omega, by go_num, HA.out⟩
        case measure => simp [intOf]; omega
      | false =>
        have HA := Lib.hid (oddI_at hlt hall hz)
        rw [hz] at K1
        have K1' := Lib.hid K1
        clear K1 hz hall
        go_wp2_with fail
        refine (K1'.out _).mono ?_; rintro e w1 ⟨rfl, rfl⟩
        go_wp2
        go_ret
        exact ⟨by rw [HA.out]; rfl, rfl⟩
    · obtain rfl : k = zs.length := by omega
      rw [List.take_length] at hall
      have HA := Lib.hid (oddI_none hall)
      clear hall
      go_wp2
      go_ret
      exact ⟨by rw [HA.out]; rfl, rfl⟩
end Go.Proofs.Ytmkcijecncdhpaa
