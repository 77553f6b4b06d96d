/-
  CONTRACTS OF Encode, Decode, Signed, of the program and of the reference. No statement is proved here.
-/
import Derived.Test.YtmkcijecncdhpaaOw1
namespace Go.Proofs.Ytmkcijecncdhpaa
open Go.RowKit
set_option linter.unusedVariables false
set_option linter.unusedSimpArgs false

theorem ints_one {w : World} {k o : Nat} {x : Int} (hc : w.cell? ⟨k, o, none⟩ = some (.int .i64 x)) : IntsAt w (k + 1) (some ⟨k, o, none⟩) [x] := fun _ =>
  ⟨_, rfl, by show k < k + 1; omega, fun j hj => by
    obtain rfl : j = 0 := by simp at hj; exact hj
    simpa [Addr.add] using hc⟩
theorem within_1 (g x : Int) (k o c : Nat) (w : World) (hc : w.cell? ⟨k, o, none⟩ = some (.int .i64 x)) :
    Calls Try.prog 48 #[.int .i64 g, .slice (some ⟨k, o, none⟩) 1 c] w fun e w' => e = .returned (.bool (inB g x)) ∧ w' = w := by
  have h := within_any g (some ⟨k, o, none⟩) c [x] (by simp [maxLen]) (k + 1) w (ints_one hc)
  simpa using h
theorem areWords_1 (x : Int) (k o c : Nat) (w : World) (hc : w.cell? ⟨k, o, none⟩ = some (.int .i64 x)) :
    Calls Try.prog 40 #[.slice (some ⟨k, o, none⟩) 1 c] w fun e w' => e = .returned (.bool (inB 16777215 x)) ∧ w' = w := by
  have h := areWords_any (some ⟨k, o, none⟩) c [x] (by simp [maxLen]) (k + 1) w (ints_one hc)
  simpa using h
theorem areAddr_1 (x : Int) (k o c : Nat) (w : World) (hc : w.cell? ⟨k, o, none⟩ = some (.int .i64 x)) :
    Calls Try.prog 41 #[.slice (some ⟨k, o, none⟩) 1 c] w fun e w' => e = .returned (.bool (inB 127 x)) ∧ w' = w := by
  have h := areAddr_any (some ⟨k, o, none⟩) c [x] (by simp [maxLen]) (k + 1) w (ints_one hc)
  simpa using h
theorem areAddr_3 (x y z : Int) (k c : Nat) (w : World) (h0 : w.cell? ⟨k, 0, none⟩ = some (.int .i64 x)) (h1 : w.cell? ⟨k, 1, none⟩ = some (.int .i64 y)) (h2 : w.cell? ⟨k, 2, none⟩ = some (.int .i64 z)) :
    Calls Try.prog 41 #[.slice (some ⟨k, 0, none⟩) 3 c] w fun e w' => e = .returned (.bool (inB 127 x && (inB 127 y && inB 127 z))) ∧ w' = w := by
  have h := areAddr_any (some ⟨k, 0, none⟩) c [x, y, z] (by simp [maxLen]) (k + 1) w (fun _ => ⟨_, rfl, by show k < k + 1; omega, fun j hj => by
    match j, hj with
    | 0, _ => simpa [Addr.add] using h0
    | 1, _ => simpa [Addr.add] using h1
    | 2, _ => simpa [Addr.add] using h2⟩)
  simpa using h

def packL (zs : List Int) : Int := zs.foldl (fun p n => p * 128 + n) 0
theorem packL_snoc (zs : List Int) (n : Int) : packL (zs ++ [n]) = packL zs * 128 + n := by simp [packL]
theorem packL_bd : ∀ (zs : List Int), zs.all (inB 127) = true → 0 ≤ packL zs ∧ packL zs < 128 ^ zs.length := by
  intro zs
  rw [← zs.reverse_reverse]
  induction zs.reverse with
  | nil => intro _; exact ⟨by decide, by decide⟩
  | cons x l ih =>
    intro h
    rw [List.reverse_cons] at h ⊢
    rw [List.all_append, Bool.and_eq_true] at h
    obtain ⟨h1, h2⟩ := ih h.1
    have hx : inB 127 x = true := by simpa using h.2
    unfold inB at hx
    simp only [Bool.and_eq_true, decide_eq_true_eq] at hx
    rw [packL_snoc, List.length_append]
    show 0 ≤ _ ∧ _ < (128 : Int) ^ (l.reverse.length + 1)
    rw [Int.pow_succ]
    omega
set_option maxHeartbeats 2000000 in
theorem pack_any (A : Option Addr) (c : Nat) (zs : List Int) (hl : zs.length ≤ 5) (hz : zs.all (inB 127) = true) (B : Nat) (w : World) (h : IntsAt w B A zs) :
    Calls Try.prog 50 #[.slice A zs.length c] w fun e w' => e = .returned (.int .i64 (packL zs)) ∧ w' = w := by
  have HZ := Lib.hid hz
  clear hz
  go_enter Try.func50, Try.ntmps50
  go_wp2
  go_loop [3, 8] (fun p i => ∃ k : Nat, k ≤ zs.length ∧ i = .int .i64 k ∧ p = .int .i64 (packL (zs.take k))) (fun _ i => zs.length - (intOf i).toNat)
  case atStart => exact ⟨0, by omega, rfl, rfl⟩
  case round =>
    obtain ⟨k, hk, rfl, rfl⟩ := hrel
    by_cases hlt : k < zs.length
    · obtain ⟨ad, rfl, hlb, hc⟩ := h.at_ hlt
      have hx : inB 127 zs[k] = true := List.all_eq_true.1 HZ.out _ (List.getElem_mem hlt)
      unfold inB at hx
      simp only [Bool.and_eq_true, decide_eq_true_eq] at hx
      have hb := packL_bd (zs.take k) (by
        have := HZ.out
        rw [List.all_eq_true] at this ⊢
        exact fun x hx => this x (List.mem_of_mem_take hx))
      have hp : (128 : Int) ^ (zs.take k).length ≤ 128 ^ 5 := by
        have h1 : (128 : Nat) ^ (zs.take k).length ≤ 128 ^ 5 := Nat.pow_le_pow_right (by decide) (by have := List.length_take_le k zs; omega)
        have e : (128 : Int) ^ (zs.take k).length = ((128 ^ (zs.take k).length : Nat) : Int) := by simp
        rw [e]; omega
      have hbor := bor_pack (packL (zs.take k)) zs[k] hb.1 (by omega) ⟨hx.1, by omega⟩
      have HB : Hid (bits .or .i64 (wrap64 (packL (zs.take k) * 128)) zs[k] = packL (zs.take (k + 1))) := Lib.hid (by rw [hbor, List.take_succ_eq_append_getElem hlt, packL_snoc])
      clear hbor hb hp hx
      go_wp2
      go_round
      case rel => exact ⟨k + 1, by omega, by go_num, by rw [← HB.out]⟩
      case measure => simp [intOf]; omega
    · obtain rfl : k = zs.length := by omega
      rw [List.take_length]
      go_wp2
      go_ret
      exact ⟨rfl, rfl⟩
end Go.Proofs.Ytmkcijecncdhpaa
