/-
  CONTRACTS OF what is needed at a voltage. No statement is proved here.
-/
import Derived.Test.YtgbignkkieoffaaMg4
namespace Go.Proofs.Ytgbignkkieoffaa
open Go.RowKit Mg
set_option linter.unusedVariables false
set_option linter.unusedSimpArgs false

namespace Mg
theorem stG_cons (s : VN) (r : List VN) (j : Nat) : stG (s :: r) (j + 1) = stG r j := rfl
theorem pos_spec {volt : Int} : ∀ {st : List VN}, (∃ j, j < st.length ∧ (stG st j).1 ≤ volt) → pos volt st < st.length ∧ (stG st (pos volt st)).1 ≤ volt ∧ ∀ j, j < pos volt st → ¬ (stG st j).1 ≤ volt
  | [], h => by obtain ⟨j, hj, _⟩ := h; simp at hj
  | s :: r, h => by
    by_cases h0 : s.1 ≤ volt
    · have e : pos volt (s :: r) = 0 := by show (if s.1 ≤ volt then 0 else _) = _; rw [if_pos h0]
      rw [e]
      exact ⟨by simp, h0, fun j hj => by omega⟩
    · have e : pos volt (s :: r) = pos volt r + 1 := by show (if s.1 ≤ volt then 0 else _) = _; rw [if_neg h0]
      have h' : ∃ j, j < r.length ∧ (stG r j).1 ≤ volt := by
        obtain ⟨j, hj, hv⟩ := h
        rcases j with _ | j
        · exact absurd hv h0
        · exact ⟨j, by simpa using hj, hv⟩
      obtain ⟨h1, h2, h3⟩ := pos_spec h'
      rw [e]
      refine ⟨by simpa using h1, h2, fun j hj => ?_⟩
      rcases j with _ | j
      · exact h0
      · exact h3 j (by omega)
theorem volt_ex {st : List VN} {volt : Int} (hn : 1 ≤ st.length) (h : voltB st volt = true) : ∃ j, j < st.length ∧ (stG st j).1 ≤ volt :=
  ⟨st.length - 1, by omega, (inS_iff.1 h).1⟩
def Kd.vErr (k : Kd) (volt : Int) : Int := if voltB k.st volt then 0 else 7
def Kd.needErr (k : Kd) (volt : Int) : Int := if k.err = 0 then k.vErr volt else k.err
def Kd.needV (k : Kd) (volt : Int) : Int := if k.needErr volt = 0 then need k.st volt else 0
end Mg
theorem last_at {w : World} {B : Nat} {A : Option Addr} {st : List VN} {n : Nat} (h : PairsAt w B A st) (hn : st.length = n + 1) : ∃ ad, A = some ad ∧ ad.block < B ∧ w.cell? (ad.add (n * 2)) = some (.int .i64 (lastV st)) := by
  obtain ⟨ad, e, hb, hc, _⟩ := h.at_ (k := n) (by omega)
  refine ⟨ad, e, hb, ?_⟩
  rw [hc]
  unfold lastV
  rw [hn, Nat.add_sub_cancel]

theorem volt_any (k : Kd) (A : Option Addr) (c : Nat) (volt : Int) (hx : 1 ≤ k.st.length ∧ k.st.length ≤ 8) (w : World) (hp : PairsAt w w.heap.size A k.st) :
    Calls Try.prog 22 #[kdV k A c, .int .i64 volt] w (RetInt w (k.vErr volt)) := by
  obtain ⟨n, hn⟩ : ∃ n, k.st.length = n + 1 := ⟨k.st.length - 1, by omega⟩
  obtain ⟨ad, rfl, hb, hc⟩ := last_at hp hn
  have HV := Lib.hid (show numErr (lastV k.st) 1000 [volt] = k.vErr volt by rw [numErr_1]; rfl)
  unfold kdV
  rw [hn] at hx ⊢
  generalize lastV k.st = l at *
  generalize k.vErr volt = r at *
  clear hn hp
  go_enter Try.func22, Try.ntmps22
  have e0 : (w.alloc (.cells #[.int .i64 k.new, .int .i64 k.lo, .int .i64 k.hi, .slice (some ad) (n + 1) c] 26)).cell? (ad.add (n * 2)) = some (.int .i64 l) :=
    ((Below.refl w.heap.size w).alloc (Nat.le_refl _) _ |>.cell (p := ad.add (n * 2)) (by rw [add_block]; exact hb)).trans hc
  go_wp2_with fail
  refine (numbers_1 l 1000 volt _ _ (by simp [go_sem])).mono ?_; rintro e w1 ⟨rfl, rfl⟩
  rw [HV.out]
  go_wp2
  go_ret
  exact ⟨rfl, by go_grown⟩
theorem isLow_any (v n volt : Int) (b : Nat) (w : World) (hb : b < w.heap.size) (h : w.cell? ⟨b, 0, none⟩ = some (.int .i64 volt)) :
    Calls Try.prog 47 #[.agg #[.int .i64 v, .int .i64 n], .pointer (some ⟨b, 0, none⟩)] w fun e w' => e = .returned (.bool (decide (v ≤ volt))) ∧ Below w.heap.size w w' := by
  have h' : (w.alloc (.cells #[.int .i64 v, .int .i64 n] 55)).cell? ⟨b, 0, none⟩ = some (.int .i64 volt) :=
    ((Below.refl w.heap.size w).alloc (Nat.le_refl _) _ |>.cell (p := ⟨b, 0, none⟩) hb).trans h
  go_enter Try.func47, Try.ntmps47
  go_wp2
  go_ret
  exact ⟨rfl, by go_grown⟩
set_option maxHeartbeats 4000000 in
theorem indexFunc_any (A : Option Addr) (c : Nat) (st : List VN) (volt : Int) (b : Nat) (hl : st.length ≤ maxLen) (hex : ∃ j, j < st.length ∧ (stG st j).1 ≤ volt) (w : World) (h : PairsAt w w.heap.size A st) (hb : b < w.heap.size) (hc : w.cell? ⟨b, 0, none⟩ = some (.int .i64 volt)) :
    Calls Try.prog 46 #[.slice A st.length c, .func (.func 47) #[] #[.pointer (some ⟨b, 0, none⟩)]] w (RetInt w (pos volt st)) := by
  obtain ⟨hlt0, hat, hbe⟩ := pos_spec hex
  have HBE := Lib.hid hbe
  unfold maxLen at hl
  clear hex hbe
  generalize hp : pos volt st = m at *
  have HB := Lib.hid hb
  have HC := Lib.hid hc
  have HH := Lib.hid h
  clear hb hc h hp
  go_enter Try.func46, Try.ntmps46
  go_wp2
  go_loopw [8] (fun i wr => ∃ k : Nat, k ≤ m ∧ i = .int .i64 k ∧ Below w.heap.size w wr) (fun i _ => st.length - (intOf i).toNat)
  case atStart => exact ⟨0, by omega, rfl, Below.refl _ _⟩
  case round =>
    obtain ⟨k, hk, rfl, hB⟩ := hrel
    have hlt : k < st.length := by omega
    obtain ⟨ad, rfl, hlb, c0, c1⟩ := (HH.out.below hB).at_ hlt
    have K := isLow_any (stG st k).1 (stG st k).2 volt b wr (Nat.lt_of_lt_of_le HB.out hB.size) ((hB.cell (p := ⟨b, 0, none⟩) HB.out).trans HC.out)
    by_cases hkm : k = m
    · subst hkm
      rw [show decide ((stG st k).1 ≤ volt) = true by simpa using hat] at K
      have K' := Lib.hid K
      clear K hat
      generalize stG st k = s at *
      go_wp2_with fail
      refine K'.out.mono ?_; rintro e w1 ⟨rfl, hb1⟩
      go_wp2
      go_ret
      exact ⟨rfl, hB.trans (below_low hB.size hb1)⟩
    · rw [show decide ((stG st k).1 ≤ volt) = false by simpa using HBE.out k (by omega)] at K
      have K' := Lib.hid K
      clear K
      generalize stG st k = s at *
      go_wp2_with fail
      refine K'.out.mono ?_; rintro e w1 ⟨rfl, hb1⟩
      have hR := hB.trans (below_low hB.size hb1)
      clear hB hb1 c0 c1 K'
      go_wp2
      go_roundw
      case rel => exact ⟨k + 1, by omega, by go_num, hR⟩
      case measure => simp [intOf]; omega
theorem needAt_any (k : Kd) (A : Option Addr) (c : Nat) (volt : Int) (hl : k.st.length ≤ maxLen) (hex : ∃ j, j < k.st.length ∧ (stG k.st j).1 ≤ volt) (w : World) (hp : PairsAt w w.heap.size A k.st) :
    Calls Try.prog 23 #[kdV k A c, .int .i64 volt] w (RetInt w (need k.st volt)) := by
  have P0 := (kdW_new w k A c 26).after ((Below.refl _ _).alloc (Nat.le_refl _) (.cells #[.int .i64 volt] 3))
  obtain ⟨hlt, _, _⟩ := pos_spec hex
  have HP := Lib.hid hp
  have HX := Lib.hid hex
  have HL := Lib.hid hl
  unfold maxLen at hl
  go_enter Try.func23, Try.ntmps23
  clear hp hex
  have cv : ((w.alloc (.cells #[.int .i64 k.new, .int .i64 k.lo, .int .i64 k.hi, .slice A k.st.length c] 26)).alloc (.cells #[.int .i64 volt] 3)).cell? ⟨w.heap.size + 1, 0, none⟩ = some (.int .i64 volt) := by simp [go_sem]
  have hv : w.heap.size + 1 < ((w.alloc (.cells #[.int .i64 k.new, .int .i64 k.lo, .int .i64 k.hi, .slice A k.st.length c] 26)).alloc (.cells #[.int .i64 volt] 3)).heap.size := by simp
  go_wp2_with fail
  generalize ((w.alloc (.cells #[.int .i64 k.new, .int .i64 k.lo, .int .i64 k.hi, .slice A k.st.length c] 26)).alloc (.cells #[.int .i64 volt] 3)) = V at *
  refine (indexFunc_any A c k.st volt (w.heap.size + 1) HL.out HX.out V (P0.steps HP.out) hv cv).mono ?_; rintro e w1 ⟨rfl, hb⟩
  have P1 := P0.after hb
  obtain ⟨ad, rfl, hab, d0, d1⟩ := (P1.steps HP.out).at_ hlt
  have HN := Lib.hid (show need k.st volt = (stG k.st (pos volt k.st)).2 from rfl)
  have HB := Lib.hid P1.below
  obtain ⟨_, c0, c1, c2, c3, hs⟩ := P1
  clear P0 hb cv hv
  generalize stG k.st (pos volt k.st) = s at *
  generalize pos volt k.st = m at *
  go_wp2
  go_ret
  exact ⟨by rw [HN.out]; rfl, HB.out⟩
end Go.Proofs.Ytgbignkkieoffaa
