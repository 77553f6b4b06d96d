/-
  CONTRACTS OF a valve's wear, hour by hour. No statement is proved here.
-/
import Derived.Test.YtgbignkkieoffaaMg13
namespace Go.Proofs.Ytgbignkkieoffaa
open Go.RowKit Mg Go.Sort
set_option linter.unusedVariables false
set_option linter.unusedSimpArgs false

namespace Mg
def wornV (k : Kd) (s n : Int) : Int := max 0 (s - k.lo - n.tmod (k.hi - k.lo + 1))
def wearV (zs : List Int) (t : Nat) : Int := if zs.length = 0 then 0 else zs.getD (t % zs.length) 0
theorem tmod_in {n d : Int} (hn : 0 ≤ n) (hd : 0 < d) : 0 ≤ n.tmod d ∧ n.tmod d < d := by
  rw [Int.tmod_eq_emod_of_nonneg hn]
  exact ⟨Int.emod_nonneg n (by omega), Int.emod_lt_of_pos n hd⟩
theorem wornV_in {k : Kd} {s n : Int} (hw : 0 ≤ k.lo ∧ k.lo ≤ k.hi ∧ k.hi ≤ 1000) (hs : 0 ≤ s ∧ s ≤ 1000000) (hn : 0 ≤ n ∧ n ≤ 65535) :
    (0 ≤ wornV k s n ∧ wornV k s n ≤ 1000000) ∧ s - k.hi ≤ wornV k s n ∧ wornV k s n ≤ max 0 (s - k.lo) := by
  have := tmod_in (n := n) (d := k.hi - k.lo + 1) hn.1 (by omega)
  unfold wornV
  omega
end Mg
set_option maxHeartbeats 2000000 in
theorem worn_any (k : Kd) (A : Option Addr) (c : Nat) (s n : Int) (hw : 0 ≤ k.lo ∧ k.lo ≤ k.hi ∧ k.hi ≤ 1000) (hs : 0 ≤ s ∧ s ≤ 1000000) (hn : 0 ≤ n ∧ n ≤ 65535) (w : World) :
    Calls Try.prog 20 #[kdV k A c, .int .i64 s, .int .u16 n] w (RetInt w (wornV k s n)) := by
  have P0 := kdW_new w k A c 26
  have ht := tmod_in (n := n) (d := k.hi - k.lo + 1) hn.1 (by omega)
  have hv : wornV k s n = max 0 (s - k.lo - n.tmod (k.hi - k.lo + 1)) := rfl
  have q : ¬ k.hi - k.lo + 1 = 0 := by omega
  generalize wornV k s n = r at *
  generalize hm : n.tmod (k.hi - k.lo + 1) = m at *
  have e1 : IntKind.i64.wrap (s - k.lo) = s - k.lo := by rw [IntKind.wrap_i64]; omega
  have e2 : IntKind.i64.wrap (k.hi - k.lo) = k.hi - k.lo := by rw [IntKind.wrap_i64]; omega
  have e3 : IntKind.i64.wrap (k.hi - k.lo + 1) = k.hi - k.lo + 1 := by rw [IntKind.wrap_i64]; omega
  have e4 : IntKind.i64.wrap n = n := by rw [IntKind.wrap_i64]; omega
  have e5 : IntKind.i64.wrap m = m := by rw [IntKind.wrap_i64]; omega
  have e6 : IntKind.i64.wrap (s - k.lo - m) = s - k.lo - m := by rw [IntKind.wrap_i64]; omega
  have HB := Lib.hid P0.below
  have hw2 := hw.2.2
  by_cases h7 : 0 < s - k.lo - m
  · have HR := Lib.hid (show r = s - k.lo - m by omega)
    go_enter Try.func20, Try.ntmps20
    go_wp2
    generalize w.alloc (.cells #[.int .i64 k.new, .int .i64 k.lo, .int .i64 k.hi, .slice A k.st.length c] 26) = V at *
    obtain ⟨_, c0, c1, c2, c3, hsz⟩ := P0
    clear ht hv hs hn hw hw2
    go_quiet (fail)
    all_goals first | (exfalso; omega) | skip
    go_wp2
    go_ret
    exact ⟨by rw [HR.out]; rfl, below_drewN HB.out⟩
  · have HR := Lib.hid (show r = 0 by omega)
    go_enter Try.func20, Try.ntmps20
    go_wp2
    generalize w.alloc (.cells #[.int .i64 k.new, .int .i64 k.lo, .int .i64 k.hi, .slice A k.st.length c] 26) = V at *
    obtain ⟨_, c0, c1, c2, c3, hsz⟩ := P0
    clear ht hv hs hn hw hw2
    go_quiet (fail)
    all_goals first | (exfalso; omega) | skip
    go_wp2
    go_ret
    exact ⟨by rw [HR.out]; rfl, below_drewN HB.out⟩
theorem wear_any (B : Option Addr) (nb : Nat) (zs : List Int) (t : Nat) (ht : t ≤ 1000) (hl : zs.length ≤ maxLen) (w : World) (h : ListAt (Value.int .u16) w w.heap.size B zs) :
    Calls Try.prog 21 #[.slice B zs.length nb, .int .i64 t] w (fun e w' => e = .returned (.int .u16 (wearV zs t)) ∧ w' = w) := by
  have hd : wearV zs t = if zs.length = 0 then 0 else zs.getD (t % zs.length) 0 := rfl
  generalize wearV zs t = r at *
  unfold maxLen at hl
  by_cases h0 : zs.length = 0
  · have HR := Lib.hid (show r = 0 by rw [hd, if_pos h0])
    have q : ((zs.length : Int) == 0) = true := beq_iff_eq.2 (by omega)
    clear hd
    go_enter Try.func21, Try.ntmps21
    go_wp2
    go_ret
    exact ⟨by rw [HR.out]; rfl, rfl⟩
  · have hlt : t % zs.length < zs.length := Nat.mod_lt _ (by omega)
    have hm : (t : Int).tmod (zs.length : Int) = ((t % zs.length : Nat) : Int) := tmod_nat t zs.length
    have hr : r = zs.getD (t % zs.length) 0 := by rw [hd, if_neg h0]
    clear hd
    have hmt : t % zs.length ≤ t := Nat.mod_le _ _
    generalize t % zs.length = m at *
    obtain ⟨ad, rfl, hb, hc⟩ := h.at_ hlt
    rw [show zs[m] = r by rw [hr]; simp [List.getD, hlt]] at hc
    have q : ((zs.length : Int) == 0) = false := beq_eq_false_iff_ne.2 (by omega)
    have q2 : ¬ (zs.length : Int) = 0 := by omega
    have hm2 : m ≤ 1000 := by omega
    have e1 : IntKind.i64.wrap (m : Int) = (m : Int) := wrap_nat (by omega)
    clear h0 h hr
    go_enter Try.func21, Try.ntmps21
    go_wp2
    go_ret
    exact ⟨rfl, rfl⟩
end Go.Proofs.Ytgbignkkieoffaa
