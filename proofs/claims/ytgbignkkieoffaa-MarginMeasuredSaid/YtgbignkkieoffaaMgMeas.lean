/-
  MarginMeasured: all ways together. No statement is proved here.
-/
import Derived.Test.YtgbignkkieoffaaMg16
namespace Go.Proofs.Ytgbignkkieoffaa
open Go.RowKit Mg
set_option linter.unusedVariables false
set_option linter.unusedSimpArgs false

theorem life_zero {k : Kd} {step : Int} (h : k.lifeErr step = 0) : k.err = 0 ∧ (0 ≤ step ∧ step < k.st.length) ∧ (lifeS k step.toNat).1 ≤ (lifeS k step.toNat).2 := by
  unfold Kd.lifeErr at h
  split at h
  · rename_i h1
    split at h
    · rename_i h2
      split at h
      · rename_i h3
        exact ⟨h1, h2, h3⟩
      · omega
    · omega
  · rename_i h1
    exact absurd h h1
theorem meas_walk (W : World) (k : Kd) (A : Option Addr) (c : Nat) (hk : KindAt W A k) (step : Int) (_ : (Lit.int .i64 step).wf = true) (v0 v1 : Value) (F : Int) (B : Option Addr) (nb : Nat) (zs : List Int) (hf : 0 ≤ F ∧ F ≤ 65535) (hzl : zs.length ≤ maxLen) (hz : ListAt (Value.int .u16) W W.heap.size B zs) (hzw : ∀ n ∈ zs, 0 ≤ n ∧ n ≤ 65535) :
    Calls Try.prog 7 #[kdV k A c, .int .i64 step, .agg #[v0, v1, .int .u16 F, .slice B zs.length nb]] W fun e w' => e = .returned (.bool true) ∧ Below W.heap.size W w' := by
  by_cases he : k.lifeErr step = 0
  · obtain ⟨h1, h2, h3⟩ := life_zero he
    obtain ⟨i, rfl⟩ : ∃ i : Nat, step = i := ⟨step.toNat, by omega⟩
    rw [Int.toNat_natCast] at h3
    have hi : i < k.st.length := by omega
    have hok := Kd.ok_of h1
    by_cases hF : k.new < (stG k.st i).2 + F
    · exact meas_new W k A c hk i v0 v1 F B nb zs hz hzl hzw hf hok hi h3 hF
    · by_cases hnx : i + 1 < k.st.length
      · by_cases hm : (stG k.st (i + 1)).2 ≤ (stG k.st i).2 + F
        · exact meas_cut W k A c hk i v0 v1 F B nb zs hz hzl hzw hf hok hi h3 hF hnx hm
        · exact meas_keep W k A c hk i v0 v1 F B nb zs hz hzl hzw hf hok hi h3 hF hnx hm
      · exact meas_last W k A c hk i v0 v1 F B nb zs hz hzl hzw hf hok hi h3 hF hnx
  · exact meas_err W k A c hk step v0 v1 F B nb zs he
end Go.Proofs.Ytgbignkkieoffaa
