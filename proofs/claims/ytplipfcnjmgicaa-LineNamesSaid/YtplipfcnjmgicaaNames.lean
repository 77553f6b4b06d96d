/-
  LineNames: for every string the law answers true: Name and the reference's Name answer alike. No condition.
-/
import Derived.Test.YtplipfcnjmgicaaRows
import Derived.Test.YtplipfcnjmgicaaWk2
import Derived.Test.YtplipfcnjmgicaaAwake
import Derived.Test.YtplipfcnjmgicaaNamesC
import Derived.WalkKit
import Derived.ProofKit
import Derived.OpenShut
import Derived.ShutString
import Derived.ChangeSame
import Derived.ChangeOld
import Derived.Below
import Derived.Handy
namespace Go.Proofs.Ytplipfcnjmgicaa
open Go.ChangeShapes Go.WideShapes Go.ChangeAt Go.RowKit
open Go.ChangeMaps (open_string shut_string)
set_option linter.unusedVariables false

theorem below_less {n m : Nat} {w w' : World} (h : n ≤ m) (hb : Below m w w') : Below n w w' := ⟨hb.os, hb.tape, hb.output, hb.size, fun k hk => hb.block k (by omega)⟩

theorem own : ownKnob Try.prog.godebug = none := by kernel_rfl

theorem awake_any (w : World) : Calls Try.prog 22 #[] w fun e w' => e = .returned (.bool true) ∧ Below w.heap.size w w' := Go.Proofs.Ev.awake w

theorem names_walk (s : ByteArray) (hs : s.size ≤ maxLen) (w : World) : Calls Try.prog 3 #[.string s] w fun e w' => e = .returned (.bool true) ∧ Below w.heap.size w w' := by
  have hs2 : s.size < 9223372036854775808 := by unfold maxLen at hs; omega
  have e1 : (nm s == nm s) = true := by simp
  go_enter Try.func3, Try.ntmps3
  go_wp2_with fail
  go_call (name_any s hs2) as e w1 ⟨rfl, rfl⟩
  go_wp2_with fail
  go_call (refName_any s hs2) as e w2 ⟨rfl, hb2⟩
  go_wp2_with fail
  go_call awake_any as e w3 ⟨rfl, hb3⟩
  go_wp2
  go_ret
  exact ⟨rfl, hb2.trans (below_less hb2.size hb3)⟩

set_option maxRecDepth 100000 in
theorem names_lifted (os : Os) (started : os.Started) (H : Type) (enc : TypeId × Value → H) :
    ReturnsInHanded {} Try.checked os 3 .any (Rows.lineNamesSpec.pre6 enc Try.prog Try.f3 Rows.lineNamesRow.domain false) (Rows.lineNamesSpec.post enc Try.prog Try.f3 false true false false) := by
  refine returnsInHanded_of_change (C := Try.checked) own started (by kernel_rfl) Try.func3
    (ChangeSpec.witness6 (enc := enc) (C := Try.checked) false ⟨#[], #[.string ⟨#[]⟩], []⟩ 8 (by kernel_rfl) (by kernel_rfl) (by kernel_rfl) (by kernel_rfl)) ?_
  intro W base args ds gs before hval0 hW hcnd _
  have hval : ∀ (j : Nat) t v, Try.f3.params[j]? = some t → args[j]? = some v → Value.okWide Try.prog W .any base t v := hval0
  have hW' := hW
  obtain ⟨p, q, hA0, hV, rfl, hfz, hnd⟩ := hW
  have hA : DataW.TrodAll enc Try.prog W 0 (fun _ => true) true Try.f3.params.toList args.toList ds p := hA0
  rw [Try.params3] at hA hval
  obtain ⟨v0, vs0, d0, ds0, p0, q0, hargs, rfl, rfl, h0, r0⟩ := trodAll_cons hA
  obtain ⟨rfl, rfl, rfl⟩ := trodAll_nil r0
  obtain rfl : args = #[v0] := by cases args; simp_all
  obtain ⟨rfl, rfl⟩ := trodVars_none hV
  obtain ⟨s, rfl, rfl, rfl, hs⟩ := open_string Try.underlying9 (hval 0 9 v0 rfl rfl) h0
  clear hA0 hval0
  simp only [List.append_nil] at hW'
  refine (names_walk s hs W).mono fun e W' ⟨he, hb⟩ => ?_
  subst he
  exact ⟨_, rfl, _, _, _, [], _, [], hW', trodAll_mk1 (shut_bool Try.underlying4 _), trodAll_mk1 (shut_string Try.underlying9 hs), rfl, hb.frame _, fun h => by cases h⟩

theorem names_over : Rows.lineNamesRow.holds Try.pinned (OpenSpec.ofChange Rows.lineNamesSpec) :=
  OpenClaim.holds_of_wide 3 Try.f3 rfl rfl rfl rfl rfl rfl rfl ⟨rfl, rfl, rfl, rfl, rfl⟩ rfl rfl rfl rfl rfl names_fn Try.func3 names_closed
    names_inst names_wrap
    (fun os started H enc _ => names_lifted os started H enc)

/-- The statement. -/
theorem lineNames_holds : Rows.LineNamesSaid := names_over
end Go.Proofs.Ytplipfcnjmgicaa
