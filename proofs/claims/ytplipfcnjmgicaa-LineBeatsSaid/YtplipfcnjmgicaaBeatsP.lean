/-
  LineBeats: for every line, place and time the law answers true. No condition.
-/
import Derived.Test.YtplipfcnjmgicaaBeats
import Derived.Test.YtplipfcnjmgicaaMay
import Derived.Test.YtplipfcnjmgicaaLift
import Derived.WalkKit
import Derived.ProofKit
import Derived.OpenShut
import Derived.ChangeOld
import Derived.Below
namespace Go.Proofs.Ytplipfcnjmgicaa
open Go.ChangeShapes Go.WideShapes Go.ChangeAt Go.RowKit
set_option linter.unusedVariables false
set_option linter.unusedSimpArgs false

theorem beats_own : ownKnob Try.prog.godebug = none := by kernel_rfl
theorem beats_laidOut : laidOutB Try.prog = true := by kernel_rfl
theorem cells25 : Try.prog.cellsOf 25 = 6 := by kernel_rfl
theorem cells3 : Try.prog.cellsOf 3 = 1 := by kernel_rfl

set_option maxRecDepth 100000 in
/-- A line that can be read is six ints. -/
theorem line_open {H : Type} {enc : TypeId × Value → H} {W : World} {base b : Nat} {sp : Nat → Bool} {held : Bool} {v : Value} {d : DataW H} {ps : List MemPlace}
    (hv : Value.okWide Try.prog W .any base 25 v) (h : DataW.Trod enc Try.prog W b sp held 25 v d ps) :
    ∃ a0 a1 a2 a3 a4 a5 : Int, v = .agg #[.int .i64 a0, .int .i64 a1, .int .i64 a2, .int .i64 a3, .int .i64 a4, .int .i64 a5] := by
  obtain ⟨cs, rfl, hsz⟩ := okWide_struct Try.underlying25 hv
  obtain ⟨fuel, hf⟩ := h
  obtain ⟨xs, n, _, _, _, hxl, hg⟩ := DataW.trod_struct Try.underlying25 hf
  have hxl' : xs.length = 6 := hxl
  obtain ⟨l⟩ := cs
  match l, hsz.trans cells25 with
  | [c0, c1, c2, c3, c4, c5], _ =>
    have one : ∀ (j : Nat) (c : Value), j < 6 → DataW.trod enc Try.prog W b sp held n 3 [c] = xs[j]? → ∃ a : Int, c = .int .i64 a := fun j c hj hh => by
      have hx : xs[j]? = some (xs[j]'(by omega)) := List.getElem?_eq_getElem (by omega)
      rw [hx] at hh
      obtain ⟨a, ha, _⟩ := DataW.trod_int Try.underlying3 hh
      exact ⟨a, by simpa using ha⟩
    have g0 := hg 0 _ rfl
    have g1 := hg 1 _ rfl
    have g2 := hg 2 _ rfl
    have g3 := hg 3 _ rfl
    have g4 := hg 4 _ rfl
    have g5 := hg 5 _ rfl
    simp only [cells3, Value.cells] at g0 g1 g2 g3 g4 g5
    obtain ⟨a0, rfl⟩ := one 0 c0 (by omega) (by simpa [cells3] using g0)
    obtain ⟨a1, rfl⟩ := one 1 c1 (by omega) (by simpa [cells3] using g1)
    obtain ⟨a2, rfl⟩ := one 2 c2 (by omega) (by simpa [cells3] using g2)
    obtain ⟨a3, rfl⟩ := one 3 c3 (by omega) (by simpa [cells3] using g3)
    obtain ⟨a4, rfl⟩ := one 4 c4 (by omega) (by simpa [cells3] using g4)
    obtain ⟨a5, rfl⟩ := one 5 c5 (by omega) (by simpa [cells3] using g5)
    exact ⟨a0, a1, a2, a3, a4, a5, rfl⟩

set_option maxRecDepth 100000 in
theorem beats_lifted (os : Os) (started : os.Started) (H : Type) (enc : TypeId × Value → H) :
    ReturnsInHanded {} Try.checked os 16 .any (Rows.lineBeatsSpec.pre6 enc Try.prog Try.f16 Rows.lineBeatsRow.domain false) (Rows.lineBeatsSpec.post enc Try.prog Try.f16 false true false false) := by
  refine returnsInHanded_of_change (C := Try.checked) beats_own started (by kernel_rfl) Try.func16
    (ChangeSpec.witness6 (enc := enc) (C := Try.checked) false ⟨#[], #[.agg #[.int .i64 0, .int .i64 0, .int .i64 0, .int .i64 0, .int .i64 0, .int .i64 0], .int .i64 0, .int .i64 0], []⟩ 8 (by kernel_rfl) (by kernel_rfl) (by kernel_rfl) (by kernel_rfl)) ?_
  intro W base args ds gs before hval0 hW hcnd _
  have hval : ∀ (j : Nat) t v, Try.f16.params[j]? = some t → args[j]? = some v → Value.okWide Try.prog W .any base t v := hval0
  have hW' := hW
  obtain ⟨p, q, hA0, hV, rfl, hfz, hnd⟩ := hW
  have hA : DataW.TrodAll enc Try.prog W 0 (fun _ => true) true Try.f16.params.toList args.toList ds p := hA0
  rw [Try.params16] at hA hval
  obtain ⟨v0, vs0, d0, ds0, p0, q0, hargs, rfl, rfl, h0, r0⟩ := trodAll_cons hA
  obtain ⟨v1, vs1, d1, ds1, p1, q1, rfl, rfl, rfl, h1, r1⟩ := trodAll_cons r0
  obtain ⟨v2, vs2, d2, ds2, p2, q2, rfl, rfl, rfl, h2, r2⟩ := trodAll_cons r1
  obtain ⟨rfl, rfl, rfl⟩ := trodAll_nil r2
  obtain rfl : args = #[v0, v1, v2] := by cases args; simp_all
  obtain ⟨rfl, rfl⟩ := trodVars_none hV
  have k0 := h0
  have lt0 : ∀ x ∈ p0, x.block < W.heap.size := by obtain ⟨m, hm⟩ := k0; exact DataW.trod_lt m _ _ _ hm
  obtain ⟨a0, a1, a2, a3, a4, a5, rfl⟩ := line_open (hval 0 25 v0 rfl rfl) h0
  obtain ⟨n1, rfl, rfl, rfl, w1⟩ := open_int Try.underlying3 (hval 1 3 v1 rfl rfl) h1
  obtain ⟨n2, rfl, rfl, rfl, w2⟩ := open_int Try.underlying3 (hval 2 3 v2 rfl rfl) h2
  clear hA0 hval0
  refine (beats_walk a0 a1 a2 a3 a4 a5 n1 n2 W).mono fun e W' ⟨he, bel⟩ => ?_
  subst he
  exact ⟨_, rfl, _, _, _, [], _, [], hW', trodAll_mk1 (shut_bool Try.underlying4 _), (trodAll_cons_mk (Below.trod beats_laidOut (by kernel_rfl) (of_decide_eq_true (by kernel_rfl)) k0 bel lt0) (trodAll_cons_mk (shut_int Try.underlying3 w1) (trodAll_cons_mk (shut_int Try.underlying3 w2) trodAll_mk0))), rfl, bel.frame _, fun h => by cases h⟩

theorem beats_fn : Try.pinned.checked.prog.funcNamed Rows.lineBeatsRow.func = some 16 := by kernel_rfl
theorem beats_closed : joinedFacts Try.pinned.checked.prog 16 Try.f16 Rows.lineBeatsSpec Rows.lineBeatsRow = true := by
  show joinedFacts Try.prog 16 Try.f16 Rows.lineBeatsSpec Rows.lineBeatsRow = true
  unfold joinedFacts
  rw [prog_mayEnter, prog_lifts, prog_make]
  kernel_rfl
theorem beats_inst : Try.f16.isInstance Try.pinned.checked.prog Rows.lineBeatsRow.origin Rows.lineBeatsRow.targs := of_decide_eq_true (by kernel_rfl)
theorem beats_wrap : Try.f16.isWrapper Try.pinned.checked.prog Rows.lineBeatsRow.wrapper Rows.lineBeatsRow.mainSum := by unfold Func.isWrapper; first | (rw [if_pos (by decide +kernel)]; kernel_rfl) | (rw [if_neg (by decide +kernel)]; exact ⟨rfl, rfl⟩)

theorem beats_over : Rows.lineBeatsRow.holds Try.pinned (OpenSpec.ofChange Rows.lineBeatsSpec) :=
  OpenClaim.holds_of_wide 16 Try.f16 rfl rfl rfl rfl rfl rfl rfl ⟨rfl, rfl, rfl, rfl, rfl⟩ rfl rfl rfl rfl rfl beats_fn Try.func16 beats_closed
    beats_inst beats_wrap
    (fun os started H enc _ => beats_lifted os started H enc)

/-- The statement. -/
theorem lineBeats_holds : Rows.LineBeatsSaid := beats_over
end Go.Proofs.Ytplipfcnjmgicaa
