/-
  THE FRAME OF STAGE 2's STATEMENTS: the listed variables as the program's text lays them; nets. No statement is proved here.
-/
import Derived.Test.YtpjeaajjlkgekaaDoorRows
import Derived.Test.YtpjeaajjlkgekaaDoorQMay
import Derived.Test.YtpjeaajjlkgekaaDoorGtLift
import Derived.Test.YtpjeaajjlkgekaaDoorGtChecks
import Derived.WalkKit
import Derived.ProofKit
import Derived.OpenShut
import Derived.ChangeOld
import Derived.Below
import Derived.LaidMore
import Derived.Stop.Joined
namespace Go.Proofs.YtpjeaajjlkgekaaDoor
open Go.ChangeShapes Go.WideShapes Go.ChangeAt Go.RowKit Gt
set_option linter.unusedVariables false
set_option linter.unusedSimpArgs false

theorem seat_own : ownKnob Tryd.prog.godebug = none := by kernel_rfl
theorem seat_laidOut : laidOutB Tryd.prog = true := by kernel_rfl
/-- The door's own heap meets the condition: three closed facts. -/
theorem door_met (os : Os) (args : Array Value) : laidMetH Tryd.prog Rows.gateChecksRow.laid ((World.doorLaid Tryd.prog 2000 os).forCall (fun _ _ => 0) ⟨#[], args, []⟩).memory :=
  laidMetH_of_parts3 (fuel := 8) (laidMet_of_run' 8 (by kernel_rfl) (by kernel_rfl)) (by kernel_rfl) (by kernel_rfl)
theorem words_named : Tryd.prog.globalNamed "quicksilver/gate.kindWords" = some 0 := by kernel_rfl
theorem words_type : (Tryd.prog.globals[0]?).map (·.type) = some 104 := by kernel_rfl
theorem cellsStr : Tryd.prog.cellsOf 9 = 1 := by kernel_rfl
theorem cellsWords : Tryd.prog.cellsOf 104 = 6 := by kernel_rfl
theorem one_str {W : World} {n : Nat} {c : Value} {x : DataW Unit × List MemPlace} {s : List UInt8} (hh : DataW.trod (fun _ => ()) Tryd.prog W 0 (fun _ => true) false n 9 [c] = some x) (hx : x.1 = .lit (.string s)) : c = .string ⟨s.toArray⟩ := by
  obtain ⟨t, e, hx2, _⟩ := DataW.trod_string Tryd.underlying9 hh
  subst hx2
  simp only [DataW.lit.injEq, Lit.string.injEq] at hx
  simp only [List.cons.injEq, and_true] at e
  rw [e, ← hx]
set_option maxRecDepth 100000 in
/-- What the condition gives the walks: the words of gate kinds. -/
theorem holds_of_laid {W : World} (h : laidMetH Tryd.prog Rows.gateChecksRow.laid W) : Ev.Holds Ev.gvars W := by
  rw [MakeChecks.laidMetH_plain _ _ _ (by kernel_rfl)] at h
  obtain ⟨ps, ⟨g0, t0, cs0, f0, p0, q0, hg0, ht0, hv0, hd0, ⟨g1, t1, cs1, f1, p1, q1, hg1, ht1, hv1, hd1, ⟨g2, t2, cs2, f2, p2, q2, hg2, ht2, hv2, hd2, ⟨g3, t3, cs3, f3, p3, q3, hg3, ht3, hv3, hd3, _, e3⟩, e2⟩, e1⟩, e0⟩, _, hin⟩ := h
  obtain rfl := Option.some.inj (words_named.symm.trans hg3)
  obtain rfl := Option.some.inj (words_type.symm.trans ht3)
  obtain ⟨xs, m, _, ex, hlen, hl, hel⟩ := DataW.trod_array Tryd.underlying104 hd3
  rw [cellsWords] at hlen
  have hlen' : cs3.size = 6 := by simpa using hlen
  obtain ⟨l3⟩ := cs3
  have hmem : MemPlace.cell 0 0 ∈ ps := by
    rw [e0, e1, e2, e3]
    refine List.mem_append_right _ (List.mem_append_right _ (List.mem_append_right _ (List.mem_append_left _ (List.mem_append_left _ ?_))))
    rw [hlen']
    decide
  obtain ⟨⟨cc, tt, hheap⟩, _⟩ := hin 0 0 hmem
  have hcs : cc = ⟨l3⟩ := by
    have := hv3
    simp only [World.var?, words_named, Option.bind_some, hheap] at this
    exact Option.some.inj this
  subst hcs
  clear hin hmem hd0 hd1 hd2 hd3 hv0 hv1 hv2 e0 e1 e2 e3 hlen'
  match l3, hlen, xs, hl with
  | [a0, a1, a2, a3, a4, a5], _, [x0, x1, x2, x3, x4, x5], _ =>
    simp only [Prod.mk.injEq, Rows.laid_quicksilver_gate_kindWords, DataW.agg.injEq, List.map_cons, List.map_nil, List.cons.injEq, and_true] at ex
    obtain ⟨⟨y0, y1, y2, y3, y4, y5⟩, _⟩ := ex
    have r0 := one_str (by simpa [cellsStr] using hel 0 (by decide)) y0.symm
    have r1 := one_str (by simpa [cellsStr] using hel 1 (by decide)) y1.symm
    have r2 := one_str (by simpa [cellsStr] using hel 2 (by decide)) y2.symm
    have r3 := one_str (by simpa [cellsStr] using hel 3 (by decide)) y3.symm
    have r4 := one_str (by simpa [cellsStr] using hel 4 (by decide)) y4.symm
    have r5 := one_str (by simpa [cellsStr] using hel 5 (by decide)) y5.symm
    subst r0 r1 r2 r3 r4 r5
    intro v hm
    obtain rfl : v = ⟨0, _⟩ := by simpa [Ev.gvars] using hm
    exact ⟨_, tt, (0, 0), hheap, by decide, fun j hj => by
      have hj' : j < 6 := hj
      obtain rfl | rfl | rfl | rfl | rfl | rfl : j = 0 ∨ j = 1 ∨ j = 2 ∨ j = 3 ∨ j = 4 ∨ j = 5 := by omega
      all_goals rfl, .inl rfl⟩
end Go.Proofs.YtpjeaajjlkgekaaDoor
