/-
  LineKnown: Oven of the examples, by the evaluator. No statement is proved here.
-/
import Derived.Test.YtplipfcnjmgicaaEv15
import Derived.Test.YtplipfcnjmgicaaAwake
noncomputable section
namespace Go.Proofs.Ev
open Go.RowKit
set_option maxRecDepth 100000

def stepM : St → R1 := step1 Try.prog (drawM Try.prog 16 3)
theorem stepM_ok : StepOk Try.prog stepM := fun i w0 cs s fr fs w S => step1_rel named (drawM_ok named mixed 16 3) S

/-- A closed call whose answer is v. -/
theorem closed_is {f : Nat} {args : Array Value} {v : Value} (k n : Nat) (hargs : args.toList.all flat = true)
    (h : goAll stepM (endsIn f (fun x => eqW x v)) k n (start Try.prog f args none0) = true) (w : World) :
    Calls Try.prog f args w (fun e w' => e = .returned v ∧ Below w.heap.size w w') :=
  Calls.mono (closed_run stepM_ok k n hargs h w) fun e w' h => by
    obtain ⟨⟨x, h1, h2⟩, h3⟩ := h
    exact ⟨by rw [h1, eqW_eq h2], h3⟩

def lineA : Value := .agg #[.int .i64 4, .int .i64 8, .int .i64 10, .int .i64 320, .int .i64 1, .int .i64 3]
def ovenO : Value := .agg #[.int .i64 20, .int .i64 30, .int .i64 2, .int .i64 4, .int .i64 1, .int .i64 3]
def at25 : Value := .agg #[.int .i64 25, .int .i64 25]
def at0 : Value := .agg #[.int .i64 0, .int .i64 0]
def ovenX (c : Int) : Value := .agg #[.int .i64 (-2), .int .i64 0, .int .i64 1, .int .i64 1, .int .i64 c, .int .i64 c]
def ovenRes : Value := .tuple #[.agg #[.int .i64 17, .int .i64 34], .int .i64 0]
theorem oven_run : goAll stepM (endsIn 36 (fun x => eqW x ovenRes)) 10 40 (start Try.prog 36 #[ovenO, at25, .bool false, .int .i64 200] none0) = true := by kernel_rfl
theorem oven_O (w : World) : Calls Try.prog 36 #[ovenO, at25, .bool false, .int .i64 200] w fun e w' => e = .returned ovenRes ∧ Below w.heap.size w w' := closed_is 10 40 (by kernel_rfl) oven_run w
end Go.Proofs.Ev
