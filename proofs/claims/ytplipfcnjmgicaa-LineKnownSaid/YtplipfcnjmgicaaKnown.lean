/-
  LineKnown: the run. No statement is proved here.
-/
import Derived.Test.YtplipfcnjmgicaaKnownK
import Derived.Test.YtplipfcnjmgicaaSafe3
import Derived.Test.YtplipfcnjmgicaaAwake
noncomputable section
namespace Go.Proofs.Ev
open Go.RowKit Go.Proofs.Ytplipfcnjmgicaa
set_option maxRecDepth 100000

def safeA : Value := .tuple #[.agg #[.int .i64 (-3), .int .i64 3], .int .i64 0]

/-- A table's row: a function, its arguments, what it returns. -/
structure Row where
  f : Nat
  args : List Value
  v : Value
def lookup (f : Nat) (args : List Value) : List Row → Option Value
  | [] => none
  | r :: rs => match Nat.beq f r.f, eqLW eqW args r.args with
    | true, true => some r.v
    | _, _ => lookup f args rs
def RowsOk (P : Program) (rs : List Row) : Prop := ∀ r ∈ rs, flat r.v = true ∧ ∀ w, Calls P r.f r.args.toArray w fun e w' => e = .returned r.v ∧ Below w.heap.size w w'
theorem lookup_ok {P : Program} : ∀ {rs : List Row}, RowsOk P rs → TabOk P (fun f args => lookup f args rs)
  | [], _, f, args, v, h => by cases h
  | r :: rs, hr, f, args, v, h => by
    have ih := lookup_ok (rs := rs) (fun x hx => hr x (List.mem_cons_of_mem _ hx)) f args v
    have h' : lookup f args (r :: rs) = some v := h
    unfold lookup at h'
    split at h'
    · rename_i hf ha
      injection h' with h'
      subst h'
      obtain rfl := Nat.eq_of_beq_eq_true hf
      obtain rfl := eqLW_eq (fun _ _ => eqW_eq) ha
      exact hr r List.mem_cons_self
    · exact ih h'

theorem okA : OkLine 4 8 10 320 1 3 := ⟨by omega, by omega, by omega, by omega, by omega, by omega⟩
theorem spanA : spanOf (upS (safeAt 4 8 10 320 1 3) 1001) = (-3, 3) := by decide +kernel

theorem safe_A (w : World) : Calls Try.prog 27 #[lineA] w fun e w' => e = .returned safeA ∧ Below w.heap.size w w' :=
  (safe_ok _ 4 8 10 320 1 3 okA (Lib.hid fun T h1 h2 => isSafe_ok 4 8 10 320 1 3 T okA ⟨h1, h2⟩) w).mono fun e w' h => by
    unfold SafeIs at h
    rw [spanA, if_neg (by decide)] at h
    exact h

/-- What is known ahead. -/
def knownRows : List Row := [⟨27, [lineA], safeA⟩, ⟨22, [], .bool true⟩, ⟨36, [ovenO, at25, .bool false, .int .i64 200], ovenRes⟩,
  ⟨38, [lineA, ovenX 1, at0, .bool false, .int .i64 200], keepsRes (-1)⟩, ⟨38, [lineA, ovenX 2, at0, .bool false, .int .i64 200], keepsRes 2⟩]
theorem knownRows_ok : RowsOk Try.prog knownRows := fun r hr => by
  simp only [knownRows, List.mem_cons, List.not_mem_nil, or_false] at hr
  rcases hr with rfl | rfl | rfl | rfl | rfl
  · exact ⟨rfl, fun w => safe_A w⟩
  · exact ⟨rfl, fun w => awake w⟩
  · exact ⟨rfl, fun w => oven_O w⟩
  · exact ⟨rfl, fun w => keeps_1 w⟩
  · exact ⟨rfl, fun w => keeps_2 w⟩

def hasK (f : Nat) : Bool := Nat.beq f 27 || Nat.beq f 22 || Nat.beq f 36 || Nat.beq f 38
def tabK : TabT := fun f args => lookup f args knownRows
def stepK : St → R1 := nest (tabbed Try.prog hasK tabK (step1 Try.prog (drawTab Try.prog tabK 16 3))) (fun f => Nat.beq f 32) 10 60
theorem stepK_ok : StepOk Try.prog stepK :=
  nest_ok (tabbed_ok named (lookup_ok knownRows_ok) fun i w0 cs s fr fs w S => step1_rel named (drawTab_ok named mixed (lookup_ok knownRows_ok) 16 3) S) _ 10 60

theorem known_run : goAll stepK (endsIn 10 isTrue) 10 60 (start Try.prog 10 #[] none0) = true := by kernel_rfl

theorem known (w : World) : Calls Try.prog 10 #[] w (fun e w' => e = .returned (.bool true) ∧ Below w.heap.size w w') :=
  Calls.mono (closed_run stepK_ok 10 60 rfl known_run w) fun e w' h => by
    obtain ⟨⟨v, h1, h2⟩, h3⟩ := h
    exact ⟨by rw [h1, isTrue_eq h2], h3⟩
end Go.Proofs.Ev
