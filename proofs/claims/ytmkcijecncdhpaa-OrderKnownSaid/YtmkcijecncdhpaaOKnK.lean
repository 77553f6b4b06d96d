/-
  OrderKnown: what is known ahead. No statement is proved here.
-/
import Derived.Test.YtmkcijecncdhpaaOAwake
import Derived.Test.YtmkcijecncdhpaaEv23
import Derived.Test.YtmkcijecncdhpaaOw5
import Derived.Test.YtmkcijecncdhpaaOw10
noncomputable section
namespace Go.Proofs.Ev
open Go.RowKit Go.Proofs.Ytmkcijecncdhpaa
set_option maxRecDepth 100000
set_option linter.unusedVariables false
set_option linter.unusedSimpArgs false

theorem holds0 (w : World) : Holds [] w := fun v h => by cases h
/-- What is known ahead: Awake; whether a number is no word; an order's word; when the next order is taken. -/
def tabA : List Value → Option Value
  | [] => some (.bool true)
  | _ => none
def tabN : List Value → Option Value
  | [.int .i64 x] => some (.bool (!inB 16777215 x))
  | _ => none
def wordC (x : Int) : Bool := inB 16777215 x
def tabW : List Value → Option Value
  | [.int .i64 x] => match wordC x with
    | true => some (ordV (opO x) (fromO x) (toO x) (nextO x))
    | false => none
  | _ => none
def timeC (a f o n t : Int) : Bool := inB 7 a && inB 127 f && inB 127 o && inB 127 n && inB 1000000100 t
def tabT : List Value → Option Value
  | [.agg ⟨[.int .i64 a, .int .i64 f, .int .i64 o, .int .i64 n]⟩, .int .i64 t, .bool b] => match timeC a f o n t with
    | true => some (.tuple #[.int .i64 (atO a o n b), .int .i64 (untilO a f o n t b)])
    | false => none
  | _ => none
def tabK : TabT := fun f args => match Nat.beq f 22 with
  | true => tabA args
  | false => match Nat.beq f 58 with
    | true => tabN args
    | false => match Nat.beq f 52 with
      | true => tabW args
      | false => match Nat.beq f 49 with
        | true => tabT args
        | false => none
theorem inB_of {g x : Int} (h : inB g x = true) : 0 ≤ x ∧ x ≤ g := by unfold inB at h; simpa using h
theorem tabK_ok : TabOk Try.prog [] tabK := fun f args v h => by
  unfold tabK at h
  split at h
  · rename_i hf
    rw [Nat.eq_of_beq_eq_true hf]
    unfold tabA at h
    split at h
    · injection h with h
      subst h
      exact ⟨rfl, fun w _ => awake w⟩
    · cases h
  · split at h
    · rename_i hf
      rw [Nat.eq_of_beq_eq_true hf]
      unfold tabN at h
      split at h
      · rename_i x
        injection h with h
        subst h
        exact ⟨rfl, fun w _ => (isNone_any x w).mono fun e w' ⟨h1, h2⟩ => ⟨h1, by rw [h2]; exact (Below.refl _ _).alloc (Nat.le_refl _) _⟩⟩
      · cases h
    · split at h
      · rename_i hf
        rw [Nat.eq_of_beq_eq_true hf]
        unfold tabW at h
        split at h
        · rename_i x
          split at h
          · rename_i hx
            injection h with h
            subst h
            exact ⟨rfl, fun w _ => written_any x (inB_of hx) w⟩
          · cases h
        · cases h
      · split at h
        · rename_i hf
          rw [Nat.eq_of_beq_eq_true hf]
          unfold tabT at h
          split at h
          · rename_i a f o n t b
            split at h
            · rename_i hx
              injection h with h
              subst h
              simp only [timeC, Bool.and_eq_true] at hx
              exact ⟨rfl, fun w _ => when_any a f o n t b ⟨inB_of hx.1.1.1.1, inB_of hx.1.1.1.2, inB_of hx.1.1.2, inB_of hx.1.2⟩ (inB_of hx.2) w⟩
            · cases h
          · cases h
        · cases h

def hasK (f : Nat) : Bool := Nat.beq f 22 || Nat.beq f 58 || Nat.beq f 52 || Nat.beq f 49
def stepK : St → R1 := tabbedD Try.prog hasK [] tabK (step1 Try.prog (drawEnd Try.prog [] tabK 16 9))
theorem stepK_ok : StepOk Try.prog stepK :=
  tabbedD_ok named tabK_ok fun i w0 cs s fr fs w S => step1_rel named (drawEnd_ok named mixed tabK_ok 16 9) S
end Go.Proofs.Ev
