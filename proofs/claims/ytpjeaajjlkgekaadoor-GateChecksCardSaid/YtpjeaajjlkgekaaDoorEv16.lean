/-
  AN EVALUATOR OF CLOSED CALLS, PART 16: a long run in pieces, each from a state that is written out. It holds for every program; no statement is proved here.
-/
import Derived.Test.YtpjeaajjlkgekaaDoorEv15
noncomputable section
namespace Go.Proofs.Ev
open Go.RowKit
set_option linter.unusedVariables false
set_option linter.unusedSimpArgs false

/-- Some legs of a run. -/
def legs (st : St → R1) (k : Nat) : Nat → St → Option St
  | 0, s => some s
  | n + 1, s => match iter st k s with
    | .next s' => legs st k n s'
    | _ => none

def listT (t : Tr Value) : Nat → List Value → List Value
  | 0, acc => acc
  | n + 1, acc => listT t n (val t n :: acc)
/-- A state between two statements of the first function, with some of its blocks alone. -/
def cutS (bs : List Nat) : St → Option St
  | ⟨⟨st, tmps, todo, [], false⟩, [], h⟩ => some ⟨⟨st, Tr.lay (listT tmps st.size []) 0 .e, todo, [], false⟩, [], { n := h.n, t := laid h bs .e, ro := h.ro }⟩
  | _ => none
def cutO (bs : List Nat) : Option St → Option St
  | some s => cutS bs s
  | none => none

/-- From the one state the machine comes to the other one. -/
def Reach (P : Program) (s s' : St) : Prop := ∀ (i : Ren) (w0 : World) (cs : List Frame) (fr : Frame) (fs : List Frame) (w : World), SRel P i w0 cs s fr fs w →
  ∃ i' fr' fs' w', Steps P (lone fr fs w) (lone fr' fs' w') ∧ SRel P i' w0 cs s' fr' fs' w'

section
variable {P : Program} {w0 : World}

theorem Reach.refl (s : St) : Reach P s s := fun i w0 cs fr fs w S => ⟨i, fr, fs, w, .refl _ _, S⟩
theorem Reach.trans {a b c : St} (h : Reach P a b) (k : Reach P b c) : Reach P a c := fun i w0 cs fr fs w S => by
  obtain ⟨i1, f1, g1, w1, h1, h2⟩ := h i w0 cs fr fs w S
  obtain ⟨i2, f2, g2, w2, k1, k2⟩ := k i1 w0 cs f1 g1 w1 h2
  exact ⟨i2, f2, g2, w2, h1.trans k1, k2⟩

theorem legs_ok {st : St → R1} (hst : StepOk P st) {k : Nat} : ∀ (n : Nat) (s s' : St), legs st k n s = some s' → Reach P s s'
  | 0, s, s', h => by injection h with h; subst h; exact Reach.refl s
  | n + 1, s, s', h => by
    unfold legs at h
    split at h
    · rename_i s1 he
      refine Reach.trans (fun i w0 cs fr fs w S => ?_) (legs_ok hst n s1 s' h)
      have hr := iter_ok hst k i w0 cs s fr fs w S
      rw [he] at hr
      obtain ⟨j, fr', fs', w', g1, g2, g3, g4⟩ := hr
      exact ⟨j, fr', fs', w', g1, g2⟩
    · cases h

theorem listT_eq (t : Tr Value) : ∀ (n : Nat) (acc : List Value), listT t n acc = (List.range n).map (val t) ++ acc
  | 0, acc => rfl
  | n + 1, acc => by rw [listT, listT_eq t n, List.range_succ]; simp

theorem val_listT (t : Tr Value) (n j : Nat) : val (Tr.lay (listT t n []) 0 .e) j = if j < n then val t j else undef := by
  rw [listT_eq, List.append_nil]
  have h := Tr.get_lay ((List.range n).map (val t)) 0 j .e
  have hv : val (Tr.lay ((List.range n).map (val t)) 0 .e) j = match (Tr.lay ((List.range n).map (val t)) 0 Tr.e).get j with
    | some v => v
    | none => undef := rfl
  rw [hv, h]
  simp only [List.length_map, List.length_range, Nat.zero_le, true_and, Nat.zero_add, Nat.sub_zero]
  by_cases hj : j < n
  · rw [if_pos hj, if_pos hj]
    simp [hj]
  · rw [if_neg hj, if_neg hj]
    rfl

theorem cutS_ok {bs : List Nat} {s s' : St} (h : cutS bs s = some s') : Reach P s s' := fun i w0 cs fr fs w S => by
  unfold cutS at h
  split at h
  · rename_i st tmps todo hh
    injection h with h
    subst h
    refine ⟨i, fr, fs, w, .refl _ _, ⟨?_, S.c, ?_⟩⟩
    · exact ⟨S.f.fn, ⟨S.f.tmps.1, fun j => by
        show VRel i hh.n (val (Tr.lay (listT tmps st.size []) 0 .e) j) (fr.tmps.getD j undef)
        rw [val_listT]
        by_cases hj : j < st.size
        · rw [if_pos hj]; exact S.f.tmps.2 j
        · rw [if_neg hj]
          have hsz : fr.tmps.size = st.size := S.f.tmps.1
          have : fr.tmps.getD j undef = undef := by simp [Array.getElem?_eq_none (by omega : fr.tmps.size ≤ j)]
          rw [this]
          exact VRel.undef _ _⟩, S.f.todo, S.f.defers, S.f.dlt, S.f.mode, S.f.kind, S.f.round, S.f.rlt⟩
    · refine S.sat.fewer rfl S.sat.ro S.sat.glr fun b o hb => ?_
      rcases laid_get hh bs .e b with g | ⟨_, g⟩
      · have hb' : (laid hh bs .e).get b = some o := hb
        rw [g] at hb'
        simp [Tr.get] at hb'
      · have hb' : (laid hh bs .e).get b = some o := hb
        rw [g] at hb'
        exact hb'
  · cases h

theorem cutO_ok {st : St → R1} (hst : StepOk P st) {k n : Nat} {bs : List Nat} {s s' : St} (h : cutO bs (legs st k n s) = some s') : Reach P s s' := by
  unfold cutO at h
  split at h
  · rename_i s1 he
    exact (legs_ok hst n s s1 he).trans (cutS_ok h)
  · cases h

/-- **A CLOSED CALL**, in pieces, over the package's variables. -/
theorem closed_from {st : St → R1} (hst : StepOk P st) {vs : List GVar} (hv : gOk vs = true) {f : Nat} {args : Array Value} {p : Value → Bool} {s : (Nat → Nat) → St} (hs : ∀ es, Reach P (start P f args (gHeap es vs)) (s es)) (k n : Nat) (hargs : args.toList.all flat = true)
    (h : ∀ es, goAll st (endsIn f p) k n (s es) = true) {w : World} (hw : Holds vs w) :
    Calls P f args w (fun e w' => (∃ v, e = .returned v ∧ p v = true) ∧ Below w.heap.size w w') := by
  intro cs
  have A : ARel idRen (gHeap (typesOf w) vs).n args args := ARel.refl_of args fun v hv => VRel.of_flat _ _ _ (List.all_eq_true.1 hargs v (by simpa using hv))
  obtain ⟨i1, fr1, fs1, w1, k1, k2⟩ := hs (typesOf w) idRen w cs _ cs w (start_rel (satG hv hw) A f cs)
  obtain ⟨i', fr', w', v, v', h', g1, g2, g3, g4, g5⟩ := goAll_ok hst n i1 cs _ fr1 fs1 w1 k2 (h (typesOf w))
  unfold endsIn at g2
  split at g2
  · rename_i hk hf
    have := VRel.eq_of_flat hf g4
    subst this
    exact ⟨_, w', fr', ⟨⟨_, rfl, g2⟩, g5.below⟩, k1.trans g1, Nat.eq_of_beq_eq_true hk, g3⟩
  · cases g2
/-- A closed call whose answer is v. -/
theorem closed_is {st : St → R1} (hst : StepOk P st) {vs : List GVar} (hv : gOk vs = true) {f : Nat} {args : Array Value} {v : Value} (k n : Nat) (hargs : args.toList.all flat = true)
    (h : ∀ es, goAll st (endsIn f (fun x => eqW x v)) k n (start P f args (gHeap es vs)) = true) {w : World} (hw : Holds vs w) :
    Calls P f args w (fun e w' => e = .returned v ∧ Below w.heap.size w w') :=
  Calls.mono (closed_from hst hv (fun _ => Reach.refl _) k n hargs h hw) fun e w' h => by
    obtain ⟨⟨x, h1, h2⟩, h3⟩ := h
    exact ⟨by rw [h1, eqW_eq h2], h3⟩
end

/-- A table's row: a function, its arguments, what it returns. -/
structure Row where
  f : Nat
  args : List Value
  v : Value
def lookup (f : Nat) (args : List Value) : List Row → Option Value
  | [] => none
  | r :: rs => match Nat.beq f r.f, eqLW eqW args r.args with
    | true, true => some r.v
    | _, _ => lookup f args rs
def RowsOk (P : Program) (vs : List GVar) (rs : List Row) : Prop := ∀ r ∈ rs, flat r.v = true ∧ ∀ w, Holds vs w → Calls P r.f r.args.toArray w fun e w' => e = .returned r.v ∧ Below w.heap.size w w'
theorem lookup_ok {P : Program} {vs : List GVar} : ∀ {rs : List Row}, RowsOk P vs rs → TabOk P vs (fun f args => lookup f args rs)
  | [], _, f, args, v, h => by cases h
  | r :: rs, hr, f, args, v, h => by
    have ih := lookup_ok (rs := rs) (fun x hx => hr x (List.mem_cons_of_mem _ hx)) f args v
    have h' : lookup f args (r :: rs) = some v := h
    unfold lookup at h'
    split at h'
    · rename_i hf ha
      injection h' with h'
      subst h'
      obtain rfl := Nat.eq_of_beq_eq_true hf
      obtain rfl := eqLW_eq (fun _ _ => eqW_eq) ha
      exact hr r List.mem_cons_self
    · exact ih h'

/-! ### Pieces of code, by the number of their first region -/
def firstRegion : Code → Option Nat
  | .region n _ _ => some n
  | .seq a b => match firstRegion a with
    | some n => some n
    | none => firstRegion b
  | .cond _ a b => match firstRegion a with
    | some n => some n
    | none => firstRegion b
  | .block _ b => firstRegion b
  | .loop b => firstRegion b
  | .scope b => firstRegion b
  | _ => none
/-- What lies right of a 'seq' whose right part begins with the region n. -/
def restAt (n : Nat) : Code → Option Code
  | .seq a b => match firstRegion b with
    | some m => match Nat.beq m n with
      | true => some b
      | false => match restAt n a with
        | some c => some c
        | none => restAt n b
    | none => match restAt n a with
      | some c => some c
      | none => restAt n b
  | _ => none
def restOf (P : Program) (f n : Nat) : Code := match funcT P f with
  | some fn => match fn.body with
    | some c => match restAt n c with
      | some d => d
      | none => .skip
    | none => .skip
  | none => .skip
end Go.Proofs.Ev
