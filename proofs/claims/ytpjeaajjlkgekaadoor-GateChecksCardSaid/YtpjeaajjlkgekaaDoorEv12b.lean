/-
  AN EVALUATOR OF CLOSED CALLS, PART 12b: regions whose order is drawn and that store: every order is tried, but what touches no memory comes first. It holds for every program; no statement is proved here.
-/
import Derived.Test.YtpjeaajjlkgekaaDoorEv12
noncomputable section
namespace Go.Proofs.Ev
open Go.RowKit
set_option linter.unusedVariables false
set_option linter.unusedSimpArgs false

/-! ### Operations whose value does not depend on the world -/
def opP (P : Program) (ρ : Operand → Value) (o : Oper) (h : AH) : Option Value := match o.op with
  | .move x => some (ρ x)
  | .assign x => some (ρ x)
  | .nilCheck x => match ρ x with
    | .pointer (some a) => some (.pointer (some a))
    | _ => none
  | .extract x k => match ρ x with
    | .tuple vs => vs.toList[k]?
    | _ => none
  | .indexAddr t x ix => match ρ ix with
    | .int _ _ => ptrQ (indexAtA P t (ρ x) (ρ ix))
    | _ => none
  | .slice t x lo hi mx => match (lo.toList ++ hi.toList ++ mx.toList).all (fun y => flat (ρ y)), ρ x with
    | true, .slice _ _ _ => sliceA P t (ρ x) (lo.map ρ) (hi.map ρ) (mx.map ρ)
    | _, _ => none
  | .build t ps => buildA P t (ps.toList.map fun (k, x) => (k, ρ x))
  | .binOp op _ x y _ => match ρ x, ρ y with
    | .int .i64 a, .int .i64 b => match fastInt op a b with
      | some v => some v
      | none => flatQ P ρ o h
    | _, _ => flatQ P ρ o h
  | .call c => match c.callee with
    | .builtin b => builtinQ P ρ o b h
    | _ => none
  | .fieldAddr s x k => match ρ x with
    | .pointer (some a) => ptrQ (fieldAtA P s a k)
    | _ => none
  | .pick _ _ _ => flatQ P ρ o h
  | .unOp _ _ _ => flatQ P ρ o h
  | .makeFunc (.func f) first captured => some (.func (.func f) (first.map ρ) (captured.map ρ))
  | _ => none
def pureKind (o : Oper) : Bool := match o.op with
  | .move _ => true
  | .assign _ => true
  | .nilCheck _ => true
  | .extract _ _ => true
  | .indexAddr _ _ _ => true
  | .slice _ _ _ _ _ => true
  | .build _ _ => true
  | .binOp _ _ _ _ _ => true
  | .fieldAddr _ _ _ => true
  | .pick _ _ _ => true
  | .unOp _ _ _ => true
  | .makeFunc (.func _) _ _ => true
  | .call c => match c.callee with
    | .builtin .copy => false
    | .builtin .append => false
    | .builtin .len => false
    | .builtin _ => true
    | _ => false
  | _ => false

def dsts (ops : Array Oper) : List Nat := ops.toList.filterMap (·.dst)

/-- A store to a block of the list, or an operation that leaves the world alone. -/
def opE (P : Program) (B : List Nat) (ρ : Operand → Value) (o : Oper) (h : AH) : Option (Value × AH) := match o.op with
  | .store ty a x => match ρ a with
    | .pointer (some ad) => match B.any (Nat.beq ad.block), storeA P h ty ad (ρ x) with
      | true, some h' => some (undef, h')
      | _, _ => none
    | _ => none
  | _ => match opQ P ρ o h with
    | some v => some (v, h)
    | none => none
def blockOf (ρ : Operand → Value) (o : Oper) (B : List Nat) : List Nat := match o.op with
  | .store _ a _ => match ρ a with
    | .pointer (some ad) => ad.block :: B
    | _ => B
  | _ => B

def refRun (P : Program) (ops : Array Oper) (size : Nat) : List Oper → Tr Value → AH → List Nat → Option (Tr Value × AH × List Nat)
  | [], t, h, B => some (t, h, B)
  | o :: rest, t, h, B => match wantedT o ops t with
    | false => refRun P ops size rest (setT size o.dst undef t) h B
    | true => match opE P (blockOf (evT t) o B) (evT t) o h with
      | some (v, h') => refRun P ops size rest (setT size o.dst v t) h' (blockOf (evT t) o B)
      | none => none

/-! ### Sets of operations as numbers -/
def maskOf : List Nat → Nat
  | [] => 0
  | j :: js => Nat.lor (maskOf js) (Nat.shiftLeft 1 j)
def inM (M j : Nat) : Bool := Nat.beq (Nat.land (Nat.shiftRight M j) 1) 1
def subM (d M : Nat) : Bool := Nat.beq (Nat.land M d) d
def addM (M j : Nat) : Nat := Nat.lor M (Nat.shiftLeft 1 j)

theorem inM_eq (M j : Nat) : inM M j = M.testBit j := by
  have h : Nat.land (Nat.shiftRight M j) 1 = (M >>> j) % 2 := by
    show (M >>> j) &&& 1 = _
    exact Nat.and_one_is_mod _
  unfold inM
  rw [h, Nat.testBit_eq_decide_div_mod_eq, Nat.shiftRight_eq_div_pow, Bool.eq_iff_iff, Nat.beq_eq]
  simp
theorem bit_eq (j k : Nat) : (Nat.shiftLeft 1 j).testBit k = decide (j = k) := by
  show (1 <<< j).testBit k = _
  rw [Nat.testBit_shiftLeft]
  by_cases h : j = k
  · subst h; simp
  · by_cases h2 : j ≤ k
    · have h3 : k - j ≠ 0 := by omega
      obtain ⟨m, hm⟩ := Nat.exists_eq_succ_of_ne_zero h3
      simp [h, h2, hm, Nat.testBit_succ]
    · simp [h, h2]
theorem addM_eq (M j k : Nat) : (addM M j).testBit k = (M.testBit k || decide (j = k)) := by
  show (M ||| _).testBit k = _
  rw [Nat.testBit_or, bit_eq]
theorem maskOf_eq : ∀ (js : List Nat) (k : Nat), (maskOf js).testBit k = decide (k ∈ js)
  | [], k => by simp [maskOf]
  | j :: js, k => by
    show (maskOf js ||| _).testBit k = _
    rw [Nat.testBit_or, bit_eq, maskOf_eq js k]
    by_cases h : k = j
    · subst h; simp
    · simp [h, Ne.symm h]
theorem subM_eq (d M : Nat) : subM d M = true ↔ ∀ k, d.testBit k = true → M.testBit k = true := by
  unfold subM
  rw [Nat.beq_eq]
  constructor
  · intro h k hk
    have : (M &&& d).testBit k = d.testBit k := congrArg (fun x => Nat.testBit x k) h
    rw [Nat.testBit_and, hk] at this
    simpa using this
  · intro h
    apply Nat.eq_of_testBit_eq
    intro k
    show (M &&& d).testBit k = _
    rw [Nat.testBit_and]
    cases hd : d.testBit k with
    | false => simp
    | true => simp [h k hd]

def depsOf (o : Oper) : List Nat := (o.after.toList.filter (fun e => Region.binds .any e)).map (·.on)
def waitsOn (o : Oper) (j : Nat) : Bool := o.after.toList.any fun e => Region.binds .any e && Nat.beq e.on j
/-- The operations that are neither apart from this one nor wait for it. -/
def nearOf (ops : Array Oper) (oi : Oper) (i : Nat) : List Oper → Nat → List Nat
  | [], _ => []
  | oj :: rest, j => match Nat.beq j i || waitsOn oj i || oi.apart ops oj with
    | true => nearOf ops oi i rest (j + 1)
    | false => j :: nearOf ops oi i rest (j + 1)

theorem nearOf_spec {ops : Array Oper} {oi : Oper} {i : Nat} : ∀ (l : List Oper) (k j : Nat) (oj : Oper), l[j]? = some oj → (k + j) ∉ nearOf ops oi i l k → (k + j = i ∨ waitsOn oj i = true ∨ oi.apart ops oj = true)
  | [], k, j, oj, h, _ => by simp at h
  | o :: l, k, 0, oj, h, hn => by
    simp only [List.getElem?_cons_zero, Option.some.injEq] at h
    subst h
    unfold nearOf at hn
    split at hn
    · rename_i hh
      simp only [Bool.or_eq_true] at hh
      rcases hh with (hh | hh) | hh
      · exact .inl (Nat.eq_of_beq_eq_true hh)
      · exact .inr (.inl hh)
      · exact .inr (.inr hh)
    · simp at hn
  | o :: l, k, j + 1, oj, h, hn => by
    have e : k + (j + 1) = (k + 1) + j := by omega
    rw [e] at hn ⊢
    refine nearOf_spec l (k + 1) j oj (by simpa using h) fun hm => hn ?_
    unfold nearOf
    split
    · exact hm
    · exact List.mem_cons_of_mem _ hm

/-- Of each operation: what it waits for; what has to be over before it may come first; whether it is pure. -/
def tabFrom (ops : Array Oper) : List Oper → Nat → List (Nat × Nat × Bool)
  | [], _ => []
  | o :: rest, j => (maskOf (depsOf o), (match pureKind o with | true => maskOf (nearOf ops o j ops.toList 0) | false => 0), pureKind o) :: tabFrom ops rest (j + 1)
def tabOf (ops : Array Oper) : List (Nat × Nat × Bool) := tabFrom ops ops.toList 0

theorem tabFrom_get {ops : Array Oper} : ∀ (l : List Oper) (k j : Nat), (tabFrom ops l k)[j]? = (l[j]?).map fun o => (maskOf (depsOf o), (match pureKind o with | true => maskOf (nearOf ops o (k + j) ops.toList 0) | false => 0), pureKind o)
  | [], k, j => by simp [tabFrom]
  | o :: l, k, 0 => by simp [tabFrom]
  | o :: l, k, j + 1 => by
    simp only [tabFrom, List.getElem?_cons_succ]
    rw [tabFrom_get l (k + 1) j, show k + 1 + j = k + (j + 1) by omega]

def readyM (M : Nat) : List (Nat × Nat × Bool) → Nat → List Nat
  | [], _ => []
  | e :: es, j => match inM M j, subM e.1 M with
    | false, true => j :: readyM M es (j + 1)
    | _, _ => readyM M es (j + 1)
def pickM (M : Nat) : List (Nat × Nat × Bool) → Nat → Option Nat
  | [], _ => none
  | e :: es, j => match e.2.2, inM M j, subM e.1 M, subM e.2.1 M with
    | true, false, true, true => some j
    | _, _, _, _ => pickM M es (j + 1)

theorem readyM_mem {M : Nat} : ∀ (es : List (Nat × Nat × Bool)) (k j : Nat) (e : Nat × Nat × Bool), es[j]? = some e → inM M (k + j) = false → subM e.1 M = true → k + j ∈ readyM M es k
  | [], k, j, e, h, _, _ => by simp at h
  | x :: es, k, 0, e, h, h1, h2 => by
    simp only [List.getElem?_cons_zero, Option.some.injEq] at h
    subst h
    unfold readyM
    rw [show inM M k = false from h1, h2]
    exact List.mem_cons_self
  | x :: es, k, j + 1, e, h, h1, h2 => by
    have := readyM_mem es (k + 1) j e (by simpa using h) (by rw [show k + 1 + j = k + (j + 1) by omega]; exact h1) h2
    rw [show k + 1 + j = k + (j + 1) by omega] at this
    unfold readyM
    split
    · exact List.mem_cons_of_mem _ this
    · exact this

theorem pickM_some {M : Nat} : ∀ (es : List (Nat × Nat × Bool)) (k j : Nat), pickM M es k = some j → k ≤ j ∧ ∃ e, es[j - k]? = some e ∧ e.2.2 = true ∧ inM M j = false ∧ subM e.1 M = true ∧ subM e.2.1 M = true
  | [], k, j, h => by simp [pickM] at h
  | x :: es, k, j, h => by
    unfold pickM at h
    split at h
    · rename_i h1 h2 h3 h4
      injection h with h
      subst h
      exact ⟨Nat.le_refl _, x, by simp, h1, h2, h3, h4⟩
    · obtain ⟨g1, e, g2, g3⟩ := pickM_some es (k + 1) j h
      refine ⟨by omega, e, ?_, g3⟩
      rw [show j - k = (j - (k + 1)) + 1 by omega]
      simpa using g2

/-- A number stands for a set of operations that are over. -/
structure Over (ops : Array Oper) (listed : Array Bool) (M : Nat) : Prop where
  size : listed.size = ops.size
  bit : ∀ j, listed.getD j false = M.testBit j

theorem Over.un {ops : Array Oper} {listed : Array Bool} {M : Nat} (v : Over ops listed M) {j : Nat} {o : Oper} (ho : ops[j]? = some o) : listed.getD j true = M.testBit j := by
  have hlt : j < listed.size := by rw [v.size]; exact (Array.getElem?_eq_some_iff.1 ho).1
  rw [← v.bit j]
  simp [hlt]

theorem Over.add {ops : Array Oper} {listed : Array Bool} {M : Nat} (v : Over ops listed M) {j : Nat} {o : Oper} (ho : ops[j]? = some o) : Over ops (listed.setIfInBounds j true) (addM M j) := by
  have hlt : j < listed.size := by rw [v.size]; exact (Array.getElem?_eq_some_iff.1 ho).1
  refine ⟨by simpa using v.size, fun k => ?_⟩
  rw [addM_eq, ← v.bit k]
  by_cases h : j = k
  · subst h; simp [hlt]
  · rw [getD_set_ne false h]; simp [h]

theorem Over.none (ops : Array Oper) : Over ops (Array.replicate ops.size false) 0 := ⟨by simp, fun j => by rw [getD_replicate_false]; simp⟩

theorem tab_get {ops : Array Oper} {j : Nat} {o : Oper} (ho : ops[j]? = some o) : (tabOf ops)[j]? = some (maskOf (depsOf o), (match pureKind o with | true => maskOf (nearOf ops o j ops.toList 0) | false => 0), pureKind o) := by
  unfold tabOf
  rw [tabFrom_get, Array.getElem?_toList, ho]
  simp

theorem mem_depsOf {o : Oper} {k : Nat} : k ∈ depsOf o ↔ ∃ e ∈ o.after, Region.binds .any e = true ∧ e.on = k := by
  simp [depsOf, and_assoc]

theorem Over.ready {ops : Array Oper} {listed : Array Bool} {M : Nat} (v : Over ops listed M) {j : Nat} (h : j ∈ Region.ready .any ops listed) : j ∈ readyM M (tabOf ops) 0 := by
  obtain ⟨h1, o, ho, h2⟩ := mem_ready.1 h
  have := readyM_mem (M := M) (tabOf ops) 0 j _ (tab_get ho) (by rw [Nat.zero_add, inM_eq, ← v.un ho]; exact h1) (by
    rw [subM_eq]
    intro k hk
    rw [maskOf_eq, decide_eq_true_eq, mem_depsOf] at hk
    obtain ⟨e, he, hb, rfl⟩ := hk
    rw [← v.bit]
    exact h2 e he hb)
  simpa using this

theorem readyM_some {M : Nat} : ∀ (es : List (Nat × Nat × Bool)) (k j : Nat), j ∈ readyM M es k → k ≤ j ∧ ∃ e, es[j - k]? = some e ∧ inM M j = false ∧ subM e.1 M = true
  | [], k, j, h => by simp [readyM] at h
  | x :: es, k, j, h => by
    have rest : j ∈ readyM M es (k + 1) → k ≤ j ∧ ∃ e, (x :: es)[j - k]? = some e ∧ inM M j = false ∧ subM e.1 M = true := fun h => by
      obtain ⟨g1, e, g2, g3⟩ := readyM_some es (k + 1) j h
      refine ⟨by omega, e, ?_, g3⟩
      rw [show j - k = (j - (k + 1)) + 1 by omega]
      simpa using g2
    unfold readyM at h
    split at h
    · rename_i h1 h2
      rcases List.mem_cons.1 h with h | h
      · subst h
        exact ⟨Nat.le_refl _, x, by simp, h1, h2⟩
      · exact rest h
    · exact rest h

theorem Over.of_ready {ops : Array Oper} {listed : Array Bool} {M : Nat} (v : Over ops listed M) {j : Nat} (h : j ∈ readyM M (tabOf ops) 0) : j ∈ Region.ready .any ops listed := by
  obtain ⟨_, e, h1, h3, h4⟩ := readyM_some _ _ _ h
  rw [Nat.sub_zero] at h1
  cases ho : ops[j]? with
  | none =>
    unfold tabOf at h1
    rw [tabFrom_get, Array.getElem?_toList, ho] at h1
    cases h1
  | some o =>
    rw [tab_get ho] at h1
    injection h1 with h1
    subst h1
    rw [subM_eq] at h4
    exact mem_ready.2 ⟨by rw [v.un ho, ← inM_eq]; exact h3, o, ho, fun e he hb => by
      rw [v.bit]
      exact h4 e.on (by rw [maskOf_eq, decide_eq_true_eq, mem_depsOf]; exact ⟨e, he, hb, rfl⟩)⟩

theorem Over.pick {ops : Array Oper} {listed : Array Bool} {M : Nat} (v : Over ops listed M) {j : Nat} (h : pickM M (tabOf ops) 0 = some j) :
    ∃ o, ops[j]? = some o ∧ j ∈ Region.ready .any ops listed ∧ ∀ (k : Nat) (ok : Oper), ops[k]? = some ok → k ≠ j → listed.getD k true = false → (∀ e ∈ ok.after, Region.binds .any e = true → e.on ≠ j) → o.apart ops ok = true := by
  obtain ⟨_, e, h1, h2, h3, h4, h5⟩ := pickM_some _ _ _ h
  rw [Nat.sub_zero] at h1
  cases ho : ops[j]? with
  | none =>
    unfold tabOf at h1
    rw [tabFrom_get, Array.getElem?_toList, ho] at h1
    cases h1
  | some o =>
    rw [tab_get ho] at h1
    injection h1 with h1
    subst h1
    simp only at h2 h4 h5
    rw [h2] at h5
    simp only at h5
    rw [subM_eq] at h4 h5
    refine ⟨o, rfl, mem_ready.2 ⟨by rw [v.un ho, ← inM_eq]; exact h3, o, ho, fun e he hb => ?_⟩, fun k ok hk hne hun hno => ?_⟩
    · rw [v.bit]
      exact h4 e.on (by rw [maskOf_eq, decide_eq_true_eq, mem_depsOf]; exact ⟨e, he, hb, rfl⟩)
    · have hkn : k ∉ nearOf ops o j ops.toList 0 := fun hm => by
        have := h5 k (by rw [maskOf_eq, decide_eq_true_eq]; exact hm)
        rw [← v.un hk, hun] at this
        cases this
      have := nearOf_spec (ops := ops) (oi := o) (i := j) ops.toList 0 k ok (by rw [Array.getElem?_toList]; exact hk) (by rw [Nat.zero_add]; exact hkn)
      rw [Nat.zero_add] at this
      rcases this with h | h | h
      · exact absurd h hne
      · exfalso
        obtain ⟨e, he, hb⟩ := List.any_eq_true.1 h
        simp only [Bool.and_eq_true] at hb
        exact hno e (by simpa using he) hb.1 (Nat.eq_of_beq_eq_true hb.2)
      · exact h

def explPure (P : Program) (ops : Array Oper) (size : Nat) (t : Tr Value) (h : AH) (j : Nat) : Option (Tr Value) := match ops.toList[j]? with
  | some o => match wantedT o ops t with
    | false => some (setT size o.dst undef t)
    | true => match opP P (evT t) o h with
      | some v => some (setT size o.dst v t)
      | none => none
  | none => none
def explOne (P : Program) (ops : Array Oper) (size : Nat) (B : List Nat) (t : Tr Value) (h : AH) (j : Nat) : Option (Tr Value × AH) := match ops.toList[j]? with
  | some o => match wantedT o ops t with
    | false => some (setT size o.dst undef t, h)
    | true => match opE P B (evT t) o h with
      | some (v, h') => some (setT size o.dst v t, h')
      | none => none
  | none => none

def expl (P : Program) (ops : Array Oper) (size : Nat) (B : List Nat) (ok : Tr Value → AH → Bool) : Nat → Nat → Tr Value → AH → Bool
  | 0, M, t, h => (readyM M (tabOf ops) 0).isEmpty && ok t h
  | f + 1, M, t, h => match pickM M (tabOf ops) 0 with
    | some j => match explPure P ops size t h j with
      | some t' => expl P ops size B ok f (addM M j) t' h
      | none => false
    | none => match readyM M (tabOf ops) 0 with
      | [] => ok t h
      | js => js.all fun j => match explOne P ops size B t h j with
        | some (t', h') => expl P ops size B ok f (addM M j) t' h'
        | none => false

/-! ### Sameness -/
def eqSp : Option Nat → Option Nat → Bool
  | none, none => true
  | some a, some b => Nat.beq a b
  | _, _ => false
theorem eqSp_eq : ∀ {a b : Option Nat}, eqSp a b = true → a = b
  | none, none, _ => rfl
  | some a, some b, h => by rw [Nat.eq_of_beq_eq_true h]
  | none, some _, h => by cases h
  | some _, none, h => by cases h
def eqAd (a b : Addr) : Bool := Nat.beq a.block b.block && Nat.beq a.off b.off && eqSp a.spot b.spot
theorem eqAd_eq {a b : Addr} (h : eqAd a b = true) : a = b := by
  obtain ⟨a1, a2, a3⟩ := a
  obtain ⟨b1, b2, b3⟩ := b
  simp only [eqAd, Bool.and_eq_true] at h
  obtain ⟨⟨h1, h2⟩, h3⟩ := h
  rw [Nat.eq_of_beq_eq_true h1, Nat.eq_of_beq_eq_true h2, eqSp_eq h3]
def eqBy : List UInt8 → List UInt8 → Bool
  | [], [] => true
  | a :: as, b :: bs => Nat.beq a.toNat b.toNat && eqBy as bs
  | _, _ => false
theorem eqBy_eq : ∀ {as bs : List UInt8}, eqBy as bs = true → as = bs
  | [], [], _ => rfl
  | a :: as, b :: bs, h => by
    simp only [eqBy, Bool.and_eq_true] at h
    rw [UInt8.toNat_inj.1 (Nat.eq_of_beq_eq_true h.1), eqBy_eq h.2]
  | [], _ :: _, h => by cases h
  | _ :: _, [], h => by cases h
def eqV0 : Value → Value → Bool
  | .int .i64 a, .int .i64 b => a == b
  | .int .u64 a, .int .u64 b => a == b
  | .int .u8 a, .int .u8 b => a == b
  | .bool a, .bool b => a == b
  | .pointer none, .pointer none => true
  | .pointer (some a), .pointer (some b) => eqAd a b
  | .slice none l c, .slice none l' c' => Nat.beq l l' && Nat.beq c c'
  | .slice (some a) l c, .slice (some b) l' c' => eqAd a b && (Nat.beq l l' && Nat.beq c c')
  | .tuple xs, .tuple ys => xs.toList.isEmpty && ys.toList.isEmpty
  | .string a, .string b => eqBy a.data.toList b.data.toList
  | .map (some a), .map (some b) => Nat.beq a b
  | _, _ => false
theorem eqV0_eq {a b : Value} (h : eqV0 a b = true) : a = b := by
  unfold eqV0 at h
  split at h
  · simp only [beq_iff_eq] at h; rw [h]
  · simp only [beq_iff_eq] at h; rw [h]
  · simp only [beq_iff_eq] at h; rw [h]
  · simp only [beq_iff_eq] at h; rw [h]
  · rfl
  · rw [eqAd_eq h]
  · simp only [Bool.and_eq_true] at h
    rw [Nat.eq_of_beq_eq_true h.1, Nat.eq_of_beq_eq_true h.2]
  · simp only [Bool.and_eq_true] at h
    rw [eqAd_eq h.1, Nat.eq_of_beq_eq_true h.2.1, Nat.eq_of_beq_eq_true h.2.2]
  · simp only [Bool.and_eq_true, List.isEmpty_iff, Array.toList_eq_nil_iff] at h
    rw [h.1, h.2]
  · rename_i x y
    obtain ⟨⟨x⟩⟩ := x
    obtain ⟨⟨y⟩⟩ := y
    have := eqBy_eq h
    simp only at this
    rw [this]
  · rw [Nat.eq_of_beq_eq_true h]
  · cases h
def eqL0 : List Value → List Value → Bool
  | [], [] => true
  | a :: as, b :: bs => eqV0 a b && eqL0 as bs
  | _, _ => false
theorem eqL0_eq : ∀ {as bs : List Value}, eqL0 as bs = true → as = bs
  | [], [], _ => rfl
  | a :: as, b :: bs, h => by
    simp only [eqL0, Bool.and_eq_true] at h
    rw [eqV0_eq h.1, eqL0_eq h.2]
  | [], _ :: _, h => by cases h
  | _ :: _, [], h => by cases h
def eqV : Value → Value → Bool
  | .agg xs, .agg ys => eqL0 xs.toList ys.toList
  | .tuple xs, .tuple ys => eqL0 xs.toList ys.toList
  | .iface t a, .iface t' b => Nat.beq t t' && eqV0 a b
  | .func (.func f) xs cs, .func (.func f') ys ds => Nat.beq f f' && (eqL0 xs.toList ys.toList && eqL0 cs.toList ds.toList)
  | a, b => eqV0 a b
theorem eqV_eq {a b : Value} (h : eqV a b = true) : a = b := by
  unfold eqV at h
  split at h
  · rename_i xs ys
    obtain ⟨xs⟩ := xs
    obtain ⟨ys⟩ := ys
    rw [eqL0_eq (as := xs) (bs := ys) h]
  · rename_i xs ys
    obtain ⟨xs⟩ := xs
    obtain ⟨ys⟩ := ys
    rw [eqL0_eq (as := xs) (bs := ys) h]
  · simp only [Bool.and_eq_true] at h
    rw [Nat.eq_of_beq_eq_true h.1, eqV0_eq h.2]
  · rename_i f xs cs f' ys ds
    simp only [Bool.and_eq_true] at h
    obtain ⟨xs⟩ := xs
    obtain ⟨ys⟩ := ys
    obtain ⟨cs⟩ := cs
    obtain ⟨ds⟩ := ds
    rw [Nat.eq_of_beq_eq_true h.1, eqL0_eq (as := xs) (bs := ys) h.2.1, eqL0_eq (as := cs) (bs := ds) h.2.2]
  · exact eqV0_eq h
def eqL : List Value → List Value → Bool
  | [], [] => true
  | a :: as, b :: bs => eqV a b && eqL as bs
  | _, _ => false
theorem eqL_eq : ∀ {as bs : List Value}, eqL as bs = true → as = bs
  | [], [], _ => rfl
  | a :: as, b :: bs, h => by
    simp only [eqL, Bool.and_eq_true] at h
    rw [eqV_eq h.1, eqL_eq h.2]
  | [], _ :: _, h => by cases h
  | _ :: _, [], h => by cases h
def eqO : Option Obj → Option Obj → Bool
  | some (.cells xs e fr), some (.cells ys e' fr') => eqL xs.toList ys.toList && Nat.beq e e' && Nat.beq fr.1 fr'.1 && Nat.beq fr.2 fr'.2
  | _, _ => false
theorem eqO_eq {a b : Option Obj} (h : eqO a b = true) : a = b := by
  unfold eqO at h
  split at h
  · rename_i xs e fr ys e' fr'
    simp only [Bool.and_eq_true] at h
    obtain ⟨⟨⟨h1, h2⟩, h3⟩, h4⟩ := h
    have e1 : xs = ys := Array.ext' (eqL_eq h1)
    have e2 := Nat.eq_of_beq_eq_true h2
    have e3 : fr = fr' := Prod.ext (Nat.eq_of_beq_eq_true h3) (Nat.eq_of_beq_eq_true h4)
    subst e1 e2 e3
    rfl
  · cases h
def agree (D B : List Nat) (tR : Tr Value) (hR : AH) (t : Tr Value) (h : AH) : Bool := D.all (fun j => eqV (val t j) (val tR j)) && B.all (fun b => eqO (h.obj b) (hR.obj b))
def explB (ops : Array Oper) : Bool := Region.noSelect ops && noDefer ops

structure SameH (B : List Nat) (h h' : AH) : Prop where
  n : h'.n = h.n
  ro : h'.ro = h.ro
  obj : ∀ b, b ∉ B → h'.obj b = h.obj b
  low : ∀ b, b < h.ro → h'.obj b = h.obj b
theorem SameH.trans {B : List Nat} {a b c : AH} (x : SameH B a b) (y : SameH B b c) : SameH B a c :=
  ⟨y.n.trans x.n, y.ro.trans x.ro, fun k hk => (y.obj k hk).trans (x.obj k hk), fun k hk => (y.low k (by rw [x.ro]; exact hk)).trans (x.low k hk)⟩
theorem SameH.refl (B : List Nat) (a : AH) : SameH B a a := ⟨rfl, rfl, fun _ _ => rfl, fun _ _ => rfl⟩
theorem SameH.more {B B' : List Nat} {a b : AH} (x : SameH B a b) (h : ∀ k ∈ B, k ∈ B') : SameH B' a b := ⟨x.n, x.ro, fun k hk => x.obj k (fun hb => hk (h k hb)), x.low⟩

theorem stA_same {b : Nat} : ∀ (vs : List Value) (k : Nat) (h h' : AH), stA h b vs k = some h' → h'.n = h.n ∧ h'.ro = h.ro ∧ (∀ c, c ≠ b → h'.obj c = h.obj c) ∧ (∀ c, c < h.ro → h'.obj c = h.obj c)
  | [], k, h, h', hs => by
    simp only [stA, Option.some.injEq] at hs
    subst hs
    exact ⟨rfl, rfl, fun _ _ => rfl, fun _ _ => rfl⟩
  | v :: vs, k, h, h', hs => by
    simp only [stA] at hs
    split at hs
    · rename_i cs e fr hb
      split at hs
      · rename_i hc
        simp only [Bool.and_eq_true, decide_eq_true_eq] at hc
        obtain ⟨h1, h2, h3, h4⟩ := stA_same vs (k + 1) _ h' hs
        refine ⟨h1, h2, fun c hcb => by rw [h3 c hcb, AH.obj_put, if_neg hcb], fun c hlt => ?_⟩
        rw [h4 c hlt, AH.obj_put, if_neg]
        have := hc.2
        omega
      · cases hs
    · cases hs

theorem storeA_same {P : Program} {h h' : AH} {ty : TypeId} {a : Addr} {v : Value} (hs : storeA P h ty a v = some h') {B : List Nat} (hb : a.block ∈ B) : SameH B h h' := by
  unfold storeA at hs
  split at hs
  · obtain ⟨h1, h2, h3, h4⟩ := stA_same _ _ _ _ hs
    exact ⟨h1, h2, fun c hc => h3 c (by intro e; subst e; exact hc hb), h4⟩
  · cases hs

def SameT (D : List Nat) (t t' : Tr Value) : Prop := ∀ j, j ∉ D → val t' j = val t j
theorem SameT.set {D : List Nat} {t t' : Tr Value} (x : SameT D t t') {size : Nat} {dst : Option Nat} {v : Value} (hd : ∀ d, dst = some d → d ∈ D) : SameT D t (setT size dst v t') := fun j hj => by
  cases dst with
  | none => exact x j hj
  | some d =>
    simp only [setT]
    split
    · rw [val_put, if_neg (by intro e; subst e; exact hj (hd _ rfl))]; exact x j hj
    · exact x j hj

section
variable {P : Program} {i : Ren} {h : AH} {w0 w : World} {ρ ρ' : Operand → Value}

theorem opP_sound (o : Oper) (hρ : ∀ x ∈ o.op.operands, VRel i h.n (ρ x) (ρ' x)) {v : Value} (hv : opP P ρ o h = some v) :
    ∃ v', (∀ w : World, (execOp ρ' o).run P w = .ok (.value v') w) ∧ VRel i h.n v v' := by
  have hflat : ∀ {v}, flatQ P ρ o h = some v → ∃ v', (∀ w : World, (execOp ρ' o).run P w = .ok (.value v') w) ∧ VRel i h.n v v' := fun {v} hv =>
    ⟨v, fun w => (flatQ_sound (w := w) o hρ hv).1, (flatQ_sound (w := default) o hρ hv).2⟩
  unfold opP at hv
  split at hv
  · rename_i x hop
    injection hv with hv
    subst hv
    exact ⟨_, fun w => by simp [execOp, hop], hρ x (by rw [hop]; simp [Op.operands])⟩
  · rename_i x hop
    injection hv with hv
    subst hv
    exact ⟨_, fun w => by simp [execOp, hop], hρ x (by rw [hop]; simp [Op.operands])⟩
  · rename_i x hop
    have ha := hρ x (by rw [hop]; simp [Op.operands])
    split at hv
    · rename_i ad had
      injection hv with hv
      subst hv
      rw [had] at ha
      have e1 : ρ' x = .pointer (some (i.addr ad)) := by
        generalize ρ' x = z at ha
        cases ha with
        | one _ hv => simp [flat1] at hv
        | ptr _ _ => rfl
      rw [e1] at ha
      exact ⟨_, fun w => by simp [execOp, hop, e1], ha⟩
    · cases hv
  · rename_i x k hop
    have ha := hρ x (by rw [hop]; simp [Op.operands])
    split at hv
    · rename_i vs hvs
      rw [hvs] at ha
      have hk : k < vs.size := by
        have := (List.getElem?_eq_some_iff.1 hv).1
        simpa using this
      have hv2 : vs.getD k undef = v := by
        rw [Array.getD_eq_getD_getElem?, ← Array.getElem?_toList, hv]; rfl
      have he : ∃ ys, ρ' x = .tuple ys ∧ ys.size = vs.size ∧ VRel i h.n (vs.getD k undef) (ys.getD k undef) := by
        generalize ρ' x = z at ha
        cases ha with
        | one _ hv => simp [flat1] at hv
        | tuple _ ys h1 h2 => exact ⟨ys, rfl, h1.symm, h2 k hk⟩
      obtain ⟨ys, e1, e2, e3⟩ := he
      obtain ⟨u, hu, hr⟩ : ∃ u, ys[k]? = some u ∧ VRel i h.n (vs.getD k undef) u := ⟨ys.getD k undef, by rw [Array.getD_eq_getD_getElem?, Array.getElem?_eq_getElem (by omega)]; rfl, e3⟩
      rw [hv2] at hr
      exact ⟨u, fun w => by simp [execOp, hop, e1, Instr.extract, hu], hr⟩
    · cases hv
  · rename_i t x ix hop
    have ha := hρ x (by rw [hop]; simp [Op.operands])
    have hix := hρ ix (by rw [hop]; simp [Op.operands])
    split at hv
    · rename_i ik iv hiv
      have he := VRel.eq_of_flat (by rw [hiv]; rfl) hix
      cases hfa : indexAtA P t (ρ x) (ρ ix) with
      | none => rw [hfa] at hv; cases hv
      | some b =>
        rw [hfa] at hv
        injection hv with hv
        subst hv
        refine ⟨_, fun w => ?_, .ptr b (indexAtA_sound (i := i) ha hfa default).2⟩
        have : (execOp ρ' o).run P w = (do pure (Next.value (← Instr.indexAt t (ρ' x) (ρ ix))) : Sem Next).run P w := by simp only [execOp, hop, he]
        rw [this]
        exact run_v (indexAtA_sound (i := i) ha hfa w).1
    · cases hv
  · rename_i t x lo hi mx hop
    have ha := hρ x (by rw [hop]; simp [Op.operands])
    split at hv
    · rename_i hf hx
      have e : ∀ y : Option Operand, (∀ z, y = some z → z ∈ o.op.operands ∧ z ∈ lo.toList ++ hi.toList ++ mx.toList) → y.map ρ' = y.map ρ := fun y hy => by
        cases y with
        | none => rfl
        | some z => simp only [Option.map_some, VRel.eq_of_flat (List.all_eq_true.1 hf z (hy z rfl).2) (hρ z (hy z rfl).1)]
      have e1 := e lo fun z hz => ⟨by rw [hop]; simp [Op.operands, hz], by simp [hz]⟩
      have e2 := e hi fun z hz => ⟨by rw [hop]; simp [Op.operands, hz], by simp [hz]⟩
      have e3 := e mx fun z hz => ⟨by rw [hop]; simp [Op.operands, hz], by simp [hz]⟩
      obtain ⟨v', _, g2⟩ := sliceA_sound (w := default) ha hv
      refine ⟨v', fun w => ?_, g2⟩
      have : (execOp ρ' o).run P w = (do pure (Next.value (← Instr.sliceAt t (ρ' x) (lo.map ρ) (hi.map ρ) (mx.map ρ))) : Sem Next).run P w := by simp only [execOp, hop, e1, e2, e3]
      rw [this]
      obtain ⟨v'', g3, g4⟩ := sliceA_sound (w := w) ha hv
      have := g2.unique _ g4
      subst this
      exact run_v g3
    · cases hv
  · rename_i t ps hop
    have hp := PRel.of (i := i) (n := h.n) (ρ := ρ) (ρ' := ρ') ps.toList fun p hp => hρ p.2 (by rw [hop]; simp only [Op.operands, List.mem_toArray, List.mem_map]; exact ⟨p, hp, rfl⟩)
    have e1 : ps.map (fun (k, x) => (k, ρ' x)) = (ps.toList.map fun (k, x) => (k, ρ' x)).toArray := by apply Array.ext'; simp
    obtain ⟨v', _, g2⟩ := buildA_sound hp hv default
    refine ⟨v', fun w => ?_, g2⟩
    have : (execOp ρ' o).run P w = (do pure (Next.value (← Instr.build t (ps.toList.map fun (k, x) => (k, ρ' x)).toArray)) : Sem Next).run P w := by simp only [execOp, hop, e1]
    rw [this]
    obtain ⟨v'', g3, g4⟩ := buildA_sound hp hv w
    have := g2.unique _ g4
    subst this
    exact run_v g3
  · rename_i op t x y yt hop
    have hx := hρ x (by rw [hop]; simp [Op.operands])
    have hy := hρ y (by rw [hop]; simp [Op.operands])
    split at hv
    · rename_i a b ha hb
      split at hv
      · rename_i v1 hv1
        injection hv with hv
        subst hv
        rw [ha] at hx
        rw [hb] at hy
        have e1 := VRel.eq_of_flat rfl hx
        have e2 := VRel.eq_of_flat rfl hy
        have g := fun w => fastInt_sound (P := P) hv1 t x y w
        exact ⟨_, fun w => by simp only [execOp, hop, e1, e2]; exact run_v (g w).1, VRel.of_flat _ _ _ (g default).2⟩
      · exact hflat hv
    · exact hflat hv
  · split at hv
    · unfold builtinQ at hv
      split at hv
      · cases hv
      · cases hv
      · exact hflat hv
    · cases hv
  · rename_i t x k hop
    have ha := hρ x (by rw [hop]; simp [Op.operands])
    split at hv
    · rename_i ad had
      rw [had] at ha
      have e1 : ρ' x = .pointer (some (i.addr ad)) ∧ ad.block < h.n := by
        generalize ρ' x = z at ha
        cases ha with
        | one _ hv => simp [flat1] at hv
        | ptr _ hb => exact ⟨rfl, hb⟩
      have : ∀ w, (execOp ρ' o).run P w = (do pure (Next.value (← Instr.fieldAt t (.pointer (some (i.addr ad))) k)) : Sem Next).run P w := fun w => by simp only [execOp, hop, e1.1]
      cases hfa : fieldAtA P t ad k with
      | none => rw [hfa] at hv; cases hv
      | some b =>
        rw [hfa] at hv
        injection hv with hv
        subst hv
        have g := fun w => fieldAtA_sound (i := i) hfa w
        exact ⟨_, fun w => by rw [this]; exact run_v (g w).1, .ptr b (by rw [(g default).2]; exact e1.2)⟩
    · cases hv
  · exact hflat hv
  · exact hflat hv
  · rename_i f first captured hop
    injection hv with hv
    subst hv
    have h1 := ARel.map (i := i) (n := h.n) (ρ := ρ) (ρ' := ρ') (xs := first) fun x hx => hρ x (by rw [hop]; simp [Op.operands, hx])
    have h2 := ARel.map (i := i) (n := h.n) (ρ := ρ) (ρ' := ρ') (xs := captured) fun x hx => hρ x (by rw [hop]; simp [Op.operands, hx])
    exact ⟨_, fun w => by simp [execOp, hop, Instr.makeFunc, Ren.fn], .func (.func f) _ _ _ _ trivial h1.1 h1.2 h2.1 h2.2⟩
  · cases hv

theorem opE_sound (s : Sat P i h w0 w) {B : List Nat} (o : Oper) (hρ : ∀ x ∈ o.op.operands, VRel i h.n (ρ x) (ρ' x)) {v : Value} {h' : AH} (hv : opE P B ρ o h = some (v, h')) :
    SameH B h h' ∧ ∃ w' v', Sat P i h' w0 w' ∧ VRel i h'.n v v' ∧ ((execOp ρ' o).run P w = .ok (.value v') w' ∨ ((execOp ρ' o).run P w = .ok .skip w' ∧ v' = undef)) := by
  unfold opE at hv
  split at hv
  · rename_i t a x hop
    have ha := hρ a (by rw [hop]; simp [Op.operands])
    have hx := hρ x (by rw [hop]; simp [Op.operands])
    split at hv
    · rename_i ad had
      rw [had] at ha
      have e1 : ρ' a = .pointer (some (i.addr ad)) := by
        generalize ρ' a = z at ha
        cases ha with
        | one _ hv => simp [flat1] at hv
        | ptr _ _ => rfl
      split at hv
      · rename_i h1 hB hst
        injection hv with hv
        obtain ⟨rfl, rfl⟩ := Prod.mk.inj hv
        have hmem : ad.block ∈ B := by
          obtain ⟨b, hb, he⟩ := List.any_eq_true.1 hB
          rw [Nat.eq_of_beq_eq_true he]; exact hb
        obtain ⟨w', g1, g2, g3, g4⟩ := storeA_sound s hx hst
        exact ⟨storeA_same hst hmem, w', _, g2, VRel.undef _ _, .inr ⟨by simp [execOp, hop, e1, Instr.storeAt, Instr.sureAddr, g1], rfl⟩⟩
      · cases hv
    · cases hv
  · split at hv
    · rename_i v1 hq
      injection hv with hv
      obtain ⟨rfl, rfl⟩ := Prod.mk.inj hv
      obtain ⟨v', g1, g2⟩ := opQ_sound s o hρ hq
      exact ⟨SameH.refl _ _, w, v', s, g2, .inl g1⟩
    · cases hv

theorem put_eq {a : Act} {dst : Option Tmp} {v : Value} : (a.put dst v).tmps = (match dst with | some d => a.tmps.setIfInBounds d v | none => a.tmps) ∧ (a.put dst v).defers = a.defers := by
  cases dst <;> exact ⟨rfl, rfl⟩

theorem XRel.put {i : Ren} {n size : Nat} {t : Tr Value} {a : Act} (X : XRel i n size t a.tmps) {v v' : Value} (hv : VRel i n v v') (dst : Option Nat) : XRel i n size (setT size dst v t) (a.put dst v').tmps := by
  rw [put_eq.1]
  exact X.set hv dst

theorem opE_same {B : List Nat} {o : Oper} {v : Value} {h' : AH} (hv : opE P B ρ o h = some (v, h')) : SameH B h h' := by
  unfold opE at hv
  split at hv
  · split at hv
    · split at hv
      · rename_i ad had _ _ h1 hB hst
        injection hv with hv
        obtain ⟨rfl, rfl⟩ := Prod.mk.inj hv
        have hmem : ad.block ∈ B := by
          obtain ⟨b, hb, he⟩ := List.any_eq_true.1 hB
          rw [Nat.eq_of_beq_eq_true he]; exact hb
        exact storeA_same hst hmem
      · cases hv
    · cases hv
  · split at hv
    · injection hv with hv
      obtain ⟨rfl, rfl⟩ := Prod.mk.inj hv
      exact SameH.refl _ _
    · cases hv

theorem blockOf_more {o : Oper} {B : List Nat} : ∀ b ∈ B, b ∈ blockOf ρ o B := fun b hb => by
  unfold blockOf
  split
  · split
    · exact List.mem_cons_of_mem _ hb
    · exact hb
  · exact hb

theorem refRun_same {ops : Array Oper} {size : Nat} {h0 : AH} {t0 tR : Tr Value} {hR : AH} {BR : List Nat} : ∀ (l : List Oper) (t : Tr Value) (h : AH) (B : List Nat), (∀ o ∈ l, o ∈ ops) → SameH B h0 h → SameT (dsts ops) t0 t →
    refRun P ops size l t h B = some (tR, hR, BR) → SameH BR h0 hR ∧ SameT (dsts ops) t0 tR
  | [], t, h, B, _, x, y, hr => by
    simp only [refRun, Option.some.injEq, Prod.mk.injEq] at hr
    obtain ⟨rfl, rfl, rfl⟩ := hr
    exact ⟨x, y⟩
  | o :: l, t, h, B, hl, x, y, hr => by
    have hd : ∀ d, o.dst = some d → d ∈ dsts ops := fun d hd => List.mem_filterMap.2 ⟨o, by simpa using hl o List.mem_cons_self, hd⟩
    have hl' : ∀ o ∈ l, o ∈ ops := fun o ho => hl o (List.mem_cons_of_mem _ ho)
    unfold refRun at hr
    split at hr
    · exact refRun_same l _ h B hl' x (y.set hd) hr
    · split at hr
      · rename_i v h' he
        exact refRun_same l _ h' _ hl' ((x.more blockOf_more).trans (opE_same he)) (y.set hd) hr
      · cases hr

theorem expl_rel {ops : Array Oper} {size : Nat} {B : List Nat} {h0 : AH} {t0 : Tr Value} {ok : Tr Value → AH → Bool} {D : List Deferred} {R : Act → World → Prop} (hsel : Region.noSelect ops = true) (hnd : noDefer ops = true)
    (hok : ∀ t h a w, ok t h = true → Sat P i h w0 w → XRel i h.n size t a.tmps → a.defers = D → SameH B h0 h → SameT (dsts ops) t0 t → R a w) :
    ∀ (f M : Nat) (listed : Array Bool) (t : Tr Value) (h : AH) (a : Act) (w : World), Over ops listed M → Sat P i h w0 w → XRel i h.n size t a.tmps → a.defers = D → SameH B h0 h → SameT (dsts ops) t0 t →
      expl P ops size B ok f M t h = true → wpAny P .any ops (fun e a w => e = .normal ∧ R a w) f listed a w
  | 0, M, listed, t, h, a, w, vr, s, X, hd, x, y, he => by
    simp only [expl, Bool.and_eq_true, List.isEmpty_iff] at he
    exact ⟨List.eq_nil_iff_forall_not_mem.2 (fun j hj => by have := vr.ready hj; rw [he.1] at this; cases this), rfl, hok t h a w he.2 s X hd x y⟩
  | f + 1, M, listed, t, h, a, w, vr, s, X, hd, x, y, he => by
    have hdst : ∀ {j : Nat} {o : Oper}, ops[j]? = some o → ∀ d, o.dst = some d → d ∈ dsts ops := fun ho d hd => List.mem_filterMap.2 ⟨_, by simpa using Array.mem_of_getElem? ho, hd⟩
    unfold expl at he
    split at he
    · rename_i j hj
      obtain ⟨o, ho, hrdy, hfree⟩ := vr.pick hj
      split at he
      · rename_i t' ht'
        unfold explPure at ht'
        rw [Array.getElem?_toList] at ht'
        · rw [ho] at ht'
          simp only at ht'
          have hX := fun x hx => okOp_eval (a := a) (noDefer_spec hnd ho) X s.gi x hx
          obtain ⟨v, v', hy, hr, rfl⟩ : ∃ v v', Yields P ops o v' a ∧ VRel i h.n v v' ∧ t' = setT size o.dst v t := by
            split at ht'
            · rename_i hw
              injection ht' with ht'
              exact ⟨undef, undef, .inr ⟨wantedT_ne X hw, rfl⟩, VRel.undef _ _, ht'.symm⟩
            · rename_i hw
              split at ht'
              · rename_i v hv
                injection ht' with ht'
                obtain ⟨v', g1, g2⟩ := opP_sound o hX hv
                exact ⟨v, v', .inl ⟨wantedT_eq X hw, g1⟩, g2, ht'.symm⟩
              · cases ht'
          exact wpAny_first ho (Region.noSelect_spec hsel) (fun c a w hq => by cases hq.1) f listed a w hfree hrdy hy
            (expl_rel hsel hnd hok f _ _ _ h _ w (vr.add ho) s (X.put hr o.dst) (by rw [put_eq.2, hd]) x (y.set (hdst ho)) he)
      · cases he
    · split at he
      · rename_i hr
        exact wpAny_done (List.eq_nil_iff_forall_not_mem.2 (fun j hj => by have := vr.ready hj; rw [hr] at this; cases this)) ⟨rfl, hok t h a w he s X hd x y⟩ _
      · rename_i hne
        have hr0 : Region.ready .any ops listed ≠ [] := fun e => hne (List.eq_nil_iff_forall_not_mem.2 fun j hj => by have := vr.of_ready hj; rw [e] at this; cases this)
        refine wpAny_all rfl hr0 fun j hj => ?_
        have hj' := List.all_eq_true.1 he j (vr.ready hj)
        split at hj'
        · rename_i t' h' hone
          unfold explOne at hone
          rw [Array.getElem?_toList] at hone
          unfold wpOp
          cases ho : ops[j]? with
          | none => rw [ho] at hone; cases hone
          | some o =>
            rw [ho] at hone
            simp only at hone ⊢
            have hX := fun x hx => okOp_eval (a := a) (noDefer_spec hnd ho) X s.gi x hx
            split at hone
            · rename_i hw
              injection hone with hone
              obtain ⟨rfl, rfl⟩ := Prod.mk.inj hone
              rw [if_neg (by rw [wantedT_ne X hw]; simp)]
              exact expl_rel hsel hnd hok f _ _ _ _ _ w (vr.add ho) s (X.put (VRel.undef _ _) o.dst) (by rw [put_eq.2, hd]) x (y.set (hdst ho)) hj'
            · rename_i hw
              rw [if_pos (wantedT_eq X hw)]
              split at hone
              · rename_i v h1 hopE
                injection hone with hone
                obtain ⟨rfl, rfl⟩ := Prod.mk.inj hone
                obtain ⟨g0, w', v', g1, g2, g3⟩ := opE_sound s o hX hopE
                have X' : XRel i h1.n size t a.tmps := by rw [g0.n]; exact X
                have := expl_rel hsel hnd hok f _ _ _ _ _ w' (vr.add ho) g1 (X'.put g2 o.dst) (by rw [put_eq.2, hd]) (x.trans g0) (y.set (hdst ho)) hj'
                refine .inl ?_
                unfold Oper.wp
                rcases g3 with g3 | ⟨g3, rfl⟩
                · rw [g3]; exact this
                · rw [g3]; exact this
              · cases hone
        · cases hj'

theorem expl_sound {ops : Array Oper} {size : Nat} {B : List Nat} {t tR : Tr Value} {hR : AH} {fr : Frame} (s : Sat P i h w0 w) (X : XRel i h.n size t fr.tmps) (hsel : Region.noSelect ops = true) (hnd : noDefer ops = true)
    (hrun : refRun P ops size ops.toList t h [] = some (tR, hR, B)) (hx : expl P ops size B (agree (dsts ops) B tR hR) ops.size 0 t h = true) :
    wpAny P .any ops (fun e a w' => e = .normal ∧ (∃ i', i.le i' h.n ∧ Keep h hR ∧ Sat P i' hR w0 w' ∧ XRel i' hR.n size tR a.tmps ∧ a.defers = fr.defers)) ops.size (Array.replicate ops.size false) ⟨fr.tmps, fr.defers⟩ w.drew := by
  obtain ⟨g1, g2⟩ := refRun_same (t0 := t) ops.toList t h [] (fun o ho => by simpa using ho) (SameH.refl _ _) (fun _ _ => rfl) hrun
  refine expl_rel hsel hnd (h0 := h) (t0 := t) (D := fr.defers) (fun t1 h1 a w1 hag s1 X1 hd x y => ?_) _ 0 _ t h _ _ (Over.none ops) s.drew X rfl (SameH.refl _ _) (fun _ _ => rfl) hx
  simp only [agree, Bool.and_eq_true, List.all_eq_true] at hag
  obtain ⟨ha, hb⟩ := hag
  have hn : hR.n = h1.n := g1.n.trans x.n.symm
  refine ⟨i, Ren.le.refl _ _, ⟨g1.ro, by rw [g1.n]; exact Nat.le_refl _, g1.low⟩, s1.congr (fun b => ?_) hn (g1.ro.trans x.ro.symm), ⟨X1.1, fun j => ?_⟩, hd⟩
  · by_cases hB : b ∈ B
    · exact (eqO_eq (hb b hB)).symm
    · rw [g1.obj b hB, x.obj b hB]
  · rw [hn]
    by_cases hD : j ∈ dsts ops
    · rw [← eqV_eq (ha j hD)]; exact X1.2 j
    · rw [g2 j hD, ← y j hD]; exact X1.2 j

end
end Go.Proofs.Ev
