/-
  AN EVALUATOR OF CLOSED CALLS, PART 15: a call of which a contract is known is one step. It holds for every program; no statement is proved here.
-/
import Derived.Test.YtpjeaajjlkgekaaDoorEv14
noncomputable section
namespace Go.Proofs.Ev
open Go.RowKit
set_option linter.unusedVariables false
set_option linter.unusedSimpArgs false

/-- A package's variable: its block, its cells. -/
structure GVar where
  g : Nat
  cs : List Value
/-- The rows' types are not told: es says them. -/
def GVar.obj (es : Nat → Nat) (v : GVar) : Obj := .cells v.cs.toArray (es v.g)
/-- The variables hold what is said. -/
def Holds (vs : List GVar) (w : World) : Prop := ∀ v ∈ vs, ∃ ds e fr, w.heap[v.g]? = some (.cells ds e fr) ∧ v.cs.length ≤ ds.size ∧ (∀ j, j < v.cs.length → ds.getD j undef = v.cs.toArray.getD j undef) ∧ NF fr ds.size
def gOk (vs : List GVar) : Bool := vs.all fun v => Nat.blt v.g GL && v.cs.all flat
def gHeapT (es : Nat → Nat) : List GVar → Tr Obj → Tr Obj
  | [], t => t
  | v :: vs, t => gHeapT es vs (t.put v.g (v.obj es))
/-- The heap at first: the variables. -/
def gHeap (es : Nat → Nat) (vs : List GVar) : AH := { n := GL, t := gHeapT es vs .e, ro := GL }
def sameCells : Option Obj → List Value → Bool
  | some (.cells xs _ _), cs => eqLW eqW xs.toList cs
  | _, _ => false
def holdsB (vs : List GVar) (h : AH) : Bool := vs.all fun v => Nat.blt v.g GL && v.cs.all flat && (Nat.ble 1 v.cs.length) && sameCells (h.obj v.g) v.cs

/-- What is known of calls: the function, its arguments, what it returns. -/
abbrev TabT := Nat → List Value → Option Value

def hitCall (P : Program) (vs : List GVar) (tab : TabT) (st : AS) (tmps : Tr Value) (todo : List Item) (defers : List AD) (cs : List AF) (h : AH) (f : Nat) (args : Array Value) (h' : AH) : Option R1 :=
  match args.toList.all flat && holdsB vs h', tab f args.toList with
  | true, some v => some (back 0 (⟨st, tmps, todo, defers, false⟩ :: cs) v h')
  | _, _ => none
def hitOp (P : Program) (vs : List GVar) (tab : TabT) (st : AS) (tmps : Tr Value) (todo : List Item) (defers : List AD) (cs : List AF) (h : AH) (ops : Array Oper) (o : Oper) : Option R1 :=
  match wantedT o ops tmps, noDefer ops with
  | true, true => match opA P (evT tmps) o h with
    | .enter f args h' => hitCall P vs tab st tmps todo defers cs h f args h'
    | _ => none
  | _, _ => none
/-- Of the function of a call: is it in the table? -/
def calls (has : Nat → Bool) (o : Oper) : Bool := match o.op with
  | .call c => match c.callee with
    | .value (.func f) => has f
    | _ => false
  | _ => false
def hit (P : Program) (has : Nat → Bool) (vs : List GVar) (tab : TabT) : St → Option R1
  | ⟨⟨st, tmps, .inRegion ops (j :: rest) :: k, defers, false⟩, cs, h⟩ => match ops.toList[j]? with
    | some o => match calls has o with
      | true => hitOp P vs tab st tmps (.inRegion ops (j :: rest) :: k) defers cs h ops o
      | false => none
    | none => none
  | _ => none
def orElse1 : Option R1 → R1 → R1
  | some r, _ => r
  | none, r => r
def tabbed (P : Program) (has : Nat → Bool) (vs : List GVar) (tab : TabT) (st : St → R1) (s : St) : R1 := orElse1 (hit P has vs tab s) (st s)

def TabOk (P : Program) (vs : List GVar) (tab : TabT) : Prop := ∀ f args v, tab f args = some v → flat v = true ∧ ∀ w, Holds vs w → Calls P f args.toArray w fun e w' => e = .returned v ∧ Below w.heap.size w w'

/-- Where the first way stops, the second. -/
def drawOr (a b : DrawT) : DrawT := fun st t ds acs h k ops => match a st t ds acs h k ops with
  | .no => b st t ds acs h k ops
  | r => r
def drawM (P : Program) (fuel : Nat) : Nat → DrawT
  | 0 => drawNo
  | n + 1 => drawOr (drawOf P (callOf P (drawM P fuel n) fuel)) (drawMany P (callOf P (drawM P fuel n) fuel))

section
variable {P : Program} {w0 : World}

theorem drawOr_ok {a b : DrawT} (ha : DrawOk P a) (hb : DrawOk P b) : DrawOk P (drawOr a b) := by
  intro i w0 cs st t ds acs h k id ops fr fs w S
  have h1 := ha i w0 cs st t ds acs h k id ops fr fs w S
  unfold drawOr
  split
  · exact hb i w0 cs st t ds acs h k id ops fr fs w S
  · exact h1
theorem drawM_ok (hN : Named P) (hM : P.follows .mixedOrders = true) (fuel : Nat) : ∀ n, DrawOk P (drawM P fuel n)
  | 0 => drawNo_ok
  | n + 1 => drawOr_ok (drawOf_ok hN hM (callOf_ok hN (drawM_ok hN hM fuel n) fuel)) (fun i w0 cs st t ds acs h k id ops fr fs w S => drawMany_rel hN hM (callOf_ok hN (drawM_ok hN hM fuel n) fuel) S)

theorem IRel.unique {i : Ren} {n : Nat} {it a b : Item} (h : IRel i n it a) (k : IRel i n it b) : a = b := by
  cases it with
  | inRangeFunc l => rw [h.1, k.1]
  | endRangeFunc l => rw [h.1, k.1]
  | call => exact h.elim
  | extern => exact h.elim
  | _ => exact (show a = _ from h).trans (show b = _ from k).symm
theorem TRel.unique {i : Ren} {n : Nat} : ∀ {its as bs : List Item}, TRel i n its as → TRel i n its bs → as = bs
  | [], [], [], _, _ => rfl
  | _ :: _, _ :: _, _ :: _, h, k => by rw [IRel.unique h.1 k.1, TRel.unique h.2 k.2]
  | [], _ :: _, _, h, _ => h.elim
  | _ :: _, [], _, h, _ => h.elim
  | [], [], _ :: _, _, k => k.elim
  | _ :: _, _ :: _, [], _, k => k.elim
theorem DsRel.unique {i : Ren} {n : Nat} : ∀ {a : List AD} {f g : List Deferred}, DsRel i n a f → DsRel i n a g → f = g
  | [], [], [], _, _ => rfl
  | .mk r :: _, _ :: _, _ :: _, h, k => by
    rw [h.1.1, k.1.1, DsRel.unique h.2 k.2]
  | .call f xs ys :: _, _ :: _, _ :: _, h, k => by
    obtain ⟨⟨x1, y1, rfl, A1, B1⟩, h2⟩ := h
    obtain ⟨⟨x2, y2, rfl, A2, B2⟩, k2⟩ := k
    have e1 : x1 = x2 := ext_getD (A1.1.symm.trans A2.1) fun j _ => (A2.2 j).unique _ (A1.2 j)
    have e2 : y1 = y2 := ext_getD (B1.1.symm.trans B2.1) fun j _ => (B2.2 j).unique _ (B1.2 j)
    rw [e1, e2, DsRel.unique h2 k2]
  | [], _ :: _, _, h, _ => h.elim
  | _ :: _, [], _, h, _ => h.elim
  | [], [], _ :: _, _, k => k.elim
  | _ :: _, _ :: _, [], _, k => k.elim
theorem MRel.unique {i : Ren} {n : Nat} : ∀ {p : Option (Value × Bool)} {r : Bool} {f g : FrameMode}, MRel i n p r f → MRel i n p r g → f = g
  | _, false, _, _, h, k => (show _ = _ from h).trans (show _ = _ from k).symm
  | none, true, _, _, h, k => (show _ = _ from h).trans (show _ = _ from k).symm
  | some (v, r), true, _, _, h, k => by
    obtain ⟨v1, rfl, h1⟩ := h
    obtain ⟨v2, rfl, h2⟩ := k
    rw [h2.unique _ h1]
theorem FRel.unique {i : Ren} {n : Nat} {a : AF} {f g : Frame} (h : FRel i n a f) (k : FRel i n a g) : f = g := by
  obtain ⟨f1, f2, f3, f4, f5, f6, f7⟩ := f
  obtain ⟨g1, g2, g3, g4, g5, g6, g7⟩ := g
  have e1 : f1 = g1 := h.fn.trans k.fn.symm
  have e2 : f2 = g2 := ext_getD (h.tmps.1.trans k.tmps.1.symm) fun j _ => (k.tmps.2 j).unique _ (h.tmps.2 j)
  have e3 : f3 = g3 := TRel.unique h.todo k.todo
  have e4 : f4 = g4 := DsRel.unique h.defers k.defers
  have e5 : f5 = g5 := MRel.unique h.mode k.mode
  have e6 : f6 = g6 := h.kind.trans k.kind.symm
  have e7 : f7 = g7 := h.round.trans k.round.symm
  subst e1 e2 e3 e4 e5 e6 e7
  rfl

/-- A call that leaves what there was. -/
theorem Sat.later {i : Ren} {h : AH} {w w' : World} (s : Sat P i h w0 w) (hb : Below w.heap.size w w') : Sat P i h w0 w' := by
  refine ⟨s.below.trans ⟨hb.os, hb.tape, hb.output, hb.size, fun k hk => hb.block k (Nat.lt_of_lt_of_le hk s.size)⟩, s.ro, fun b o ho => ?_, s.inj, s.glr, s.idn⟩
  obtain ⟨h1, h2, h3, h4⟩ := s.obj b o ho
  exact ⟨h1, h2, Nat.lt_of_lt_of_le h3 hb.size, fun hs => by
    obtain ⟨o', g1, g2⟩ := h4 hs
    exact ⟨o', by rw [hb.block _ h3]; exact g1, g2⟩⟩

theorem gHeapT_get (es : Nat → Nat) : ∀ (vs : List GVar) (t : Tr Obj) (b : Nat) (o : Obj), (gHeapT es vs t).get b = some o → t.get b = some o ∨ ∃ v ∈ vs, v.g = b ∧ o = v.obj es
  | [], t, b, o, h => .inl h
  | v :: vs, t, b, o, h => by
    rcases gHeapT_get es vs _ b o h with h | ⟨u, hu, h1, h2⟩
    · rw [Tr.get_put] at h
      by_cases e : b = v.g
      · rw [if_pos e] at h
        injection h with h
        exact .inr ⟨v, List.mem_cons_self, e.symm, h.symm⟩
      · rw [if_neg e] at h
        exact .inl h
    · exact .inr ⟨u, List.mem_cons_of_mem _ hu, h1, h2⟩
def idRen : Ren := { blk := fun b => b, grow := fun _ => 0 }
/-- The types of the variables' rows. -/
def typesOf (w : World) (b : Nat) : Nat := match w.heap[b]? with
  | some (.cells _ e _) => e
  | _ => 0
/-- The variables, as a heap to begin with. -/
theorem satG {vs : List GVar} (hv : gOk vs = true) {w : World} (hw : Holds vs w) : Sat P idRen (gHeap (typesOf w) vs) w w := by
  refine ⟨Below.refl _ _, Nat.le_refl _, fun b o hb => ?_, fun b c o o' _ _ _ _ he => he, Nat.le_refl _, fun _ _ => rfl⟩
  rcases gHeapT_get _ vs .e b o hb with h | ⟨v, hm, rfl, rfl⟩
  · simp [Tr.get] at h
  · have hg := List.all_eq_true.1 hv v hm
    simp only [Bool.and_eq_true, List.all_eq_true] at hg
    have hlt : v.g < GL := by simpa [Nat.blt_eq] using hg.1
    obtain ⟨ds, e, fr, h1, h2, h3, h4⟩ := hw v hm
    have he : typesOf w v.g = e := by simp [typesOf, h1]
    refine ⟨hlt, fun h => by omega, (Array.getElem?_eq_some_iff.1 h1).1, fun _ => ⟨_, h1, ds, fr, by rw [he], by simpa using h2, fun j hj => ?_, h4, fun h => by cases h⟩⟩
    have hj' : j < v.cs.length := by simpa using hj
    rw [h3 j hj']
    refine VRel.of_flat _ _ _ (hg.2 _ ?_)
    simp [hj']
theorem sameCells_eq {o : Option Obj} {cs : List Value} (h : sameCells o cs = true) : ∃ e fr, o = some (.cells cs.toArray e fr) := by
  unfold sameCells at h
  split at h
  · rename_i xs e fr
    have e1 : xs.toList = cs := eqLW_eq (fun _ _ => eqW_eq) h
    exact ⟨e, fr, by rw [← e1]⟩
  · cases h
theorem holds_of {vs : List GVar} {i : Ren} {h : AH} {w : World} (s : Sat P i h w0 w) (hb : holdsB vs h = true) : Holds vs w := fun v hm => by
  have hg := List.all_eq_true.1 hb v hm
  simp only [Bool.and_eq_true, List.all_eq_true] at hg
  obtain ⟨⟨⟨g1, g2⟩, g3⟩, g4⟩ := hg
  have hlt : v.g < GL := by simpa [Nat.blt_eq] using g1
  have hle : 1 ≤ v.cs.length := Nat.le_of_ble_eq_true g3
  obtain ⟨e0, fr0, ho⟩ := sameCells_eq g4
  obtain ⟨h1, h2, h3, h4⟩ := s.obj v.g _ ho
  have hsol : solid (.cells v.cs.toArray e0 fr0) = true := by simp only [solid, bne_iff_ne]; simp; intro e; rw [e] at hle; simp at hle
  obtain ⟨o', q1, ds, fr, rfl, q2, q3, q4, q5⟩ := h4 hsol
  rw [s.idn v.g hlt] at q1
  refine ⟨ds, e0, fr, q1, by simpa using q2, fun j hj => ?_, q4⟩
  have hj' : j < v.cs.toArray.size := by simpa using hj
  exact VRel.eq_of_flat (g2 _ (by simp [hj])) (q3 j hj')

theorem tabbed_ok (hN : Named P) {has : Nat → Bool} {vs : List GVar} {tab : TabT} (hT : TabOk P vs tab) {st : St → R1} (hst : StepOk P st) : StepOk P (tabbed P has vs tab st) := by
  intro i w0 cs s fr fs w S
  unfold tabbed
  cases hh : hit P has vs tab s with
  | none => exact hst i w0 cs s fr fs w S
  | some r =>
    show RRel P i w0 cs s.h (lone fr fs w) r
    unfold hit at hh
    split at hh
    · rename_i st' tmps ops j rest k defers acs h
      split at hh
      · rename_i o ho
        split at hh
        · unfold hitOp at hh
          split at hh
          · rename_i hw hnd
            split at hh
            · rename_i f args h' hop
              unfold hitCall at hh
              split at hh
              · rename_i v hfl0 htab
                rw [Bool.and_eq_true] at hfl0
                obtain ⟨hfl, hgs⟩ := hfl0
                injection hh with hh
                subst hh
                have hs1 : step1 P drawNo ⟨⟨st', tmps, .inRegion ops (j :: rest) :: k, defers, false⟩, acs, h⟩ = .next ⟨AF.enter P f args, ⟨st', tmps, .inRegion ops (j :: rest) :: k, defers, false⟩ :: acs, h'⟩ := by
                  simp only [step1, itemStep, regStep, ho, operStep, hw, hnd, hop, operGo]
                have hr := step1_rel hN drawNo_ok S
                rw [hs1] at hr
                obtain ⟨i', fr', fs', w', g1, g2, g3, g4⟩ := hr
                have A : ARel i' h'.n args args := ARel.refl_of args fun v hv => VRel.of_flat _ _ _ (List.all_eq_true.1 hfl v (by simpa using hv))
                have hfr : fr' = Frame.enter P f args .normal := FRel.unique g2.f (FRel.enter A f)
                subst hfr
                obtain ⟨hv, hc⟩ := hT f args.toList v htab
                have hc' := hc w' (holds_of g2.sat hgs)
                simp only [Array.toArray_toList] at hc'
                obtain ⟨e, w2, fr2, ⟨he, hb⟩, f1, f2, f3⟩ := hc' fs'
                subst he
                refine RRel.from g1 g3 g4 ?_
                exact back_rel (fr := fr2) (g2.c.mono (Ren.le.refl _ _) (Nat.le_refl _)) (VRel.of_flat _ _ _ hv) (g2.sat.later hb) (Ren.le.refl _ _) (Keep.refl _)
                  (fun c fs'' hf => by subst hf; exact f1.trans (.one (step_leave_returned f3)))
                  (fun hnil => by cases hnil)
              · cases hh
            · cases hh
          · cases hh
        · cases hh
      · cases hh
    · cases hh

/-- Within a region, too, the table is asked first. -/
def callTab (vs : List GVar) (tab : TabT) (call : CallT) : CallT := fun k args h => match args.toList.all flat && holdsB vs h, tab k args.toList with
  | true, some v => some v
  | _, _ => call k args h
theorem callTab_ok {vs : List GVar} {tab : TabT} (hT : TabOk P vs tab) {call : CallT} (hC : CallOk P call) : CallOk P (callTab vs tab call) := by
  intro k args h v hv
  unfold callTab at hv
  split at hv
  · rename_i v' hfl0 htab
    rw [Bool.and_eq_true] at hfl0
    obtain ⟨hfl, hgs⟩ := hfl0
    injection hv with hv
    subst hv
    obtain ⟨h1, h2⟩ := hT k args.toList _ htab
    refine ⟨h1, fun i w0 w args' s A => ?_⟩
    have e : args' = args := ext_getD A.1.symm fun j hj => by
      have hj' : j < args.size := by rw [A.1]; exact hj
      have hm : args.getD j undef ∈ args.toList := by simp [hj']
      exact VRel.eq_of_flat (List.all_eq_true.1 hfl _ hm) (A.2 j)
    subst e
    have h3 := h2 w (holds_of s hgs)
    simp only [Array.toArray_toList] at h3
    exact h3.mono fun e w' h => ⟨h.1, s.later h.2⟩
  · exact hC k args h v hv
def drawTab (P : Program) (vs : List GVar) (tab : TabT) (fuel : Nat) : Nat → DrawT
  | 0 => drawNo
  | n + 1 => drawOr (drawOf P (callTab vs tab (callOf P (drawTab P vs tab fuel n) fuel))) (drawMany P (callTab vs tab (callOf P (drawTab P vs tab fuel n) fuel)))
theorem drawTab_ok (hN : Named P) (hM : P.follows .mixedOrders = true) {vs : List GVar} {tab : TabT} (hT : TabOk P vs tab) (fuel : Nat) : ∀ n, DrawOk P (drawTab P vs tab fuel n)
  | 0 => drawNo_ok
  | n + 1 =>
    have hC := callTab_ok hT (callOf_ok hN (drawTab_ok hN hM hT fuel n) fuel)
    drawOr_ok (drawOf_ok hN hM hC) (fun i w0 cs st t ds acs h k id ops fr fs w S => drawMany_rel hN hM hC S)
end
end Go.Proofs.Ev
