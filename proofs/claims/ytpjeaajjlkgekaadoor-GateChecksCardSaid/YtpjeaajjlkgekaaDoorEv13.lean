/-
  AN EVALUATOR OF CLOSED CALLS, PART 13: regions whose order is drawn, evaluated; calls run to their end; what a call that was run to its end says. It holds for every program; no statement is proved here.
-/
import Derived.Test.YtpjeaajjlkgekaaDoorEv12b
noncomputable section
namespace Go.Proofs.Ev
open Go.RowKit
set_option linter.unusedVariables false
set_option linter.unusedSimpArgs false

abbrev CallT := Nat → Array Value → AH → Option Value
abbrev DrawT := AS → Tr Value → List AD → List AF → AH → List Item → Array Oper → R1

def callQ (P : Program) (call : CallT) (f : Value) (args : Array Value) (h : AH) : Option Value := match f with
  | .func (.func k) first captured => match funcT P k with
    | some fn => match fn.body with
      | some _ => call k (first ++ args ++ captured) h
      | none => none
    | none => none
  | _ => none

def opC (P : Program) (call : CallT) (ρ : Operand → Value) (o : Oper) (h : AH) : Option Value := match o.op with
  | .call c => match c.callee with
    | .value f => callQ P call (ρ f) (c.args.map ρ) h
    | _ => opQ P ρ o h
  | _ => opQ P ρ o h

def quietRun (P : Program) (call : CallT) (ops : Array Oper) (size : Nat) (h : AH) : List Oper → Tr Value → Option (Tr Value)
  | [], t => some t
  | o :: rest, t => match wantedT o ops t with
    | false => quietRun P call ops size h rest (setT size o.dst undef t)
    | true => match opC P call (evT t) o h with
      | some v => quietRun P call ops size h rest (setT size o.dst v t)
      | none => none

def tailRun (P : Program) (ops : Array Oper) (size : Nat) : List Oper → Tr Value → AH → Option (Tr Value × AH)
  | [], t, h => some (t, h)
  | o :: rest, t, h => match wantedT o ops t with
    | false => tailRun P ops size rest (setT size o.dst undef t) h
    | true => match opA P (evT t) o h with
      | .val v h' => tailRun P ops size rest (setT size o.dst v t) h'
      | .skip h' => tailRun P ops size rest (setT size o.dst undef t) h'
      | _ => none

def writes (o : Oper) : Bool := match o.op with
  | .store _ _ _ => true
  | .mapUpdate _ _ _ _ => true
  | .call c => match c.callee with
    | .builtin .copy => true
    | _ => false
  | _ => false
def tailAt : List Oper → Nat → Option Nat
  | [], _ => none
  | o :: rest, k => match writes o with
    | true => some k
    | false => tailAt rest (k + 1)

def quietB (ops : Array Oper) : Bool := Region.lexB .any ops && noDefer ops
def tailB (ops : Array Oper) (n : Nat) : Bool := Region.lexTailB .any ops n && noDefer ops

def drawQuiet (st : AS) (ds : List AD) (acs : List AF) (h : AH) (k : List Item) : Option (Tr Value) → R1
  | some t => nx st t k ds acs h
  | none => .no
def drawTail2 (st : AS) (ds : List AD) (acs : List AF) (k : List Item) : Option (Tr Value × AH) → R1
  | some p => nx st p.1 k ds acs p.2
  | none => .no
def noCall : CallT := fun _ _ _ => none
def drawTail (P : Program) (st : AS) (t : Tr Value) (ds : List AD) (acs : List AF) (h : AH) (k : List Item) (ops : Array Oper) (n : Nat) : R1 :=
  match quietRun P noCall ops st.size h (ops.toList.take n) t with
  | some t' => drawTail2 st ds acs k (tailRun P ops st.size (ops.toList.drop n) t' h)
  | none => .no
def drawExpl (P : Program) (st : AS) (t : Tr Value) (ds : List AD) (acs : List AF) (h : AH) (k : List Item) (ops : Array Oper) : R1 :=
  match explB ops, refRun P ops st.size ops.toList t h [] with
  | true, some (tR, hR, B) => match expl P ops st.size B (agree (dsts ops) B tR hR) ops.size 0 t h with
    | true => nx st tR k ds acs hR
    | false => .no
  | _, _ => .no
def opMA : OpA → Option (Value × AH)
  | .val v h' => some (v, h')
  | .skip h' => some (undef, h')
  | _ => none
def callM (h : AH) : Option Value → Option (Value × AH)
  | some v => some (v, h)
  | none => none
def opM (P : Program) (call : CallT) (ρ : Operand → Value) (o : Oper) (h : AH) : Option (Value × AH) := match o.op with
  | .call c => match c.callee with
    | .value f => callM h (callQ P call (ρ f) (c.args.map ρ) h)
    | _ => opMA (opA P ρ o h)
  | _ => opMA (opA P ρ o h)
def explOneM (P : Program) (call : CallT) (ops : Array Oper) (size : Nat) (t : Tr Value) (h : AH) (j : Nat) : Option (Tr Value × AH) := match ops.toList[j]? with
  | some o => match wantedT o ops t with
    | false => some (setT size o.dst undef t, h)
    | true => match opM P call (evT t) o h with
      | some (v, h') => some (setT size o.dst v t, h')
      | none => none
  | none => none
def gather {α β : Type} (f : β → Option (List α)) : List β → Option (List α)
  | [] => some []
  | b :: bs => match f b, gather f bs with
    | some xs, some ys => some (xs ++ ys)
    | _, _ => none
def explM (P : Program) (call : CallT) (ops : Array Oper) (size : Nat) : Nat → Nat → Tr Value → AH → Option (List (Tr Value × AH))
  | 0, M, t, h => match readyM M (tabOf ops) 0 with
    | [] => some [(t, h)]
    | _ => none
  | f + 1, M, t, h => match pickM M (tabOf ops) 0 with
    | some j => match explPure P ops size t h j with
      | some t' => explM P call ops size f (addM M j) t' h
      | none => none
    | none => match readyM M (tabOf ops) 0 with
      | [] => some [(t, h)]
      | js => gather (fun j => match explOneM P call ops size t h j with
        | some (t', h') => explM P call ops size f (addM M j) t' h'
        | none => none) js
def makes (o : Oper) : Bool := match o.op with
  | .alloc _ => true
  | .box _ _ => true
  | .buildSlice _ _ _ => true
  | .makeSlice _ _ _ => true
  | .makeMap _ _ => true
  | .range _ _ => true
  | .next _ _ => true
  | .convert _ _ _ => true
  | .call c => match c.callee with
    | .builtin .append => true
    | _ => false
  | _ => false
def drawMany2 (st : AS) (ds : List AD) (acs : List AF) (k : List Item) : Option (List (Tr Value × AH)) → R1
  | some [p] => nx st p.1 k ds acs p.2
  | some l => .many (l.map fun p => ⟨⟨st, p.1, k, ds, false⟩, acs, p.2⟩)
  | none => .no
def drawMany (P : Program) (call : CallT) (st : AS) (t : Tr Value) (ds : List AD) (acs : List AF) (h : AH) (k : List Item) (ops : Array Oper) : R1 :=
  match explB ops with
  | true => drawMany2 st ds acs k (explM P call ops st.size ops.size 0 t h)
  | false => .no
def drawOf (P : Program) (call : CallT) : DrawT := fun st t ds acs h k ops =>
  match tailAt ops.toList 0 with
  | some n => match tailB ops n with
    | true => drawTail P st t ds acs h k ops n
    | false => drawExpl P st t ds acs h k ops
  | none => match ops.toList.any makes with
    | true => drawMany P call st t ds acs h k ops
    | false => match quietB ops with
      | true => drawQuiet st ds acs h k (quietRun P call ops st.size h ops.toList t)
      | false => drawMany P call st t ds acs h k ops

def iter (st : St → R1) : Nat → St → R1
  | 0, s => st s
  | k + 1, s => match iter st k s with
    | .next s' => iter st k s'
    | r => r

def flatDone (k : Nat) : R1 → Option Value
  | .done k' v _ => match Nat.beq k' k, flat v with
    | true, true => some v
    | _, _ => none
  | _ => none
def start (P : Program) (k : Nat) (args : Array Value) (h : AH) : St := ⟨AF.enter P k args, [], { h with ro := h.n }⟩
def callOf (P : Program) (draw : DrawT) (fuel : Nat) : CallT := fun k args h => flatDone k (iter (step1 P draw) fuel (start P k args h))
def drawNo : DrawT := fun _ _ _ _ _ _ _ => .no
def drawN (P : Program) (fuel : Nat) : Nat → DrawT
  | 0 => drawNo
  | n + 1 => drawOf P (callOf P (drawN P fuel n) fuel)

section
variable {P : Program} {w0 : World}

/-- What a call says that was run to its end. -/
def CallOk (P : Program) (call : CallT) : Prop := ∀ (k : Nat) (args : Array Value) (h : AH) (v : Value), call k args h = some v → flat v = true ∧ ∀ (i : Ren) (w0 w : World) (args' : Array Value), Sat P i h w0 w → ARel i h.n args args' →
  Calls P k args' w (fun e w' => e = .returned v ∧ Sat P i h w0 w')

theorem call_run (hN : Named P) {w : World} {i : Ren} {h : AH} {ρ ρ' : Operand → Value} {o : Oper} {c : Call} {f : Operand} (hop : o.op = .call c) (hcb : c.callee = .value f)
    (hρ : ∀ x ∈ o.op.operands, VRel i h.n (ρ x) (ρ' x)) {call : CallT} {v : Value} (hv : callQ P call (ρ f) (c.args.map ρ) h = some v) :
    ∃ k args args', call k args h = some v ∧ ARel i h.n args args' ∧ ∀ w : World, (execOp ρ' o).run P w = .ok (.enter k args') w := by
  have hf := hρ f (by rw [hop]; simp [Op.operands, Call.operands, hcb])
  have hargs : ∀ x ∈ c.args, VRel i h.n (ρ x) (ρ' x) := fun x hx => hρ x (by rw [hop]; simp [Op.operands, Call.operands, hcb, hx])
  unfold callQ at hv
  split at hv
  · rename_i k first captured hfe
    rw [hfe] at hf
    rw [funcT_eq] at hv
    split at hv
    · rename_i fn hk
      split at hv
      · rename_i body hbody
        cases hfv : ρ' f with
        | func fn2 first2 captured2 =>
          rw [hfv] at hf
          cases hf with
          | one _ hv => simp [flat1] at hv
          | func _ _ _ _ _ _ hs1 hs2 hs3 hs4 =>
            refine ⟨k, _, _, hv, ((ARel.append ⟨hs1, hs2⟩ (ARel.map hargs)).append ⟨hs3, hs4⟩), fun w => ?_⟩
            have hn : ¬ fn.name = "runtime.NumGoroutine" := by simpa using hN k fn hk (by simp [hbody])
            have hb : ¬ fn.body = none := by intro hb; simp [hb] at hbody
            simp [execOp, hop, resolve, hcb, hfv, Deferred.ofValue, invoke, Ren.fn, callFunc, hk, hn, hb]
        | _ => rw [hfv] at hf; cases hf
      · cases hv
    · cases hv
  · cases hv

theorem opC_sound (hN : Named P) {call : CallT} (hC : CallOk P call) {i : Ren} {h : AH} {ρ : Operand → Value} {a : Act} {o : Oper} (hρ : ∀ x ∈ o.op.operands, VRel i h.n (ρ x) (a.eval x)) {w : World} (s : Sat P i h w0 w) {v : Value} (hv : opC P call ρ o h = some v) :
    ∃ v', (∀ w', Sat P i h w0 w' → o.quietAt P a (fun w' => Sat P i h w0 w') w' v') ∧ VRel i h.n v v' := by
  have viaQ : opQ P ρ o h = some v → ∃ v', (∀ w', Sat P i h w0 w' → o.quietAt P a (fun w' => Sat P i h w0 w') w' v') ∧ VRel i h.n v v' := fun hq => by
    obtain ⟨v', g1, g2⟩ := opQ_sound s o hρ hq
    refine ⟨v', fun w' s' => ?_, g2⟩
    obtain ⟨v'', g3, g4⟩ := opQ_sound s' o hρ hq
    have := g2.unique _ g4
    subst this
    unfold Oper.quietAt
    rw [g3]
    exact ⟨rfl, rfl⟩
  unfold opC at hv
  split at hv
  · rename_i c hop
    split at hv
    · rename_i f hcb
      obtain ⟨k, args, args', g1, g2, g3⟩ := call_run (w := w) hN hop hcb hρ hv
      refine ⟨v, fun w' s' => ?_, ?_⟩
      · unfold Oper.quietAt
        rw [g3]
        exact ⟨rfl, (hC k args h v g1).2 i w0 w' args' s' g2⟩
      · exact VRel.of_flat _ _ _ (hC k args h v g1).1
    · exact viaQ hv
  · exact viaQ hv

theorem quiet_rel (hN : Named P) {call : CallT} (hC : CallOk P call) {i : Ren} {h : AH} {ops : Array Oper} {size : Nat} {w : World} (s : Sat P i h w0 w) {D : List Deferred} {t' : Tr Value} :
    ∀ (l : List Oper) (t : Tr Value) (a : Act), (∀ o ∈ l, okOp o = true) → XRel i h.n size t a.tmps → a.defers = D → quietRun P call ops size h l t = some t' →
      wpQuiet P ops (fun w' => Sat P i h w0 w') (fun a' => XRel i h.n size t' a'.tmps ∧ a'.defers = D) l a
  | [], t, a, _, X, hd, hq => by
    simp only [quietRun, Option.some.injEq] at hq
    subst hq
    exact ⟨X, hd⟩
  | o :: l, t, a, hok, X, hd, hq => by
    unfold wpQuiet
    unfold quietRun at hq
    split at hq
    · rename_i hw
      rw [if_neg (by rw [wantedT_ne X hw]; simp)]
      exact quiet_rel hN hC s l _ _ (fun x hx => hok x (List.mem_cons_of_mem _ hx)) (X.put (VRel.undef _ _) o.dst) (by rw [put_eq.2, hd]) hq
    · rename_i hw
      rw [if_pos (wantedT_eq X hw)]
      split at hq
      · rename_i v hv
        obtain ⟨v', g1, g2⟩ := opC_sound hN hC (okOp_eval (hok o (List.mem_cons_self)) X s.gi) s hv
        exact ⟨v', g1, quiet_rel hN hC s l _ _ (fun x hx => hok x (List.mem_cons_of_mem _ hx)) (X.put g2 o.dst) (by rw [put_eq.2, hd]) hq⟩
      · cases hq

theorem opC_noCall {ρ : Operand → Value} {o : Oper} {h : AH} {v : Value} (hv : opC P noCall ρ o h = some v) : opQ P ρ o h = some v := by
  unfold opC at hv
  split at hv
  · split at hv
    · unfold callQ at hv
      split at hv
      · split at hv
        · split at hv <;> cases hv
        · cases hv
      · cases hv
    · exact hv
  · exact hv

theorem still_rel {i : Ren} {h : AH} {ops : Array Oper} {size : Nat} {w : World} (s : Sat P i h w0 w) {t' : Tr Value} {Q : Act → Prop} :
    ∀ (l : List Oper) (t : Tr Value) (a : Act), (∀ o ∈ l, okOp o = true) → XRel i h.n size t a.tmps → quietRun P noCall ops size h l t = some t' →
      (∀ a', XRel i h.n size t' a'.tmps → a'.defers = a.defers → Q a') → wpStill P ops w Q l a
  | [], t, a, _, X, hq, hQ => by
    simp only [quietRun, Option.some.injEq] at hq
    subst hq
    exact hQ a X rfl
  | o :: l, t, a, hok, X, hq, hQ => by
    unfold wpStill
    unfold quietRun at hq
    split at hq
    · rename_i hw
      rw [if_neg (by rw [wantedT_ne X hw]; simp)]
      exact still_rel s l _ _ (fun x hx => hok x (List.mem_cons_of_mem _ hx)) (X.put (VRel.undef _ _) o.dst) hq (fun a' h1 h2 => hQ a' h1 (by rw [h2, put_eq.2]))
    · rename_i hw
      rw [if_pos (wantedT_eq X hw)]
      split at hq
      · rename_i v hv
        obtain ⟨v', g1, g2⟩ := opQ_sound s o (okOp_eval (a := a) (hok o (List.mem_cons_self)) X s.gi) (opC_noCall hv)
        unfold Oper.still
        rw [g1]
        exact ⟨rfl, still_rel s l _ _ (fun x hx => hok x (List.mem_cons_of_mem _ hx)) (X.put g2 o.dst) hq (fun a' h1 h2 => hQ a' h1 (by rw [h2, put_eq.2]))⟩
      · cases hq

theorem tail_rel (hN : Named P) {ops : Array Oper} {size : Nat} {t' : Tr Value} {h' : AH} {R : Act → World → Prop} :
    ∀ (l : List Oper) (i : Ren) (h : AH) (t : Tr Value) (a : Act) (w : World), Sat P i h w0 w → (∀ o ∈ l, okOp o = true) → XRel i h.n size t a.tmps → tailRun P ops size l t h = some (t', h') →
      (∀ i' a' w', i.le i' h.n → Keep h h' → Sat P i' h' w0 w' → XRel i' h'.n size t' a'.tmps → a'.defers = a.defers → R a' w') → wpList P ops (fun e a w => e = .normal ∧ R a w) l a w
  | [], i, h, t, a, w, s, _, X, hq, hR => by
    simp only [tailRun, Option.some.injEq, Prod.mk.injEq] at hq
    obtain ⟨rfl, rfl⟩ := hq
    exact ⟨rfl, hR i a w (Ren.le.refl _ _) (Keep.refl _) s X rfl⟩
  | o :: l, i, h, t, a, w, s, hok, X, hq, hR => by
    have hok' : ∀ o ∈ l, okOp o = true := fun x hx => hok x (List.mem_cons_of_mem _ hx)
    unfold wpList
    unfold tailRun at hq
    split at hq
    · rename_i hw
      rw [if_neg (by rw [wantedT_ne X hw]; simp)]
      exact tail_rel hN l i h _ _ w s hok' (X.put (VRel.undef _ _) o.dst) hq (fun i' a' w' h1 h2 h3 h4 h5 => hR i' a' w' h1 h2 h3 h4 (by rw [h5, put_eq.2]))
    · rename_i hw
      rw [if_pos (wantedT_eq X hw)]
      refine .inl ?_
      have hrep := opA_rep hN s o (okOp_eval (a := a) (hok o (List.mem_cons_self)) X s.gi)
      unfold Oper.wp
      split at hq
      · rename_i v h1 he
        rw [he] at hrep
        obtain ⟨i1, v', w1, g1, g2, g3, g4, g5⟩ := hrep
        rw [g1]
        exact tail_rel hN l i1 h1 _ _ w1 g4 hok' ((X.mono g2 g5.n).put g3 o.dst) hq (fun i' a' w' h1 h2 h3 h4 h5 => hR i' a' w' (g2.trans h1 g5.n) (g5.trans h2) h3 h4 (by rw [h5, put_eq.2]))
      · rename_i h1 he
        rw [he] at hrep
        obtain ⟨i1, w1, g1, g2, g4, g5⟩ := hrep
        rw [g1]
        exact tail_rel hN l i1 h1 _ _ w1 g4 hok' ((X.mono g2 g5.n).put (VRel.undef _ _) o.dst) hq (fun i' a' w' h1 h2 h3 h4 h5 => hR i' a' w' (g2.trans h1 g5.n) (g5.trans h2) h3 h4 (by rw [h5, put_eq.2]))
      · cases hq

/-- From an order, whatever it is, to the steps of the machine. -/
theorem region_rel (hM : P.follows .mixedOrders = true) {i : Ren} {cs : List Frame} {st : AS} {t t' : Tr Value} {ds : List AD} {acs : List AF} {h h' : AH} {k : List Item} {id : Nat} {ops : Array Oper} {fr : Frame} {fs : List Frame} {w : World}
    (S : SRel P i w0 cs ⟨⟨st, t, .code (.region id ops true) :: k, ds, false⟩, acs, h⟩ fr fs w) (hnd : noDefer ops = true)
    (hgo : wpAny P .any ops (fun e a w' => e = .normal ∧ (∃ i', i.le i' h.n ∧ Keep h h' ∧ Sat P i' h' w0 w' ∧ XRel i' h'.n st.size t' a.tmps ∧ a.defers = fr.defers)) ops.size (Array.replicate ops.size false) ⟨fr.tmps, fr.defers⟩ w.drew) :
    RRel P i w0 cs h (lone fr fs w) (nx st t' k ds acs h') := by
  obtain ⟨it', k', h1, h2, h3⟩ := S.run
  obtain rfl : it' = .code (.region id ops true) := h1
  have hs := stepR_region_draw (P := P) (b := fr) (a := ⟨fr.tmps, fr.defers⟩) (k := k') (cs := fs) (w := w) (ops := ops) (id := id)
  rw [← h3] at hs
  have hw := wpAny_sound ops.size (w.tape w.drawn (.order fr.fn id)) _ _ _ hgo
  have hsch : Region.schedule (P.follows .mixedOrders) ops (w.tape w.drawn (.order fr.fn id)) = Region.linearise.go .any ops ops.size (w.tape w.drawn (.order fr.fn id)) (Array.replicate ops.size false) [] := by
    simp only [Region.schedule, hM, Bool.true_or, if_true]
    rfl
  rw [hsch] at hs
  obtain ⟨a', w', ⟨i', g1, g2, g3, g4, g5⟩, hst⟩ := wp_opsR hnd _ _ _ hw fr k' fs
  have F := S.f.mono g1 g2.n
  refine ⟨i', _, fs, w', .head hs hst, ⟨⟨F.fn, g4, h2.mono g1 g2.n, ?_, F.dlt, rfl, F.kind, F.round, F.rlt⟩, S.c.mono g1 g2.n, g3⟩, g1, g2⟩
  have D := F.defers
  rw [← g5] at D
  exact D

theorem region_rel_many (hM : P.follows .mixedOrders = true) {i : Ren} {cs : List Frame} {st : AS} {t : Tr Value} {ds : List AD} {acs : List AF} {h : AH} {k : List Item} {id : Nat} {ops : Array Oper} {fr : Frame} {fs : List Frame} {w : World} {L : List (Tr Value × AH)}
    (S : SRel P i w0 cs ⟨⟨st, t, .code (.region id ops true) :: k, ds, false⟩, acs, h⟩ fr fs w) (hnd : noDefer ops = true)
    (hgo : wpAny P .any ops (fun e a w' => e = .normal ∧ (∃ p ∈ L, ∃ i', i.le i' h.n ∧ Keep h p.2 ∧ Sat P i' p.2 w0 w' ∧ XRel i' p.2.n st.size p.1 a.tmps ∧ a.defers = fr.defers)) ops.size (Array.replicate ops.size false) ⟨fr.tmps, fr.defers⟩ w.drew) :
    ∃ p ∈ L, RRel P i w0 cs h (lone fr fs w) (nx st p.1 k ds acs p.2) := by
  obtain ⟨it', k', h1, h2, h3⟩ := S.run
  obtain rfl : it' = .code (.region id ops true) := h1
  have hs := stepR_region_draw (P := P) (b := fr) (a := ⟨fr.tmps, fr.defers⟩) (k := k') (cs := fs) (w := w) (ops := ops) (id := id)
  rw [← h3] at hs
  have hw := wpAny_sound ops.size (w.tape w.drawn (.order fr.fn id)) _ _ _ hgo
  have hsch : Region.schedule (P.follows .mixedOrders) ops (w.tape w.drawn (.order fr.fn id)) = Region.linearise.go .any ops ops.size (w.tape w.drawn (.order fr.fn id)) (Array.replicate ops.size false) [] := by
    simp only [Region.schedule, hM, Bool.true_or, if_true]
    rfl
  rw [hsch] at hs
  obtain ⟨a', w', ⟨p, hp, i', g1, g2, g3, g4, g5⟩, hst⟩ := wp_opsR hnd _ _ _ hw fr k' fs
  have F := S.f.mono g1 g2.n
  refine ⟨p, hp, i', _, fs, w', .head hs hst, ⟨⟨F.fn, g4, h2.mono g1 g2.n, ?_, F.dlt, rfl, F.kind, F.round, F.rlt⟩, S.c.mono g1 g2.n, g3⟩, g1, g2⟩
  have D := F.defers
  rw [← g5] at D
  exact D

theorem opM_wp (hN : Named P) {call : CallT} (hC : CallOk P call) {i : Ren} {h h' : AH} {ρ : Operand → Value} {a : Act} {o : Oper} (hρ : ∀ x ∈ o.op.operands, VRel i h.n (ρ x) (a.eval x)) {w : World} (s : Sat P i h w0 w) {v : Value}
    (hv : opM P call ρ o h = some (v, h')) {K : Act → World → Prop} {Q : Exit → Act → World → Prop}
    (hK : ∀ i' v' w', i.le i' h.n → Keep h h' → Sat P i' h' w0 w' → VRel i' h'.n v v' → K (a.put o.dst v') w') : o.wp P a w K Q := by
  have viaA : opMA (opA P ρ o h) = some (v, h') → o.wp P a w K Q := fun hq => by
    have hrep := opA_rep hN s o hρ
    unfold Oper.wp
    generalize opA P ρ o h = r at hq hrep
    cases r with
    | val v1 h1 =>
      simp only [opMA, Option.some.injEq, Prod.mk.injEq] at hq
      obtain ⟨rfl, rfl⟩ := hq
      obtain ⟨i1, v', w1, g1, g2, g3, g4, g5⟩ := hrep
      rw [g1]
      exact hK i1 v' w1 g2 g5 g4 g3
    | skip h1 =>
      simp only [opMA, Option.some.injEq, Prod.mk.injEq] at hq
      obtain ⟨rfl, rfl⟩ := hq
      obtain ⟨i1, w1, g1, g2, g4, g5⟩ := hrep
      rw [g1]
      exact hK i1 _ w1 g2 g5 g4 (VRel.undef _ _)
    | _ => cases hq
  unfold opM at hv
  split at hv
  · rename_i c hop
    split at hv
    · rename_i f hcb
      cases hq : callQ P call (ρ f) (c.args.map ρ) h with
      | none => rw [hq] at hv; cases hv
      | some v1 =>
        rw [hq] at hv
        simp only [callM, Option.some.injEq, Prod.mk.injEq] at hv
        obtain ⟨rfl, rfl⟩ := hv
        obtain ⟨k, args, args', g1, g2, g3⟩ := call_run (w := w) hN hop hcb hρ hq
        unfold Oper.wp
        rw [g3]
        obtain ⟨g4, g5⟩ := hC k args h v1 g1
        refine Calls.mono (g5 i w0 w args' s g2) fun e w' he => ?_
        obtain ⟨rfl, s'⟩ := he
        exact hK i v1 w' (Ren.le.refl _ _) (Keep.refl _) s' (VRel.of_flat _ _ _ g4)
    · exact viaA hv
  · exact viaA hv

theorem gather_mem {α β : Type} {f : β → Option (List α)} : ∀ {bs : List β} {L : List α}, gather f bs = some L → ∀ b ∈ bs, ∃ xs, f b = some xs ∧ ∀ x ∈ xs, x ∈ L
  | [], L, _, b, hb => by simp at hb
  | c :: bs, L, h, b, hb => by
    unfold gather at h
    split at h
    · rename_i xs ys h1 h2
      injection h with h
      subst h
      rcases List.mem_cons.1 hb with hb | hb
      · subst hb
        exact ⟨xs, h1, fun x hx => List.mem_append_left _ hx⟩
      · obtain ⟨zs, h3, h4⟩ := gather_mem h2 b hb
        exact ⟨zs, h3, fun x hx => List.mem_append_right _ (h4 x hx)⟩
    · cases h

theorem explM_rel (hN : Named P) {call : CallT} (hC : CallOk P call) {ops : Array Oper} {size : Nat} {D : List Deferred} {R : Act → World → Prop} (hsel : Region.noSelect ops = true) (hnd : noDefer ops = true) :
    ∀ (f M : Nat) (listed : Array Bool) (i : Ren) (t : Tr Value) (h : AH) (a : Act) (w : World) (L : List (Tr Value × AH)), Over ops listed M → Sat P i h w0 w → XRel i h.n size t a.tmps → a.defers = D → explM P call ops size f M t h = some L →
      (∀ p ∈ L, ∀ i' a' w', i.le i' h.n → Keep h p.2 → Sat P i' p.2 w0 w' → XRel i' p.2.n size p.1 a'.tmps → a'.defers = D → R a' w') →
      wpAny P .any ops (fun e a w => e = .normal ∧ R a w) f listed a w
  | 0, M, listed, i, t, h, a, w, L, vr, s, X, hd, he, hR => by
    unfold explM at he
    split at he
    · rename_i hr
      injection he with he
      subst he
      exact ⟨List.eq_nil_iff_forall_not_mem.2 (fun j hj => by have := vr.ready hj; rw [hr] at this; cases this), rfl, hR (t, h) List.mem_cons_self i a w (Ren.le.refl _ _) (Keep.refl _) s X hd⟩
    · cases he
  | f + 1, M, listed, i, t, h, a, w, L, vr, s, X, hd, he, hR => by
    unfold explM at he
    split at he
    · rename_i j hj
      obtain ⟨o, ho, hrdy, hfree⟩ := vr.pick hj
      split at he
      · rename_i t' ht'
        unfold explPure at ht'
        rw [Array.getElem?_toList, ho] at ht'
        simp only at ht'
        have hX := fun x hx => okOp_eval (a := a) (noDefer_spec hnd ho) X s.gi x hx
        obtain ⟨v, v', hy, hr, rfl⟩ : ∃ v v', Yields P ops o v' a ∧ VRel i h.n v v' ∧ t' = setT size o.dst v t := by
          split at ht'
          · rename_i hw
            injection ht' with ht'
            exact ⟨undef, undef, .inr ⟨wantedT_ne X hw, rfl⟩, VRel.undef _ _, ht'.symm⟩
          · rename_i hw
            split at ht'
            · rename_i v hv
              injection ht' with ht'
              obtain ⟨v', g1, g2⟩ := opP_sound o hX hv
              exact ⟨v, v', .inl ⟨wantedT_eq X hw, g1⟩, g2, ht'.symm⟩
            · cases ht'
        exact wpAny_first ho (Region.noSelect_spec hsel) (fun c a w hq => by cases hq.1) f listed a w hfree hrdy hy
          (explM_rel hN hC hsel hnd f _ _ i _ h _ w L (vr.add ho) s (X.put hr o.dst) (by rw [put_eq.2, hd]) he hR)
      · cases he
    · split at he
      · rename_i hr
        injection he with he
        subst he
        exact wpAny_done (List.eq_nil_iff_forall_not_mem.2 (fun j hj => by have := vr.ready hj; rw [hr] at this; cases this)) ⟨rfl, hR (t, h) List.mem_cons_self i a w (Ren.le.refl _ _) (Keep.refl _) s X hd⟩ _
      · rename_i hne
        have hr0 : Region.ready .any ops listed ≠ [] := fun e => hne (List.eq_nil_iff_forall_not_mem.2 fun j hj => by have := vr.of_ready hj; rw [e] at this; cases this)
        refine wpAny_all rfl hr0 fun j hj => ?_
        obtain ⟨xs, hj', hsub⟩ := gather_mem he j (vr.ready hj)
        split at hj'
        · rename_i t' h' hone
          unfold explOneM at hone
          rw [Array.getElem?_toList] at hone
          unfold wpOp
          cases ho : ops[j]? with
          | none => rw [ho] at hone; cases hone
          | some o =>
            rw [ho] at hone
            simp only at hone ⊢
            have hX := fun x hx => okOp_eval (a := a) (noDefer_spec hnd ho) X s.gi x hx
            split at hone
            · rename_i hw
              injection hone with hone
              obtain ⟨rfl, rfl⟩ := Prod.mk.inj hone
              rw [if_neg (by rw [wantedT_ne X hw]; simp)]
              exact explM_rel hN hC hsel hnd f _ _ i _ _ _ w xs (vr.add ho) s (X.put (VRel.undef _ _) o.dst) (by rw [put_eq.2, hd]) hj' (fun p hp => hR p (hsub p hp))
            · rename_i hw
              rw [if_pos (wantedT_eq X hw)]
              split at hone
              · rename_i v h1 hopM
                injection hone with hone
                obtain ⟨rfl, rfl⟩ := Prod.mk.inj hone
                refine .inl (opM_wp hN hC hX s hopM fun i' v' w' g1 g2 g3 g4 => ?_)
                exact explM_rel hN hC hsel hnd f _ _ i' _ _ _ w' xs (vr.add ho) g3 ((X.mono g1 g2.n).put g4 o.dst) (by rw [put_eq.2, hd]) hj'
                  (fun p hp i2 a2 w2 k1 k2 k3 k4 k5 => hR p (hsub p hp) i2 a2 w2 (g1.trans k1 g2.n) (g2.trans k2) k3 k4 k5)
              · cases hone
        · cases hj'

theorem drawMany_rel (hN : Named P) (hM : P.follows .mixedOrders = true) {call : CallT} (hC : CallOk P call) {i : Ren} {cs : List Frame} {st : AS} {t : Tr Value} {ds : List AD} {acs : List AF} {h : AH} {k : List Item} {id : Nat} {ops : Array Oper} {fr : Frame} {fs : List Frame} {w : World}
    (S : SRel P i w0 cs ⟨⟨st, t, .code (.region id ops true) :: k, ds, false⟩, acs, h⟩ fr fs w) : RRel P i w0 cs h (lone fr fs w) (drawMany P call st t ds acs h k ops) := by
  unfold drawMany
  split
  · rename_i hB
    simp only [explB, Bool.and_eq_true] at hB
    have key : ∀ L, explM P call ops st.size ops.size 0 t h = some L → ∃ p ∈ L, RRel P i w0 cs h (lone fr fs w) (nx st p.1 k ds acs p.2) := fun L hL =>
      region_rel_many hM S hB.2 (explM_rel hN hC hB.1 hB.2 _ 0 _ i t h _ _ L (Over.none ops) S.sat.drew S.f.tmps rfl hL
        (fun p hp i' a' w' g1 g2 g3 g4 g5 => ⟨p, hp, i', g1, g2, g3, g4, g5⟩))
    generalize explM P call ops st.size ops.size 0 t h = r at key
    unfold drawMany2
    split
    · rename_i p
      obtain ⟨q, hq, hr⟩ := key [p] rfl
      rw [List.mem_singleton.1 hq] at hr
      exact hr
    · rename_i l _
      obtain ⟨q, hq, i', fr', fs', w', g⟩ := key l rfl
      exact ⟨_, List.mem_map.2 ⟨q, hq, rfl⟩, i', fr', fs', w', g⟩
    · trivial
  · trivial

theorem drawOf_ok (hN : Named P) (hM : P.follows .mixedOrders = true) {call : CallT} (hC : CallOk P call) : DrawOk P (drawOf P call) := by
  intro i w0 cs st t ds acs h k id ops fr fs w S
  unfold drawOf
  split
  · rename_i n hn
    split
    · rename_i hB
      unfold drawTail
      split
      · rename_i t1 hq
        unfold drawTail2
        split
        · rename_i p hp
          obtain ⟨t', h'⟩ := p
          simp only [tailB, Bool.and_eq_true] at hB
          obtain ⟨hlex, hnd⟩ := hB
          refine region_rel hM S hnd ?_
          have hokl : ∀ o ∈ ops.toList, okOp o = true := List.all_eq_true.1 hnd
          simp only [Region.lexTailB, Bool.and_eq_true, decide_eq_true_eq] at hlex
          obtain ⟨⟨⟨⟨hsel, hn⟩, hs⟩, hc⟩, hlex⟩ := hlex
          have hsz : ops.toList.length = ops.size := by simp
          have htl : (ops.toList.take n).length = n := by rw [List.length_take]; omega
          have hdl : (ops.toList.drop n).length = ops.size - n := by simp
          have inv0 : HeadInv .any ops n (Array.replicate ops.size false) :=
            ⟨by simp, fun j oj _ hl => (by rw [getD_replicate_false] at hl; cases hl), fun t _ ht => getD_in (by simpa using ht) (getD_replicate_false _ _)⟩
          have hst := still_rel (Q := fun a' => wpList P ops (fun e a w' => e = .normal ∧ (∃ i', i.le i' h.n ∧ Keep h h' ∧ Sat P i' h' w0 w' ∧ XRel i' h'.n st.size t' a.tmps ∧ a.defers = fr.defers)) (ops.toList.drop n) a' w.drew) S.sat.drew (ops.toList.take n) t ⟨fr.tmps, fr.defers⟩ (fun o ho => hokl o (List.mem_of_mem_take ho)) S.f.tmps hq
            (fun a' X hd => tail_rel hN (ops.toList.drop n) i h t1 a' w.drew S.sat.drew (fun o ho => hokl o (List.mem_of_mem_drop ho)) X hp
              (fun i' a'' w' g1 g2 g3 g4 g5 => ⟨i', g1, g2, g3, g4, by rw [g5, hd]⟩))
          have H := wpAnyL_lex (md := .any) (g := ops.size - n) hsel hs hc hn (ops.toList.take n) 0 _ ⟨fr.tmps, fr.defers⟩ (fun j hj => by
            have hj' : j < n := by rw [htl] at hj; exact hj
            simp [hj']) (by simpa using htl) inv0 (by rw [htl]; exact hlex) hst
          have := wpAny_of_head (g := ops.size - n) (fun listed a' hL => by
            have := wpAny_of_seq (md := .any) (ops.toList.drop n) n listed a' w.drew (fun j => by simp [List.getElem?_drop]) (by rw [hdl]; exact hL.1) hL.2
            rwa [hdl] at this) _ _ _ H
          rw [htl, show n + (ops.size - n) = ops.size by omega] at this
          exact this
        · trivial
      · trivial
    · unfold drawExpl
      split
      · rename_i tR hR B hB hrun
        split
        · rename_i hx
          simp only [explB, Bool.and_eq_true] at hB
          refine region_rel hM S hB.2 ?_
          exact expl_sound S.sat S.f.tmps hB.1 hB.2 hrun hx
        · trivial
      · trivial
  · split
    · exact drawMany_rel hN hM hC S
    split
    case h_2 => exact drawMany_rel hN hM hC S
    · rename_i hB
      unfold drawQuiet
      split
      · rename_i t' hq
        simp only [quietB, Bool.and_eq_true, Region.lexB] at hB
        obtain ⟨⟨hsel, hlex⟩, hnd⟩ := hB
        refine region_rel hM S hnd ?_
        have hokl : ∀ o ∈ ops.toList, okOp o = true := List.all_eq_true.1 hnd
        have h1 := quiet_rel hN hC S.sat (D := fr.defers) ops.toList t ⟨fr.tmps, fr.defers⟩ hokl S.f.tmps rfl hq
        have h2 := wpAnyQ_lex (C := fun w' => Sat P i h w0 w') (md := .any) hsel ops.toList 0 (Array.replicate ops.size false) ⟨fr.tmps, fr.defers⟩ (by simp) (by simpa using hlex) h1
        refine wpAny_of_quiet (Q := fun a' => XRel i h.n st.size t' a'.tmps ∧ a'.defers = fr.defers) (fun a w' hw' hQ => ⟨rfl, i, Ren.le.refl _ _, Keep.refl _, hw', hQ.1, hQ.2⟩) _ _ _ _ S.sat.drew ?_
        simpa using h2
      · trivial

/-! ### Runs -/
theorem RRel.from {i i' : Ren} {cs : List Frame} {h h' : AH} {m m' : Machine} (hs : Steps P m m') (hle : i.le i' h.n) (K : Keep h h') {r : R1} (H : RRel P i' w0 cs h' m' r) : RRel P i w0 cs h m r := by
  cases r with
  | next s =>
    obtain ⟨j, fr, fs, w, g1, g2, g3, g4⟩ := H
    exact ⟨j, fr, fs, w, hs.trans g1, g2, hle.trans g3 K.n, K.trans g4⟩
  | done k v h =>
    obtain ⟨j, fr, w, v', g1, g2, g3, g4, g5, g6, g7⟩ := H
    exact ⟨j, fr, w, v', hs.trans g1, g2, g3, g4, g5, hle.trans g6 K.n, K.trans g7⟩
  | many l =>
    obtain ⟨s, hsl, j, fr, fs, w, g1, g2, g3, g4⟩ := H
    exact ⟨s, hsl, j, fr, fs, w, hs.trans g1, g2, hle.trans g3 K.n, K.trans g4⟩
  | no => trivial

def StepOk (P : Program) (st : St → R1) : Prop := ∀ (i : Ren) (w0 : World) (cs : List Frame) (s : St) (fr : Frame) (fs : List Frame) (w : World), SRel P i w0 cs s fr fs w → RRel P i w0 cs s.h (lone fr fs w) (st s)

theorem iter_ok {st : St → R1} (hst : StepOk P st) : ∀ k, StepOk P (iter st k)
  | 0 => hst
  | k + 1 => fun i w0 cs s fr fs w S => by
    have h1 := iter_ok hst k i w0 cs s fr fs w S
    unfold iter
    split
    · rename_i s' he
      rw [he] at h1
      obtain ⟨j, fr', fs', w', g1, g2, g3, g4⟩ := h1
      exact (iter_ok hst k j w0 cs s' fr' fs' w' g2).from g1 g3 g4
    · exact h1

theorem start_rel {i : Ren} {h : AH} {w : World} (s : Sat P i h w0 w) {args args' : Array Value} (A : ARel i h.n args args') (k : Nat) (cs : List Frame) :
    SRel P i w0 cs (start P k args h) (Frame.enter P k args' .normal) cs w :=
  ⟨FRel.enter A k, rfl, ⟨s.below, Nat.le_refl _, s.obj, s.inj, Nat.le_trans s.glr s.ro, s.idn⟩⟩

theorem callOf_ok (hN : Named P) {draw : DrawT} (hD : DrawOk P draw) (fuel : Nat) : CallOk P (callOf P draw fuel) := by
  intro k args h v hv
  unfold callOf flatDone at hv
  split at hv
  · rename_i k' v1 h' he
    split at hv
    · rename_i hk hf
      injection hv with hv
      subst hv
      refine ⟨hf, fun i w0 w args' s A cs => ?_⟩
      have hr := iter_ok (st := step1 P draw) (fun i w0 cs s fr fs w S => step1_rel hN hD S) fuel i w0 cs _ _ cs w (start_rel s A k cs)
      rw [he] at hr
      obtain ⟨j, fr, w', v', g1, g2, g3, g4, g5, g6, g7⟩ := hr
      have hv' := VRel.eq_of_flat hf g4
      subst hv'
      exact ⟨_, w', fr, ⟨rfl, s.back g5 g6 g7.n g7.old⟩, g1, by rw [g2]; exact Nat.eq_of_beq_eq_true hk, g3⟩
    · cases hv
  · cases hv

theorem drawNo_ok : DrawOk P drawNo := fun _ _ _ _ _ _ _ _ _ _ _ _ _ _ _ => trivial

theorem drawN_ok (hN : Named P) (hM : P.follows .mixedOrders = true) (fuel : Nat) : ∀ n, DrawOk P (drawN P fuel n)
  | 0 => drawNo_ok
  | n + 1 => drawOf_ok hN hM (callOf_ok hN (drawN_ok hN hM fuel n) fuel)

/-- Runs on until the end, along every branch. -/
def goAll (st : St → R1) (p : Nat → Value → Bool) (k : Nat) : Nat → St → Bool
  | 0, _ => false
  | n + 1, s => match iter st k s with
    | .next s' => goAll st p k n s'
    | .done f v _ => p f v
    | .many l => l.all (goAll st p k n)
    | .no => false

theorem goAll_ok {st : St → R1} (hst : StepOk P st) {p : Nat → Value → Bool} {k : Nat} : ∀ (n : Nat) (i : Ren) (cs : List Frame) (s : St) (fr : Frame) (fs : List Frame) (w : World), SRel P i w0 cs s fr fs w → goAll st p k n s = true →
    ∃ i' fr' w' v v' h', Steps P (lone fr fs w) (lone fr' cs w') ∧ p fr'.fn v = true ∧ fr'.leaving P w' (.returned v') ∧ VRel i' h'.n v v' ∧ Sat P i' h' w0 w'
  | 0, _, _, _, _, _, _, _, h => by cases h
  | n + 1, i, cs, s, fr, fs, w, S, h => by
    have hr := iter_ok hst k i w0 cs s fr fs w S
    unfold goAll at h
    split at h
    · rename_i s' he
      rw [he] at hr
      obtain ⟨j, fr', fs', w', g1, g2, g3, g4⟩ := hr
      obtain ⟨i2, fr2, w2, v, v', h', f1, f2⟩ := goAll_ok hst n j cs s' fr' fs' w' g2 h
      exact ⟨i2, fr2, w2, v, v', h', g1.trans f1, f2⟩
    · rename_i f v h' he
      rw [he] at hr
      obtain ⟨j, fr', w', v', g1, g2, g3, g4, g5, g6, g7⟩ := hr
      subst g2
      exact ⟨j, fr', w', v, v', h', g1, h, g3, g4, g5⟩
    · rename_i l he
      rw [he] at hr
      obtain ⟨s', hsl, j, fr', fs', w', g1, g2, g3, g4⟩ := hr
      obtain ⟨i2, fr2, w2, v, v', h', f1, f2⟩ := goAll_ok hst n j cs s' fr' fs' w' g2 (List.all_eq_true.1 h s' hsl)
      exact ⟨i2, fr2, w2, v, v', h', g1.trans f1, f2⟩
    · cases h

def none0 : AH := { n := GL, t := .e, ro := GL }
theorem sat0 (i : Ren) (hi : ∀ b, b < GL → i.blk b = b) (w : World) : Sat P i none0 w w :=
  ⟨Below.refl _ _, Nat.le_refl _, fun b o h => by simp [none0, AH.obj, Tr.get] at h, fun b c o o' h => by simp [none0, AH.obj, Tr.get] at h, Nat.le_refl _, hi⟩

/-- What the end of a run is asked. -/
def endsIn (f : Nat) (p : Value → Bool) (k : Nat) (v : Value) : Bool := match Nat.beq k f, flat v with
  | true, true => p v
  | _, _ => false

/-- **A CLOSED CALL**: what the kernel computes of it is what it does, from every world. -/
theorem closed_call (hN : Named P) (hM : P.follows .mixedOrders = true) {f : Nat} {args : Array Value} {p : Value → Bool} (lvl fuel k n : Nat) (hargs : args.toList.all flat = true)
    (h : goAll (step1 P (drawN P fuel lvl)) (endsIn f p) k n (start P f args none0) = true) (w : World) :
    Calls P f args w (fun e w' => (∃ v, e = .returned v ∧ p v = true) ∧ Below w.heap.size w w') := by
  intro cs
  let i : Ren := { blk := fun b => b, grow := fun _ => 0 }
  have A : ARel i none0.n args args := ARel.refl_of args fun v hv => VRel.of_flat _ _ _ (List.all_eq_true.1 hargs v (by simpa using hv))
  obtain ⟨i', fr', w', v, v', h', g1, g2, g3, g4, g5⟩ := goAll_ok (fun i w0 cs s fr fs w S => step1_rel hN (drawN_ok hN hM fuel lvl) S) n i cs _ _ cs w (start_rel (sat0 i (fun _ _ => rfl) w) A f cs) h
  unfold endsIn at g2
  split at g2
  · rename_i hk hf
    have := VRel.eq_of_flat hf g4
    subst this
    exact ⟨_, w', fr', ⟨⟨_, rfl, g2⟩, g5.below⟩, g1, Nat.eq_of_beq_eq_true hk, g3⟩
  · cases g2

end
end Go.Proofs.Ev
