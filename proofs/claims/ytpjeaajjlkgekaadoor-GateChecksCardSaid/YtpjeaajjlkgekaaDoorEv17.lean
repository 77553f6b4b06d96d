/-
  AN EVALUATOR OF CLOSED CALLS, PART 17: regions whose order is drawn, with calls that make memory. It holds for every program; no statement is proved here.
-/
import Derived.Test.YtpjeaajjlkgekaaDoorEv16
noncomputable section
namespace Go.Proofs.Ev
open Go.RowKit
set_option linter.unusedVariables false
set_option linter.unusedSimpArgs false

abbrev CallMT := Nat → Array Value → AH → Option (Value × AH)
def callQM (P : Program) (call : CallMT) (f : Value) (args : Array Value) (h : AH) : Option (Value × AH) := match f with
  | .func (.func k) first captured => match funcT P k with
    | some fn => match fn.body with
      | some _ => call k (first ++ args ++ captured) h
      | none => none
    | none => none
  | _ => none
def opMG (P : Program) (call : CallMT) (ρ : Operand → Value) (o : Oper) (h : AH) : Option (Value × AH) := match o.op with
  | .call c => match c.callee with
    | .value f => callQM P call (ρ f) (c.args.map ρ) h
    | _ => opMA (opA P ρ o h)
  | _ => opMA (opA P ρ o h)
def explOneMG (P : Program) (call : CallMT) (ops : Array Oper) (size : Nat) (t : Tr Value) (h : AH) (j : Nat) : Option (Tr Value × AH) := match ops.toList[j]? with
  | some o => match wantedT o ops t with
    | false => some (setT size o.dst undef t, h)
    | true => match opMG P call (evT t) o h with
      | some (v, h') => some (setT size o.dst v t, h')
      | none => none
  | none => none
def explMG (P : Program) (call : CallMT) (ops : Array Oper) (size : Nat) : Nat → Nat → Tr Value → AH → Option (List (Tr Value × AH))
  | 0, M, t, h => match readyM M (tabOf ops) 0 with
    | [] => some [(t, h)]
    | _ => none
  | f + 1, M, t, h => match pickM M (tabOf ops) 0 with
    | some j => match explPure P ops size t h j with
      | some t' => explMG P call ops size f (addM M j) t' h
      | none => none
    | none => match readyM M (tabOf ops) 0 with
      | [] => some [(t, h)]
      | js => gather (fun j => match explOneMG P call ops size t h j with
        | some (t', h') => explMG P call ops size f (addM M j) t' h'
        | none => none) js
def drawManyG (P : Program) (call : CallMT) (st : AS) (t : Tr Value) (ds : List AD) (acs : List AF) (h : AH) (k : List Item) (ops : Array Oper) : R1 :=
  match explB ops with
  | true => drawMany2 st ds acs k (explMG P call ops st.size ops.size 0 t h)
  | false => .no

/-- A call along its one branch: what it made stays. -/
def doneM (k ro : Nat) : R1 → Option (Value × AH)
  | .done k' v h => match Nat.beq k' k with
    | true => some (v, { h with ro := ro })
    | false => none
  | _ => none
def callMem (st : St → R1) (P : Program) (fuel : Nat) : CallMT := fun k args h => doneM k h.ro (iter st fuel (start P k args h))
/-- What is known of calls first, then calls with flat answers, then all. -/
def callAny (a : CallT) (b : CallMT) : CallMT := fun k args h => match a k args h with
  | some v => some (v, h)
  | none => b k args h
def drawMem (P : Program) (vs : List GVar) (tab : TabT) (fuel : Nat) : Nat → DrawT
  | 0 => drawNo
  | n + 1 => drawOr (drawOf P (callTab vs tab (callOf P (drawMem P vs tab fuel n) fuel)))
    (drawManyG P (callAny (callTab vs tab (callOf P (drawMem P vs tab fuel n) fuel)) (callMem (step1 P (drawMem P vs tab fuel n)) P fuel)))

section
variable {P : Program} {w0 : World}

def CallMOk (P : Program) (call : CallMT) : Prop := ∀ (k : Nat) (args : Array Value) (h : AH) (v : Value) (h2 : AH), call k args h = some (v, h2) → ∀ (i : Ren) (w0 w : World) (args' : Array Value), Sat P i h w0 w → ARel i h.n args args' →
  Calls P k args' w (fun e w' => ∃ i' v', e = .returned v' ∧ i.le i' h.n ∧ Keep h h2 ∧ Sat P i' h2 w0 w' ∧ VRel i' h2.n v v')

theorem callM_run (hN : Named P) {w : World} {i : Ren} {h : AH} {ρ ρ' : Operand → Value} {o : Oper} {c : Call} {f : Operand} (hop : o.op = .call c) (hcb : c.callee = .value f)
    (hρ : ∀ x ∈ o.op.operands, VRel i h.n (ρ x) (ρ' x)) {call : CallMT} {v : Value × AH} (hv : callQM P call (ρ f) (c.args.map ρ) h = some v) :
    ∃ k args args', call k args h = some v ∧ ARel i h.n args args' ∧ ∀ w : World, (execOp ρ' o).run P w = .ok (.enter k args') w := by
  have hf := hρ f (by rw [hop]; simp [Op.operands, Call.operands, hcb])
  have hargs : ∀ x ∈ c.args, VRel i h.n (ρ x) (ρ' x) := fun x hx => hρ x (by rw [hop]; simp [Op.operands, Call.operands, hcb, hx])
  unfold callQM at hv
  split at hv
  · rename_i k first captured hfe
    rw [hfe] at hf
    rw [funcT_eq] at hv
    split at hv
    · rename_i fn hk
      split at hv
      · rename_i body hbody
        cases hfv : ρ' f with
        | func fn2 first2 captured2 =>
          rw [hfv] at hf
          cases hf with
          | one _ hv => simp [flat1] at hv
          | func _ _ _ _ _ _ hs1 hs2 hs3 hs4 =>
            refine ⟨k, _, _, hv, ((ARel.append ⟨hs1, hs2⟩ (ARel.map hargs)).append ⟨hs3, hs4⟩), fun w => ?_⟩
            have hn : ¬ fn.name = "runtime.NumGoroutine" := by simpa using hN k fn hk (by simp [hbody])
            have hb : ¬ fn.body = none := by intro hb; simp [hb] at hbody
            simp [execOp, hop, resolve, hcb, hfv, Deferred.ofValue, invoke, Ren.fn, callFunc, hk, hn, hb]
        | _ => rw [hfv] at hf; cases hf
      · cases hv
    · cases hv
  · cases hv

theorem opM_wpG (hN : Named P) {call : CallMT} (hC : CallMOk P call) {i : Ren} {h h' : AH} {ρ : Operand → Value} {a : Act} {o : Oper} (hρ : ∀ x ∈ o.op.operands, VRel i h.n (ρ x) (a.eval x)) {w : World} (s : Sat P i h w0 w) {v : Value}
    (hv : opMG P call ρ o h = some (v, h')) {K : Act → World → Prop} {Q : Exit → Act → World → Prop}
    (hK : ∀ i' v' w', i.le i' h.n → Keep h h' → Sat P i' h' w0 w' → VRel i' h'.n v v' → K (a.put o.dst v') w') : o.wp P a w K Q := by
  have viaA : opMA (opA P ρ o h) = some (v, h') → o.wp P a w K Q := fun hq => by
    have hrep := opA_rep hN s o hρ
    unfold Oper.wp
    generalize opA P ρ o h = r at hq hrep
    cases r with
    | val v1 h1 =>
      simp only [opMA, Option.some.injEq, Prod.mk.injEq] at hq
      obtain ⟨rfl, rfl⟩ := hq
      obtain ⟨i1, v', w1, g1, g2, g3, g4, g5⟩ := hrep
      rw [g1]
      exact hK i1 v' w1 g2 g5 g4 g3
    | skip h1 =>
      simp only [opMA, Option.some.injEq, Prod.mk.injEq] at hq
      obtain ⟨rfl, rfl⟩ := hq
      obtain ⟨i1, w1, g1, g2, g4, g5⟩ := hrep
      rw [g1]
      exact hK i1 _ w1 g2 g5 g4 (VRel.undef _ _)
    | _ => cases hq
  unfold opMG at hv
  split at hv
  · rename_i c hop
    split at hv
    · rename_i f hcb
      obtain ⟨k, args, args', g1, g2, g3⟩ := callM_run (w := w) hN hop hcb hρ hv
      unfold Oper.wp
      rw [g3]
      refine Calls.mono (hC k args h v h' g1 i w0 w args' s g2) fun e w' he => ?_
      obtain ⟨i', v', rfl, k1, k2, k3, k4⟩ := he
      exact hK i' v' w' k1 k2 k3 k4
    · exact viaA hv
  · exact viaA hv

theorem explM_relG (hN : Named P) {call : CallMT} (hC : CallMOk P call) {ops : Array Oper} {size : Nat} {D : List Deferred} {R : Act → World → Prop} (hsel : Region.noSelect ops = true) (hnd : noDefer ops = true) :
    ∀ (f M : Nat) (listed : Array Bool) (i : Ren) (t : Tr Value) (h : AH) (a : Act) (w : World) (L : List (Tr Value × AH)), Over ops listed M → Sat P i h w0 w → XRel i h.n size t a.tmps → a.defers = D → explMG P call ops size f M t h = some L →
      (∀ p ∈ L, ∀ i' a' w', i.le i' h.n → Keep h p.2 → Sat P i' p.2 w0 w' → XRel i' p.2.n size p.1 a'.tmps → a'.defers = D → R a' w') →
      wpAny P .any ops (fun e a w => e = .normal ∧ R a w) f listed a w
  | 0, M, listed, i, t, h, a, w, L, vr, s, X, hd, he, hR => by
    unfold explMG at he
    split at he
    · rename_i hr
      injection he with he
      subst he
      exact ⟨List.eq_nil_iff_forall_not_mem.2 (fun j hj => by have := vr.ready hj; rw [hr] at this; cases this), rfl, hR (t, h) List.mem_cons_self i a w (Ren.le.refl _ _) (Keep.refl _) s X hd⟩
    · cases he
  | f + 1, M, listed, i, t, h, a, w, L, vr, s, X, hd, he, hR => by
    unfold explMG at he
    split at he
    · rename_i j hj
      obtain ⟨o, ho, hrdy, hfree⟩ := vr.pick hj
      split at he
      · rename_i t' ht'
        unfold explPure at ht'
        rw [Array.getElem?_toList, ho] at ht'
        simp only at ht'
        have hX := fun x hx => okOp_eval (a := a) (noDefer_spec hnd ho) X s.gi x hx
        obtain ⟨v, v', hy, hr, rfl⟩ : ∃ v v', Yields P ops o v' a ∧ VRel i h.n v v' ∧ t' = setT size o.dst v t := by
          split at ht'
          · rename_i hw
            injection ht' with ht'
            exact ⟨undef, undef, .inr ⟨wantedT_ne X hw, rfl⟩, VRel.undef _ _, ht'.symm⟩
          · rename_i hw
            split at ht'
            · rename_i v hv
              injection ht' with ht'
              obtain ⟨v', g1, g2⟩ := opP_sound o hX hv
              exact ⟨v, v', .inl ⟨wantedT_eq X hw, g1⟩, g2, ht'.symm⟩
            · cases ht'
        exact wpAny_first ho (Region.noSelect_spec hsel) (fun c a w hq => by cases hq.1) f listed a w hfree hrdy hy
          (explM_relG hN hC hsel hnd f _ _ i _ h _ w L (vr.add ho) s (X.put hr o.dst) (by rw [put_eq.2, hd]) he hR)
      · cases he
    · split at he
      · rename_i hr
        injection he with he
        subst he
        exact wpAny_done (List.eq_nil_iff_forall_not_mem.2 (fun j hj => by have := vr.ready hj; rw [hr] at this; cases this)) ⟨rfl, hR (t, h) List.mem_cons_self i a w (Ren.le.refl _ _) (Keep.refl _) s X hd⟩ _
      · rename_i hne
        have hr0 : Region.ready .any ops listed ≠ [] := fun e => hne (List.eq_nil_iff_forall_not_mem.2 fun j hj => by have := vr.of_ready hj; rw [e] at this; cases this)
        refine wpAny_all rfl hr0 fun j hj => ?_
        obtain ⟨xs, hj', hsub⟩ := gather_mem he j (vr.ready hj)
        split at hj'
        · rename_i t' h' hone
          unfold explOneMG at hone
          rw [Array.getElem?_toList] at hone
          unfold wpOp
          cases ho : ops[j]? with
          | none => rw [ho] at hone; cases hone
          | some o =>
            rw [ho] at hone
            simp only at hone ⊢
            have hX := fun x hx => okOp_eval (a := a) (noDefer_spec hnd ho) X s.gi x hx
            split at hone
            · rename_i hw
              injection hone with hone
              obtain ⟨rfl, rfl⟩ := Prod.mk.inj hone
              rw [if_neg (by rw [wantedT_ne X hw]; simp)]
              exact explM_relG hN hC hsel hnd f _ _ i _ _ _ w xs (vr.add ho) s (X.put (VRel.undef _ _) o.dst) (by rw [put_eq.2, hd]) hj' (fun p hp => hR p (hsub p hp))
            · rename_i hw
              rw [if_pos (wantedT_eq X hw)]
              split at hone
              · rename_i v h1 hopM
                injection hone with hone
                obtain ⟨rfl, rfl⟩ := Prod.mk.inj hone
                refine .inl (opM_wpG hN hC hX s hopM fun i' v' w' g1 g2 g3 g4 => ?_)
                exact explM_relG hN hC hsel hnd f _ _ i' _ _ _ w' xs (vr.add ho) g3 ((X.mono g1 g2.n).put g4 o.dst) (by rw [put_eq.2, hd]) hj'
                  (fun p hp i2 a2 w2 k1 k2 k3 k4 k5 => hR p (hsub p hp) i2 a2 w2 (g1.trans k1 g2.n) (g2.trans k2) k3 k4 k5)
              · cases hone
        · cases hj'

theorem drawMany_relG (hN : Named P) (hM : P.follows .mixedOrders = true) {call : CallMT} (hC : CallMOk P call) {i : Ren} {cs : List Frame} {st : AS} {t : Tr Value} {ds : List AD} {acs : List AF} {h : AH} {k : List Item} {id : Nat} {ops : Array Oper} {fr : Frame} {fs : List Frame} {w : World}
    (S : SRel P i w0 cs ⟨⟨st, t, .code (.region id ops true) :: k, ds, false⟩, acs, h⟩ fr fs w) : RRel P i w0 cs h (lone fr fs w) (drawManyG P call st t ds acs h k ops) := by
  unfold drawManyG
  split
  · rename_i hB
    simp only [explB, Bool.and_eq_true] at hB
    have key : ∀ L, explMG P call ops st.size ops.size 0 t h = some L → ∃ p ∈ L, RRel P i w0 cs h (lone fr fs w) (nx st p.1 k ds acs p.2) := fun L hL =>
      region_rel_many hM S hB.2 (explM_relG hN hC hB.1 hB.2 _ 0 _ i t h _ _ L (Over.none ops) S.sat.drew S.f.tmps rfl hL
        (fun p hp i' a' w' g1 g2 g3 g4 g5 => ⟨p, hp, i', g1, g2, g3, g4, g5⟩))
    generalize explMG P call ops st.size ops.size 0 t h = r at key
    unfold drawMany2
    split
    · rename_i p
      obtain ⟨q, hq, hr⟩ := key [p] rfl
      rw [List.mem_singleton.1 hq] at hr
      exact hr
    · rename_i l _
      obtain ⟨q, hq, i', fr', fs', w', g⟩ := key l rfl
      exact ⟨_, List.mem_map.2 ⟨q, hq, rfl⟩, i', fr', fs', w', g⟩
    · trivial
  · trivial


theorem callMem_ok {st : St → R1} (hst : StepOk P st) (fuel : Nat) : CallMOk P (callMem st P fuel) := by
  intro k args h v h2 hv i w0 w args' s A
  unfold callMem doneM at hv
  split at hv
  · rename_i k' v1 h1 he
    split at hv
    · rename_i hk
      injection hv with hv
      obtain ⟨rfl, rfl⟩ := Prod.mk.inj hv
      intro cs
      have hr := iter_ok hst fuel i w0 cs _ _ cs w (start_rel s A k cs)
      rw [he] at hr
      obtain ⟨j, fr, w', v', g1, g2, g3, g4, g5, g6, g7⟩ := hr
      have hn : h.n ≤ h1.n := g7.n
      refine ⟨_, w', fr, ⟨j, v', rfl, g6, ⟨rfl, hn, fun b hb => g7.old b (Nat.lt_of_lt_of_le hb s.ro)⟩, ⟨g5.below, Nat.le_trans s.ro hn, g5.obj, g5.inj, s.glr, g5.idn⟩, g4⟩, g1, by rw [g2]; exact Nat.eq_of_beq_eq_true hk, g3⟩
    · cases hv
  · cases hv
theorem callAny_ok {a : CallT} {b : CallMT} (ha : CallOk P a) (hb : CallMOk P b) : CallMOk P (callAny a b) := by
  intro k args h v h2 hv i w0 w args' s A
  unfold callAny at hv
  split at hv
  · rename_i v1 he
    injection hv with hv
    obtain ⟨rfl, rfl⟩ := Prod.mk.inj hv
    obtain ⟨h1, h2⟩ := ha k args h _ he
    exact (h2 i w0 w args' s A).mono fun e w' ⟨q1, q2⟩ => ⟨i, _, q1, Ren.le.refl _ _, Keep.refl _, q2, VRel.of_flat _ _ _ h1⟩
  · exact hb k args h v h2 hv i w0 w args' s A
theorem drawMem_ok (hN : Named P) (hM : P.follows .mixedOrders = true) {vs : List GVar} {tab : TabT} (hT : TabOk P vs tab) (fuel : Nat) : ∀ n, DrawOk P (drawMem P vs tab fuel n)
  | 0 => drawNo_ok
  | n + 1 =>
    have hD := drawMem_ok hN hM hT fuel n
    have hC := callTab_ok hT (callOf_ok hN hD fuel)
    drawOr_ok (drawOf_ok hN hM hC) (fun i w0 cs st t ds acs h k id ops fr fs w S => drawMany_relG hN hM (callAny_ok hC (callMem_ok (fun i w0 cs s fr fs w S => step1_rel hN hD S) fuel)) S)
end
end Go.Proofs.Ev
