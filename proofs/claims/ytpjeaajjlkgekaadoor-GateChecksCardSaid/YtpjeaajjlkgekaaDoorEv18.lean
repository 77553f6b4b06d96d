/-
  AN EVALUATOR OF CLOSED CALLS, PART 18: regions whose order is drawn: loads of what was there come first where nothing that was there is written. It holds for every program; no statement is proved here.
-/
import Derived.Test.YtpjeaajjlkgekaaDoorEv17
import Derived.OrdersHeld
noncomputable section
namespace Go.Proofs.Ev
open Go.RowKit
set_option linter.unusedVariables false
set_option linter.unusedSimpArgs false

def isLoad (o : Oper) : Bool := match o.op with
  | .load _ _ => true
  | _ => false
def heldKind (o : Oper) : Bool := pureKind o || isLoad o
def tabFromH (ops : Array Oper) : List Oper → Nat → List (Nat × Nat × Bool)
  | [], _ => []
  | o :: rest, j => (maskOf (depsOf o), (match heldKind o with | true => maskOf (nearOf ops o j ops.toList 0) | false => 0), heldKind o) :: tabFromH ops rest (j + 1)
def tabOfH (ops : Array Oper) : List (Nat × Nat × Bool) := tabFromH ops ops.toList 0
theorem tabFromH_get {ops : Array Oper} : ∀ (l : List Oper) (k j : Nat), (tabFromH ops l k)[j]? = (l[j]?).map fun o => (maskOf (depsOf o), (match heldKind o with | true => maskOf (nearOf ops o (k + j) ops.toList 0) | false => 0), heldKind o)
  | [], k, j => by simp [tabFromH]
  | o :: l, k, 0 => by simp [tabFromH]
  | o :: l, k, j + 1 => by
    simp only [tabFromH, List.getElem?_cons_succ]
    rw [tabFromH_get l (k + 1) j, show k + 1 + j = k + (j + 1) by omega]
theorem tab_getH {ops : Array Oper} {j : Nat} {o : Oper} (ho : ops[j]? = some o) : (tabOfH ops)[j]? = some (maskOf (depsOf o), (match heldKind o with | true => maskOf (nearOf ops o j ops.toList 0) | false => 0), heldKind o) := by
  unfold tabOfH
  rw [tabFromH_get, Array.getElem?_toList, ho]
  simp
theorem Over.pickH {ops : Array Oper} {listed : Array Bool} {M : Nat} (v : Over ops listed M) {j : Nat} (h : pickM M (tabOfH ops) 0 = some j) :
    ∃ o, ops[j]? = some o ∧ j ∈ Region.ready .any ops listed ∧ ∀ (k : Nat) (ok : Oper), ops[k]? = some ok → k ≠ j → listed.getD k true = false → (∀ e ∈ ok.after, Region.binds .any e = true → e.on ≠ j) → o.apart ops ok = true := by
  obtain ⟨_, e, h1, h2, h3, h4, h5⟩ := pickM_some _ _ _ h
  rw [Nat.sub_zero] at h1
  cases ho : ops[j]? with
  | none =>
    unfold tabOfH at h1
    rw [tabFromH_get, Array.getElem?_toList, ho] at h1
    cases h1
  | some o =>
    rw [tab_getH ho] at h1
    injection h1 with h1
    subst h1
    simp only at h2 h4 h5
    rw [h2] at h5
    simp only at h5
    rw [subM_eq] at h4 h5
    refine ⟨o, rfl, mem_ready.2 ⟨by rw [v.un ho, ← inM_eq]; exact h3, o, ho, fun e he hb => ?_⟩, fun k ok hk hne hun hno => ?_⟩
    · rw [v.bit]
      exact h4 e.on (by rw [maskOf_eq, decide_eq_true_eq, mem_depsOf]; exact ⟨e, he, hb, rfl⟩)
    · have hkn : k ∉ nearOf ops o j ops.toList 0 := fun hm => by
        have := h5 k (by rw [maskOf_eq, decide_eq_true_eq]; exact hm)
        rw [← v.un hk, hun] at this
        cases this
      have := nearOf_spec (ops := ops) (oi := o) (i := j) ops.toList 0 k ok (by rw [Array.getElem?_toList]; exact hk) (by rw [Nat.zero_add]; exact hkn)
      rw [Nat.zero_add] at this
      rcases this with h | h | h
      · exact absurd h hne
      · exfalso
        obtain ⟨e, he, hb⟩ := List.any_eq_true.1 h
        simp only [Bool.and_eq_true] at hb
        exact hno e (by simpa using he) hb.1 (Nat.eq_of_beq_eq_true hb.2)
      · exact h

/-- A load of a block that was there. -/
def loadH (P : Program) (h0 : AH) (t : Tr Value) (o : Oper) : Option Value := match o.op with
  | .load ty x => match evT t x with
    | .pointer (some a) => match Nat.blt a.block h0.n with
      | true => loadA P h0 ty a
      | false => none
    | _ => none
  | _ => none
def putV (size : Nat) (o : Oper) (t : Tr Value) : Option Value → Option (Tr Value)
  | some v => some (setT size o.dst v t)
  | none => none
def heldV (P : Program) (h0 : AH) (t : Tr Value) (o : Oper) (h : AH) : Option Value := match isLoad o with
  | true => loadH P h0 t o
  | false => opP P (evT t) o h
def explHeld (P : Program) (ops : Array Oper) (size : Nat) (h0 : AH) (t : Tr Value) (h : AH) (j : Nat) : Option (Tr Value) := match ops.toList[j]? with
  | some o => match wantedT o ops t with
    | false => some (setT size o.dst undef t)
    | true => putV size o t (heldV P h0 t o h)
  | none => none
def tryPick (P : Program) (ops : Array Oper) (size : Nat) (h0 : AH) (M : Nat) (t : Tr Value) (h : AH) : Option (Nat × Tr Value) := match pickM M (tabOfH ops) 0 with
  | some j => match explHeld P ops size h0 t h j with
    | some t' => some (j, t')
    | none => none
  | none => none
def explH (P : Program) (call : CallMT) (ops : Array Oper) (size : Nat) (h0 : AH) : Nat → Nat → Tr Value → AH → Option (List (Tr Value × AH))
  | 0, M, t, h => match readyM M (tabOf ops) 0 with
    | [] => some [(t, h)]
    | _ => none
  | f + 1, M, t, h => match tryPick P ops size h0 M t h with
    | some (j, t') => explH P call ops size h0 f (addM M j) t' h
    | none => match readyM M (tabOf ops) 0 with
      | [] => some [(t, h)]
      | js => gather (fun j => match explOneMG P call ops size t h j with
        | some (t', h') => explH P call ops size h0 f (addM M j) t' h'
        | none => none) js
def reRo (ro : Nat) : List (Tr Value × AH) → List (Tr Value × AH)
  | [] => []
  | p :: ps => (p.1, { p.2 with ro := ro }) :: reRo ro ps
def reRoO (ro : Nat) : Option (List (Tr Value × AH)) → Option (List (Tr Value × AH))
  | some l => some (reRo ro l)
  | none => none
def drawHeldG (P : Program) (call : CallMT) (st : AS) (t : Tr Value) (ds : List AD) (acs : List AF) (h : AH) (k : List Item) (ops : Array Oper) : R1 :=
  match explB ops with
  | true => drawMany2 st ds acs k (reRoO h.ro (explH P call ops st.size { h with ro := h.n } ops.size 0 t { h with ro := h.n }))
  | false => .no
def callsGo (o : Oper) : Bool := match o.op with
  | .call c => match c.callee with
    | .value _ => true
    | _ => false
  | _ => false
def pickDraw (a b : DrawT) : DrawT := fun st t ds acs h k ops => match ops.toList.any writes with
  | true => drawOr a b st t ds acs h k ops
  | false => match ops.toList.any makes || ops.toList.any callsGo with
    | true => drawOr b a st t ds acs h k ops
    | false => drawOr a b st t ds acs h k ops
/-- Where something is written, the old ways first; where memory is made, loads first. -/
def drawAll (P : Program) (vs : List GVar) (tab : TabT) (fuel : Nat) : Nat → DrawT
  | 0 => drawNo
  | n + 1 => pickDraw (drawOf P (callTab vs tab (callOf P (drawAll P vs tab fuel n) fuel)))
    (drawHeldG P (callAny (callTab vs tab noCall) (callMem (step1 P (drawAll P vs tab fuel n)) P fuel)))

section
variable {P : Program} {w0 : World}

theorem mem_reRo {ro : Nat} {p : Tr Value × AH} : ∀ {l : List (Tr Value × AH)}, p ∈ l → (p.1, { p.2 with ro := ro }) ∈ reRo ro l
  | q :: qs, h => by
    rcases List.mem_cons.1 h with rfl | h
    · exact List.mem_cons_self
    · exact List.mem_cons_of_mem _ (mem_reRo h)

theorem loadH_sound {i0 : Ren} {h0 : AH} {w : World} (s0 : Sat P i0 h0 w0 w) {i : Ren} {h : AH} (hle : i0.le i h0.n) {t : Tr Value} {a : Act} {o : Oper} (hX : ∀ x ∈ o.op.operands, VRel i h.n (evT t x) (a.eval x)) {v : Value} (hv : loadH P h0 t o = some v) :
    ∃ v', (∀ w', Sat P i0 h0 w0 w' → (execOp a.eval o).run P w' = .ok (.value v') w') ∧ VRel i0 h0.n v v' := by
  unfold loadH at hv
  split at hv
  · rename_i ty x hop
    split at hv
    · rename_i ad hx
      split at hv
      · rename_i hlt
        have hlt' : ad.block < h0.n := by simpa [Nat.blt_eq] using hlt
        have hxr := hX x (by rw [hop]; simp [Op.operands])
        have hρ : ∀ y ∈ o.op.operands, VRel i0 h0.n (evT t y) (a.eval y) := fun y hy => by
          have hy' : y = x := by rw [hop] at hy; simpa [Op.operands] using hy
          subst hy'
          rw [hx] at hxr ⊢
          generalize a.eval y = u at hxr
          cases hxr with
          | one _ hf => simp [flat1] at hf
          | ptr _ _ =>
            have e : i.addr ad = i0.addr ad := by unfold Ren.addr; rw [hle.blk _ hlt']
            rw [e]
            exact .ptr ad hlt'
        have hq : opQ P (evT t) o h0 = some v := by simp only [opQ, hop, hx]; exact hv
        obtain ⟨v', g1, g2⟩ := opQ_sound s0 o hρ hq
        refine ⟨v', fun w' s' => ?_, g2⟩
        obtain ⟨v'', g3, g4⟩ := opQ_sound s' o hρ hq
        have := g2.unique _ g4
        subst this
        exact g3
      · cases hv
    · cases hv
  · cases hv

theorem explH_rel (hN : Named P) {call : CallMT} (hC : CallMOk P call) {ops : Array Oper} {size : Nat} {D : List Deferred} {R : Act → World → Prop} (hsel : Region.noSelect ops = true) (hnd : noDefer ops = true) {i0 : Ren} {h0 : AH} (hro : h0.ro = h0.n) :
    ∀ (f M : Nat) (listed : Array Bool) (i : Ren) (t : Tr Value) (h : AH) (a : Act) (w : World) (L : List (Tr Value × AH)), Over ops listed M → Sat P i0 h0 w0 w → i0.le i h0.n → Keep h0 h → Sat P i h w0 w → XRel i h.n size t a.tmps → a.defers = D →
      explH P call ops size h0 f M t h = some L →
      (∀ p ∈ L, ∀ i' a' w', i0.le i' h0.n → Keep h0 p.2 → Sat P i' p.2 w0 w' → XRel i' p.2.n size p.1 a'.tmps → a'.defers = D → R a' w') →
      wpAnyH P .any ops (fun e a w => e = .normal ∧ R a w) (fun w' => Sat P i0 h0 w0 w') f listed a w
  | 0, M, listed, i, t, h, a, w, L, vr, s0, hle, K, s, X, hd, he, hR => by
    unfold explH at he
    split at he
    · rename_i hr
      injection he with he
      subst he
      exact ⟨List.eq_nil_iff_forall_not_mem.2 (fun j hj => by have := vr.ready hj; rw [hr] at this; cases this), rfl, hR (t, h) List.mem_cons_self i a w hle K s X hd⟩
    · cases he
  | f + 1, M, listed, i, t, h, a, w, L, vr, s0, hle, K, s, X, hd, he, hR => by
    unfold explH at he
    split at he
    · rename_i j t' hp
      unfold tryPick at hp
      split at hp
      · rename_i j' hj
        split at hp
        · rename_i t1 ht'
          injection hp with hp
          obtain ⟨rfl, rfl⟩ := Prod.mk.inj hp
          obtain ⟨o, ho, hrdy, hfree⟩ := vr.pickH hj
          unfold explHeld at ht'
          rw [Array.getElem?_toList, ho] at ht'
          simp only at ht'
          have hX := fun x hx => okOp_eval (a := a) (noDefer_spec hnd ho) X s.gi x hx
          obtain ⟨v, v', hy, hr, rfl⟩ : ∃ v v', YieldsIf P ops (fun w' => Sat P i0 h0 w0 w') o v' a ∧ VRel i h.n v v' ∧ t1 = setT size o.dst v t := by
            split at ht'
            · rename_i hw
              injection ht' with ht'
              exact ⟨undef, undef, .inr ⟨wantedT_ne X hw, rfl⟩, VRel.undef _ _, ht'.symm⟩
            · rename_i hw
              unfold putV at ht'
              split at ht'
              · rename_i v hv
                injection ht' with ht'
                unfold heldV at hv
                split at hv
                · obtain ⟨v', g1, g2⟩ := loadH_sound s0 hle hX hv
                  exact ⟨v, v', .inl ⟨wantedT_eq X hw, g1⟩, g2.mono hle K.n, ht'.symm⟩
                · obtain ⟨v', g1, g2⟩ := opP_sound o hX hv
                  exact ⟨v, v', .inl ⟨wantedT_eq X hw, fun w' _ => g1 w'⟩, g2, ht'.symm⟩
              · cases ht'
          exact wpAnyH_first ho (Region.noSelect_spec hsel) (fun c a w hq => by cases hq.1) f listed a w hfree hrdy hy s0
            (explH_rel hN hC hsel hnd hro f _ _ i _ h _ w L (vr.add ho) s0 hle K s (X.put hr o.dst) (by rw [put_eq.2, hd]) he hR)
        · cases hp
      · cases hp
    · split at he
      · rename_i hr
        injection he with he
        subst he
        exact wpAnyH_done (List.eq_nil_iff_forall_not_mem.2 (fun j hj => by have := vr.ready hj; rw [hr] at this; cases this)) ⟨rfl, hR (t, h) List.mem_cons_self i a w hle K s X hd⟩ _
      · rename_i hne
        have hr0 : Region.ready .any ops listed ≠ [] := fun e => hne (List.eq_nil_iff_forall_not_mem.2 fun j hj => by have := vr.of_ready hj; rw [e] at this; cases this)
        refine wpAnyH_all rfl hr0 fun j hj => ?_
        obtain ⟨xs, hj', hsub⟩ := gather_mem he j (vr.ready hj)
        split at hj'
        · rename_i t' h' hone
          unfold explOneMG at hone
          rw [Array.getElem?_toList] at hone
          unfold wpOp
          cases ho : ops[j]? with
          | none => rw [ho] at hone; cases hone
          | some o =>
            rw [ho] at hone
            simp only at hone ⊢
            have hX := fun x hx => okOp_eval (a := a) (noDefer_spec hnd ho) X s.gi x hx
            split at hone
            · rename_i hw
              injection hone with hone
              obtain ⟨rfl, rfl⟩ := Prod.mk.inj hone
              rw [if_neg (by rw [wantedT_ne X hw]; simp)]
              exact ⟨s0, explH_rel hN hC hsel hnd hro f _ _ i _ _ _ w xs (vr.add ho) s0 hle K s (X.put (VRel.undef _ _) o.dst) (by rw [put_eq.2, hd]) hj' (fun p hp => hR p (hsub p hp))⟩
            · rename_i hw
              rw [if_pos (wantedT_eq X hw)]
              split at hone
              · rename_i v h1 hopM
                injection hone with hone
                obtain ⟨rfl, rfl⟩ := Prod.mk.inj hone
                refine .inl (opM_wpG hN hC hX s hopM fun i' v' w' g1 g2 g3 g4 => ?_)
                have hle' : i0.le i' h0.n := hle.trans g1 K.n
                have K' := K.trans g2
                have s0' : Sat P i0 h0 w0 w' := s0.back g3 hle' K'.n (fun b hb => K'.old b (by rw [hro]; exact hb))
                exact ⟨s0', explH_rel hN hC hsel hnd hro f _ _ i' _ _ _ w' xs (vr.add ho) s0' hle' K' g3 ((X.mono g1 g2.n).put g4 o.dst) (by rw [put_eq.2, hd]) hj' (fun p hp => hR p (hsub p hp))⟩
              · cases hone
        · cases hj'

theorem drawHeld_rel (hN : Named P) (hM : P.follows .mixedOrders = true) {call : CallMT} (hC : CallMOk P call) {i : Ren} {cs : List Frame} {st : AS} {t : Tr Value} {ds : List AD} {acs : List AF} {h : AH} {k : List Item} {id : Nat} {ops : Array Oper} {fr : Frame} {fs : List Frame} {w : World}
    (S : SRel P i w0 cs ⟨⟨st, t, .code (.region id ops true) :: k, ds, false⟩, acs, h⟩ fr fs w) : RRel P i w0 cs h (lone fr fs w) (drawHeldG P call st t ds acs h k ops) := by
  unfold drawHeldG
  split
  · rename_i hB
    simp only [explB, Bool.and_eq_true] at hB
    have sd := S.sat.drew
    have sH : Sat P i { h with ro := h.n } w0 w.drew := ⟨sd.below, Nat.le_refl _, sd.obj, sd.inj, Nat.le_trans sd.glr sd.ro, sd.idn⟩
    have key : ∀ L, reRoO h.ro (explH P call ops st.size { h with ro := h.n } ops.size 0 t { h with ro := h.n }) = some L → ∃ p ∈ L, RRel P i w0 cs h (lone fr fs w) (nx st p.1 k ds acs p.2) := fun L hL => by
      cases hx : explH P call ops st.size { h with ro := h.n } ops.size 0 t { h with ro := h.n } with
      | none => rw [hx] at hL; cases hL
      | some L0 =>
        rw [hx] at hL
        have hL' : reRo h.ro L0 = L := by simpa [reRoO] using hL
        subst hL'
        refine region_rel_many hM S hB.2 (wpAny_of_held _ _ _ _ (explH_rel hN hC hB.1 hB.2 (i0 := i) (h0 := { h with ro := h.n }) rfl _ 0 _ i t { h with ro := h.n } _ _ L0 (Over.none ops) sH (Ren.le.refl _ _) (Keep.refl _) sH S.f.tmps rfl hx
          (fun p hp i' a' w' g1 g2 g3 g4 g5 => ⟨_, mem_reRo hp, i', g1, ⟨rfl, g2.n, fun b hb => g2.old b (Nat.lt_of_lt_of_le hb S.sat.ro)⟩, ⟨g3.below, Nat.le_trans S.sat.ro g2.n, g3.obj, g3.inj, S.sat.glr, g3.idn⟩, g4, g5⟩)))
    generalize reRoO h.ro (explH P call ops st.size { h with ro := h.n } ops.size 0 t { h with ro := h.n }) = r at key
    unfold drawMany2
    split
    · rename_i p
      obtain ⟨q, hq, hr⟩ := key [p] rfl
      rw [List.mem_singleton.1 hq] at hr
      exact hr
    · rename_i l _
      obtain ⟨q, hq, i', fr', fs', w', g⟩ := key l rfl
      exact ⟨_, List.mem_map.2 ⟨q, hq, rfl⟩, i', fr', fs', w', g⟩
    · trivial
  · trivial

theorem pickDraw_ok {a b : DrawT} (ha : DrawOk P a) (hb : DrawOk P b) : DrawOk P (pickDraw a b) := by
  intro i w0 cs st t ds acs h k id ops fr fs w S
  unfold pickDraw
  split
  · exact drawOr_ok ha hb i w0 cs st t ds acs h k id ops fr fs w S
  · split
    · exact drawOr_ok hb ha i w0 cs st t ds acs h k id ops fr fs w S
    · exact drawOr_ok ha hb i w0 cs st t ds acs h k id ops fr fs w S
theorem drawAll_ok (hN : Named P) (hM : P.follows .mixedOrders = true) {vs : List GVar} {tab : TabT} (hT : TabOk P vs tab) (fuel : Nat) : ∀ n, DrawOk P (drawAll P vs tab fuel n)
  | 0 => drawNo_ok
  | n + 1 =>
    have hD := drawAll_ok hN hM hT fuel n
    have hC := callTab_ok hT (callOf_ok hN hD fuel)
    pickDraw_ok (drawOf_ok hN hM hC)
      (fun i w0 cs st t ds acs h k id ops fr fs w S => drawHeld_rel hN hM (callAny_ok (callTab_ok hT (fun _ _ _ _ h => by cases h)) (callMem_ok (fun i w0 cs s fr fs w S => step1_rel hN hD S) fuel)) S)
end
end Go.Proofs.Ev
