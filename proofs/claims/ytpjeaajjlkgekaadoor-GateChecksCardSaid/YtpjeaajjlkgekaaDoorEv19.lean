/-
  AN EVALUATOR OF CLOSED CALLS, PART 19: regions whose order is drawn, whose last operation waits for all others: loads first, the last one at last. It holds for every program; no statement is proved here.
-/
import Derived.Test.YtpjeaajjlkgekaaDoorEv18
noncomputable section
namespace Go.Proofs.Ev
open Go.RowKit
set_option linter.unusedVariables false
set_option linter.unusedSimpArgs false

/-- As 'wpAnyH', but behind the last operation nothing is asked. -/
def wpAnyS (P : Program) (ops : Array Oper) (Q : Exit → Act → World → Prop) (last : Nat) (S : World → Prop) : Nat → Array Bool → Act → World → Prop
  | 0, listed, a, w => Region.ready .any ops listed = [] ∧ Q .normal a w
  | fuel + 1, listed, a, w =>
    (Region.ready .any ops listed = [] → Q .normal a w) ∧
    ∀ i ∈ Region.ready .any ops listed, wpOp P ops Q i (fun a' w' => (i ≠ last → S w') ∧ wpAnyS P ops Q last S fuel (listed.setIfInBounds i true) a' w') a w

/-- What an operation that is listed waits for is listed too. -/
def Shut (ops : Array Oper) (l : Array Bool) : Prop := ∀ (k : Nat) (ok : Oper), ops[k]? = some ok → l.getD k false = true → ∀ e ∈ ok.after, Region.binds .any e = true → l.getD e.on false = true
theorem Shut.none (ops : Array Oper) : Shut ops (Array.replicate ops.size false) := fun k ok hk hl => by
  have := (Array.getElem?_eq_some_iff.1 hk).1
  simp [Array.getElem?_replicate, this] at hl
theorem Shut.add {ops : Array Oper} {l : Array Bool} (h : Shut ops l) {j : Nat} (hj : j ∈ Region.ready .any ops l) : Shut ops (l.setIfInBounds j true) := fun k ok hk hl e he hb => by
  refine getD_set_true ?_
  by_cases hjk : j = k
  · subst hjk
    obtain ⟨_, o, ho, hall⟩ := mem_ready.1 hj
    obtain rfl := Option.some.inj (ho.symm.trans hk)
    exact hall e he hb
  · rw [getD_set_ne false hjk] at hl
    exact h k ok hk hl e he hb
def closeM (ops : Array Oper) : Nat → Nat → Nat
  | 0, M => M
  | n + 1, M => match inM M n with
    | true => match ops.toList[n]? with
      | some o => closeM ops n (Nat.lor M (maskOf (depsOf o)))
      | none => closeM ops n M
    | false => closeM ops n M
theorem closeM_shut {ops : Array Oper} {l : Array Bool} (h : Shut ops l) : ∀ (n M : Nat), (∀ j, M.testBit j = true → l.getD j false = true) → ∀ j, (closeM ops n M).testBit j = true → l.getD j false = true
  | 0, M, hM, j, hj => hM j hj
  | n + 1, M, hM, j, hj => by
    unfold closeM at hj
    split at hj
    · rename_i hin
      split at hj
      · rename_i o ho
        refine closeM_shut h n _ (fun k hk => ?_) j hj
        have hk' : (M ||| maskOf (depsOf o)).testBit k = true := hk
        rw [Nat.testBit_or, Bool.or_eq_true] at hk'
        rcases hk' with hk' | hk'
        · exact hM k hk'
        · rw [maskOf_eq, decide_eq_true_eq, mem_depsOf] at hk'
          obtain ⟨e, he, hb, rfl⟩ := hk'
          rw [inM_eq] at hin
          exact h n o (by rw [Array.getElem?_toList] at ho; exact ho) (hM n hin) e he hb
      · exact closeM_shut h n M hM j hj
    · exact closeM_shut h n M hM j hj

section
variable {P : Program} {ops : Array Oper} {Q : Exit → Act → World → Prop} {S : World → Prop} {last : Nat} {w0 : World}

theorem wpAny_of_S : ∀ (fuel : Nat) (listed : Array Bool) (a : Act) (w : World), wpAnyS P ops Q last S fuel listed a w → wpAny P .any ops Q fuel listed a w
  | 0, _, _, _, h => h
  | fuel + 1, _, _, _, h => ⟨h.1, fun i hi => wpOp_mono (fun a' w' h' => wpAny_of_S fuel _ a' w' h'.2) (h.2 i hi)⟩

theorem wpAnyS_first {i : Nat} {oi : Oper} {v : Value} (hi : ops[i]? = some oi) (hsel : ∀ (j : Nat) (o : Oper) cs b, ops[j]? = some o → o.op ≠ .select cs b)
    (hQ : ∀ c a w, Q (.panic c) (a.put oi.dst v) w → Q (.panic c) a w) (hil : i ≠ last) (hL : ∀ l, Shut ops l → last ∈ Region.ready .any ops l → i ∉ Region.ready .any ops l) :
    ∀ (fuel : Nat) (listed : Array Bool) (a : Act) (w : World), Shut ops listed →
      (∀ j oj, ops[j]? = some oj → j ≠ i → listed.getD j true = false → (∀ e ∈ oj.after, Region.binds .any e = true → e.on ≠ i) → oi.apart ops oj = true) →
      i ∈ Region.ready .any ops listed → YieldsIf P ops S oi v a → S w →
      wpAnyS P ops Q last S fuel (listed.setIfInBounds i true) (a.put oi.dst v) w → wpAnyS P ops Q last S (fuel + 1) listed a w := by
  intro fuel
  induction fuel with
  | zero =>
    intro listed a w _ _ hr hy hS H
    refine ⟨fun h => (by rw [h] at hr; cases hr), fun j hj => ?_⟩
    by_cases hji : j = i
    · subst hji; exact hy.wpOp hi hS ⟨fun _ => hS, H⟩
    · have := ready_mono hj hji
      rw [H.1] at this
      cases this
  | succ fuel ih =>
    intro listed a w hsh hfree hr hy hS H
    refine ⟨fun h => (by rw [h] at hr; cases hr), fun j hj => ?_⟩
    by_cases hji : j = i
    · subst hji; exact hy.wpOp hi hS ⟨fun _ => hS, H⟩
    · have hjl : j ≠ last := fun e => by subst e; exact hL listed hsh hj hr
      have h1 := H.2 j (ready_mono hj hji)
      obtain ⟨hjun, oj, hoj, hall⟩ := mem_ready.1 hj
      have hnot : ∀ e ∈ oj.after, Region.binds .any e = true → e.on ≠ i := fun e he hb heq => by
        have h1 := hall e he hb
        have h0 := (mem_ready.1 hr).1
        rw [heq] at h1
        rcases Nat.lt_or_ge i listed.size with h' | h'
        · simp [h'] at h0 h1; rw [h0] at h1; cases h1
        · simp [Array.getElem?_eq_none h'] at h1
      have h2 := wpOp_putIf hoj (hfree j oj hoj hji hjun hnot) (fun cs b => hsel i oi cs b hi) (fun cs b => hsel j oj cs b hoj) hQ hy h1
      have hfree' : ∀ k ok, ops[k]? = some ok → k ≠ i → (listed.setIfInBounds j true).getD k true = false →
          (∀ e ∈ ok.after, Region.binds .any e = true → e.on ≠ i) → oi.apart ops ok = true := fun k ok hk hki hun hno => by
        refine hfree k ok hk hki ?_ hno
        by_cases hjk : j = k
        · subst hjk; exact hjun
        · rw [getD_set_ne true hjk] at hun; exact hun
      refine wpOp_mono (fun a' w' h3 => ⟨h3.2.1, ih (listed.setIfInBounds j true) a' w' (hsh.add hj) hfree' (ready_mono hr (Ne.symm hji)) h3.1 (h3.2.1 hjl) ?_⟩) h2
      rw [Array.setIfInBounds_comm _ _ hji]
      exact h3.2.2
end

/-- The last operation waits for every other one. -/
def lastWaits (ops : Array Oper) : Option Nat := match ops.size with
  | 0 => none
  | n + 1 => match ops.toList[n]? with
    | some o => match subM (maskOf (List.range n)) (closeM ops n (maskOf (depsOf o))), isLoad o, pureKind o with
      | true, false, false => some n
      | _, _, _ => none
    | none => none

def oneL : Option (Tr Value × AH) → Option (List (Tr Value × AH))
  | some p => some [p]
  | none => none
def explS (P : Program) (call : CallMT) (ops : Array Oper) (size : Nat) (h0 : AH) (ro last : Nat) : Nat → Nat → Tr Value → AH → Option (List (Tr Value × AH))
  | 0, M, t, h => none
  | f + 1, M, t, h => match tryPick P ops size h0 M t h with
    | some (j, t') => explS P call ops size h0 ro last f (addM M j) t' h
    | none => match readyM M (tabOf ops) 0 with
      | [] => none
      | js => gather (fun j => match Nat.beq j last with
        | true => oneL (explOneMG P call ops size t { h with ro := ro } j)
        | false => match explOneMG P call ops size t h j with
          | some (t', h') => explS P call ops size h0 ro last f (addM M j) t' h'
          | none => none) js
def drawLastG (P : Program) (call : CallMT) (st : AS) (t : Tr Value) (ds : List AD) (acs : List AF) (h : AH) (k : List Item) (ops : Array Oper) : R1 :=
  match explB ops, lastWaits ops with
  | true, some last => drawMany2 st ds acs k (explS P call ops st.size { h with ro := h.n } h.ro last ops.size 0 t { h with ro := h.n })
  | _, _ => .no

section
variable {P : Program} {w0 : World}

theorem lastWaits_spec {ops : Array Oper} {last : Nat} (h : lastWaits ops = some last) : ops.size = last + 1 ∧ ∃ o, ops[last]? = some o ∧ (∀ j, j < last → (closeM ops last (maskOf (depsOf o))).testBit j = true) ∧ isLoad o = false ∧ pureKind o = false := by
  unfold lastWaits at h
  split at h
  · cases h
  · rename_i n hn
    split at h
    · rename_i o ho
      split at h
      · rename_i h1 h2 h3
        injection h with h
        subst h
        exact ⟨hn, o, by rw [Array.getElem?_toList] at ho; exact ho, fun j hj => (subM_eq _ _).1 h1 j (by rw [maskOf_eq, decide_eq_true_eq]; exact List.mem_range.2 hj), h2, h3⟩
      · cases h
    · cases h

theorem last_listed {ops : Array Oper} {last : Nat} (h : lastWaits ops = some last) {l : Array Bool} (hs : Shut ops l) (hr : last ∈ Region.ready .any ops l) {j : Nat} (hj : j < last) : l.getD j false = true := by
  obtain ⟨_, o, ho, hw, _, _⟩ := lastWaits_spec h
  obtain ⟨_, o', ho', hall⟩ := mem_ready.1 hr
  obtain rfl := Option.some.inj (ho.symm.trans ho')
  refine closeM_shut hs last _ (fun k hk => ?_) j (hw j hj)
  rw [maskOf_eq, decide_eq_true_eq, mem_depsOf] at hk
  obtain ⟨e, he, hb, rfl⟩ := hk
  exact hall e he hb

theorem explS_rel (hN : Named P) {call : CallMT} (hC : CallMOk P call) {ops : Array Oper} {size : Nat} {D : List Deferred} {R : Act → World → Prop} {last : Nat} (hlast : lastWaits ops = some last) (hsel : Region.noSelect ops = true) (hnd : noDefer ops = true) {i0 : Ren} {h0 : AH} (hro : h0.ro = h0.n) {ro : Nat} (hro1 : ro ≤ h0.n) (hro2 : GL ≤ ro) :
    ∀ (f M : Nat) (listed : Array Bool) (i : Ren) (t : Tr Value) (h : AH) (a : Act) (w : World) (L : List (Tr Value × AH)), Shut ops listed → Over ops listed M → Sat P i0 h0 w0 w → i0.le i h0.n → Keep h0 h → Sat P i h w0 w → XRel i h.n size t a.tmps → a.defers = D →
      explS P call ops size h0 ro last f M t h = some L →
      (∀ p ∈ L, ∀ i' a' w', i0.le i' h0.n → Keep { h0 with ro := ro } p.2 → Sat P i' p.2 w0 w' → XRel i' p.2.n size p.1 a'.tmps → a'.defers = D → R a' w') →
      listed.getD last true = false →
      wpAnyS P ops (fun e a w => e = .normal ∧ R a w) last (fun w' => Sat P i0 h0 w0 w') f listed a w
  | 0, M, listed, i, t, h, a, w, L, hsh, vr, s0, hle, K, s, X, hd, he, hR, hun => by cases he
  | f + 1, M, listed, i, t, h, a, w, L, hsh, vr, s0, hle, K, s, X, hd, he, hR, hun => by
    obtain ⟨hsz, olast, holast, _, hnl, hnp⟩ := lastWaits_spec hlast
    unfold explS at he
    split at he
    · rename_i j t' hp
      unfold tryPick at hp
      split at hp
      · rename_i j' hj
        split at hp
        · rename_i t1 ht'
          injection hp with hp
          obtain ⟨rfl, rfl⟩ := Prod.mk.inj hp
          obtain ⟨o, ho, hrdy, hfree⟩ := vr.pickH hj
          have hjl : j' ≠ last := fun e => by
            subst e
            obtain rfl := Option.some.inj (ho.symm.trans holast)
            obtain ⟨_, e, q1, q2, _⟩ := pickM_some _ _ _ hj
            rw [Nat.sub_zero, tab_getH ho] at q1
            injection q1 with q1
            subst q1
            simp [heldKind, hnl, hnp] at q2
          have hjlt : j' < last := by have := (Array.getElem?_eq_some_iff.1 ho).1; omega
          unfold explHeld at ht'
          rw [Array.getElem?_toList, ho] at ht'
          simp only at ht'
          have hX := fun x hx => okOp_eval (a := a) (noDefer_spec hnd ho) X s.gi x hx
          obtain ⟨v, v', hy, hr, rfl⟩ : ∃ v v', YieldsIf P ops (fun w' => Sat P i0 h0 w0 w') o v' a ∧ VRel i h.n v v' ∧ t1 = setT size o.dst v t := by
            split at ht'
            · rename_i hw
              injection ht' with ht'
              exact ⟨undef, undef, .inr ⟨wantedT_ne X hw, rfl⟩, VRel.undef _ _, ht'.symm⟩
            · rename_i hw
              unfold putV at ht'
              split at ht'
              · rename_i v hv
                injection ht' with ht'
                unfold heldV at hv
                split at hv
                · obtain ⟨v', g1, g2⟩ := loadH_sound s0 hle hX hv
                  exact ⟨v, v', .inl ⟨wantedT_eq X hw, g1⟩, g2.mono hle K.n, ht'.symm⟩
                · obtain ⟨v', g1, g2⟩ := opP_sound o hX hv
                  exact ⟨v, v', .inl ⟨wantedT_eq X hw, fun w' _ => g1 w'⟩, g2, ht'.symm⟩
              · cases ht'
          refine wpAnyS_first ho (Region.noSelect_spec hsel) (fun c a w hq => by cases hq.1) hjl (fun l hsl hl hil => ?_) f listed a w hsh hfree hrdy hy s0
            (explS_rel hN hC hlast hsel hnd hro hro1 hro2 f _ _ i _ h _ w L (hsh.add hrdy) (vr.add ho) s0 hle K s (X.put hr o.dst) (by rw [put_eq.2, hd]) he hR (by rw [getD_set_ne true hjl]; exact hun))
          have h1 := last_listed hlast hsl hl hjlt
          have h2 := (mem_ready.1 hil).1
          rcases Nat.lt_or_ge j' l.size with h' | h'
          · simp [h'] at h1 h2; rw [h1] at h2; cases h2
          · simp [Array.getElem?_eq_none h'] at h1
        · cases hp
      · cases hp
    · split at he
      · cases he
      rename_i hne
      refine ⟨fun hr => absurd (List.eq_nil_iff_forall_not_mem.2 fun j hj => by have := vr.of_ready hj; rw [hr] at this; cases this) hne, fun j hj => ?_⟩
      · obtain ⟨xs, hj', hsub⟩ := gather_mem he j (vr.ready hj)
        split at hj'
        · rename_i hjb
          obtain rfl := Nat.eq_of_beq_eq_true hjb
          unfold oneL at hj'
          split at hj'
          · rename_i p hone
            injection hj' with hj'
            subst hj'
            obtain ⟨t', h'⟩ := p
            have sR : Sat P i { h with ro := ro } w0 w := ⟨s.below, Nat.le_trans hro1 K.n, s.obj, s.inj, hro2, s.idn⟩
            have done : ∀ (i' : Ren) (a' : Act) (w' : World), i0.le i' h0.n → Keep { h0 with ro := ro } h' → Sat P i' h' w0 w' → XRel i' h'.n size t' a'.tmps → a'.defers = D →
                wpAnyS P ops (fun e a w => e = .normal ∧ R a w) j (fun w' => Sat P i0 h0 w0 w') f (listed.setIfInBounds j true) a' w' := fun i' a' w' q1 q2 q3 q4 q5 => by
              have hnil : Region.ready .any ops (listed.setIfInBounds j true) = [] := List.eq_nil_iff_forall_not_mem.2 fun k hk => by
                obtain ⟨hkun, ok, hok, _⟩ := mem_ready.1 hk
                have hklt := (Array.getElem?_eq_some_iff.1 hok).1
                by_cases hkj : j = k
                · subst hkj
                  have : j < listed.size := by rw [vr.size]; exact hklt
                  simp [this] at hkun
                · rw [getD_set_ne true hkj] at hkun
                  have h1 := last_listed hlast hsh hj (show k < j by omega)
                  rcases Nat.lt_or_ge k listed.size with h' | h'
                  · simp [h'] at h1 hkun; rw [h1] at hkun; cases hkun
                  · simp [Array.getElem?_eq_none h'] at h1
              have hq : R a' w' := hR (t', h') (hsub _ List.mem_cons_self) i' a' w' q1 q2 q3 q4 q5
              cases f with
              | zero => exact ⟨hnil, rfl, hq⟩
              | succ f => exact ⟨fun _ => ⟨rfl, hq⟩, by rw [hnil]; simp⟩
            have KR : Keep { h0 with ro := ro } { h with ro := ro } := ⟨rfl, K.n, fun b hb => K.old b (by rw [hro]; exact Nat.lt_of_lt_of_le hb hro1)⟩
            unfold explOneMG at hone
            rw [Array.getElem?_toList] at hone
            unfold wpOp
            rw [holast] at hone ⊢
            simp only at hone ⊢
            have hX := fun x hx => okOp_eval (a := a) (noDefer_spec hnd holast) X s.gi x hx
            split at hone
            · rename_i hw
              injection hone with hone
              obtain ⟨rfl, rfl⟩ := Prod.mk.inj hone
              rw [if_neg (by rw [wantedT_ne X hw]; simp)]
              exact ⟨fun hh => absurd rfl hh, done i _ w hle KR sR (X.put (VRel.undef _ _) olast.dst) (by rw [put_eq.2, hd])⟩
            · rename_i hw
              rw [if_pos (wantedT_eq X hw)]
              split at hone
              · rename_i v h1 hopM
                injection hone with hone
                obtain ⟨rfl, rfl⟩ := Prod.mk.inj hone
                refine .inl (opM_wpG hN hC (h := { h with ro := ro }) hX sR hopM fun i' v' w' g1 g2 g3 g4 => ?_)
                exact ⟨fun hh => absurd rfl hh, done i' _ w' (hle.trans g1 K.n) (KR.trans g2) g3 ((X.mono g1 g2.n).put g4 olast.dst) (by rw [put_eq.2, hd])⟩
              · cases hone
          · cases hj'
        · rename_i hjb
          have hjl : j ≠ last := fun e => by subst e; simp at hjb
          split at hj'
          · rename_i t' h' hone
            unfold explOneMG at hone
            rw [Array.getElem?_toList] at hone
            unfold wpOp
            cases ho : ops[j]? with
            | none => rw [ho] at hone; cases hone
            | some o =>
              rw [ho] at hone
              simp only at hone ⊢
              have hX := fun x hx => okOp_eval (a := a) (noDefer_spec hnd ho) X s.gi x hx
              have hun' : (listed.setIfInBounds j true).getD last true = false := by rw [getD_set_ne true hjl]; exact hun
              split at hone
              · rename_i hw
                injection hone with hone
                obtain ⟨rfl, rfl⟩ := Prod.mk.inj hone
                rw [if_neg (by rw [wantedT_ne X hw]; simp)]
                exact ⟨fun _ => s0, explS_rel hN hC hlast hsel hnd hro hro1 hro2 f _ _ i _ _ _ w xs (hsh.add hj) (vr.add ho) s0 hle K s (X.put (VRel.undef _ _) o.dst) (by rw [put_eq.2, hd]) hj' (fun p hp => hR p (hsub p hp)) hun'⟩
              · rename_i hw
                rw [if_pos (wantedT_eq X hw)]
                split at hone
                · rename_i v h1 hopM
                  injection hone with hone
                  obtain ⟨rfl, rfl⟩ := Prod.mk.inj hone
                  refine .inl (opM_wpG hN hC hX s hopM fun i' v' w' g1 g2 g3 g4 => ?_)
                  have hle' : i0.le i' h0.n := hle.trans g1 K.n
                  have K' := K.trans g2
                  have s0' : Sat P i0 h0 w0 w' := s0.back g3 hle' K'.n (fun b hb => K'.old b (by rw [hro]; exact hb))
                  exact ⟨fun _ => s0', explS_rel hN hC hlast hsel hnd hro hro1 hro2 f _ _ i' _ _ _ w' xs (hsh.add hj) (vr.add ho) s0' hle' K' g3 ((X.mono g1 g2.n).put g4 o.dst) (by rw [put_eq.2, hd]) hj' (fun p hp => hR p (hsub p hp)) hun'⟩
                · cases hone
          · cases hj'

theorem drawLast_rel (hN : Named P) (hM : P.follows .mixedOrders = true) {call : CallMT} (hC : CallMOk P call) {i : Ren} {cs : List Frame} {st : AS} {t : Tr Value} {ds : List AD} {acs : List AF} {h : AH} {k : List Item} {id : Nat} {ops : Array Oper} {fr : Frame} {fs : List Frame} {w : World}
    (S : SRel P i w0 cs ⟨⟨st, t, .code (.region id ops true) :: k, ds, false⟩, acs, h⟩ fr fs w) : RRel P i w0 cs h (lone fr fs w) (drawLastG P call st t ds acs h k ops) := by
  unfold drawLastG
  split
  · rename_i last hB hlast
    simp only [explB, Bool.and_eq_true] at hB
    have sd := S.sat.drew
    have sH : Sat P i { h with ro := h.n } w0 w.drew := ⟨sd.below, Nat.le_refl _, sd.obj, sd.inj, Nat.le_trans sd.glr sd.ro, sd.idn⟩
    have hsz := (lastWaits_spec hlast).1
    have hun : (Array.replicate ops.size false).getD last true = false := by simp [Array.getElem?_replicate, hsz]
    have key : ∀ L, explS P call ops st.size { h with ro := h.n } h.ro last ops.size 0 t { h with ro := h.n } = some L → ∃ p ∈ L, RRel P i w0 cs h (lone fr fs w) (nx st p.1 k ds acs p.2) := fun L hL =>
      region_rel_many hM S hB.2 (wpAny_of_S _ _ _ _ (explS_rel hN hC hlast hB.1 hB.2 (i0 := i) (h0 := { h with ro := h.n }) rfl S.sat.ro S.sat.glr _ 0 _ i t { h with ro := h.n } _ _ L (Shut.none ops) (Over.none ops) sH (Ren.le.refl _ _) (Keep.refl _) sH S.f.tmps rfl hL
        (fun p hp i' a' w' g1 g2 g3 g4 g5 => ⟨p, hp, i', g1, g2, g3, g4, g5⟩) hun))
    generalize explS P call ops st.size { h with ro := h.n } h.ro last ops.size 0 t { h with ro := h.n } = r at key
    unfold drawMany2
    split
    · rename_i p
      obtain ⟨q, hq, hr⟩ := key [p] rfl
      rw [List.mem_singleton.1 hq] at hr
      exact hr
    · rename_i l _
      obtain ⟨q, hq, i', fr', fs', w', g⟩ := key l rfl
      exact ⟨_, List.mem_map.2 ⟨q, hq, rfl⟩, i', fr', fs', w', g⟩
    · trivial
  · trivial
end

/-- A call along its one branch, which may write what may be written. -/
def doneW (k : Nat) : R1 → Option (Value × AH)
  | .done k' v h => match Nat.beq k' k with
    | true => some (v, h)
    | false => none
  | _ => none
def callMemW (st : St → R1) (P : Program) (fuel : Nat) : CallMT := fun k args h => doneW k (iter st fuel ⟨AF.enter P k args, [], h⟩)
theorem callMemW_ok {P : Program} {st : St → R1} (hst : StepOk P st) (fuel : Nat) : CallMOk P (callMemW st P fuel) := by
  intro k args h v h2 hv i w0 w args' s A
  unfold callMemW doneW at hv
  split at hv
  · rename_i k' v1 h1 he
    split at hv
    · rename_i hk
      injection hv with hv
      obtain ⟨rfl, rfl⟩ := Prod.mk.inj hv
      intro cs
      have hr := iter_ok hst fuel i w0 cs _ _ cs w (show SRel P i w0 cs ⟨AF.enter P k args, [], h⟩ (Frame.enter P k args' .normal) cs w from ⟨FRel.enter A k, rfl, s⟩)
      rw [he] at hr
      obtain ⟨j, fr, w', v', g1, g2, g3, g4, g5, g6, g7⟩ := hr
      refine ⟨_, w', fr, ⟨j, v', rfl, g6, g7, g5, g4⟩, g1, by rw [g2]; exact Nat.eq_of_beq_eq_true hk, g3⟩
    · cases hv
  · cases hv

def tailFits (ops : Array Oper) : Bool := match tailAt ops.toList 0 with
  | some n => tailB ops n
  | none => false
/-- a: the old ways; b: loads first; c: the last one at last. -/
def pickDraw3 (a b c d : DrawT) : DrawT := fun st t ds acs h k ops => match ops.toList.any writes with
  | true => match tailFits ops && !ops.toList.any callsGo with
    | true => drawOr a (drawOr c (drawOr b d)) st t ds acs h k ops
    | false => drawOr c (drawOr b (drawOr a d)) st t ds acs h k ops
  | false => match ops.toList.any makes || ops.toList.any callsGo with
    | true => match (lastWaits ops).isSome with
      | true => drawOr c (drawOr b a) st t ds acs h k ops
      | false => drawOr b a st t ds acs h k ops
    | false => drawOr a b st t ds acs h k ops
def drawBest (P : Program) (vs : List GVar) (tab : TabT) (fuel : Nat) : Nat → DrawT
  | 0 => drawNo
  | n + 1 => pickDraw3 (drawOf P (callTab vs tab (callOf P (drawBest P vs tab fuel n) fuel)))
    (drawHeldG P (callAny (callTab vs tab noCall) (callMemW (step1 P (drawBest P vs tab fuel n)) P fuel)))
    (drawLastG P (callAny (callTab vs tab noCall) (callMemW (step1 P (drawBest P vs tab fuel n)) P fuel)))
    (drawManyG P (callAny (callTab vs tab noCall) (callMemW (step1 P (drawBest P vs tab fuel n)) P fuel)))

section
variable {P : Program}
theorem pickDraw3_ok {a b c d : DrawT} (ha : DrawOk P a) (hb : DrawOk P b) (hc : DrawOk P c) (hd : DrawOk P d) : DrawOk P (pickDraw3 a b c d) := by
  intro i w0 cs st t ds acs h k id ops fr fs w S
  unfold pickDraw3
  split
  · split
    · exact drawOr_ok ha (drawOr_ok hc (drawOr_ok hb hd)) i w0 cs st t ds acs h k id ops fr fs w S
    · exact drawOr_ok hc (drawOr_ok hb (drawOr_ok ha hd)) i w0 cs st t ds acs h k id ops fr fs w S
  · split
    · split
      · exact drawOr_ok hc (drawOr_ok hb ha) i w0 cs st t ds acs h k id ops fr fs w S
      · exact drawOr_ok hb ha i w0 cs st t ds acs h k id ops fr fs w S
    · exact drawOr_ok ha hb i w0 cs st t ds acs h k id ops fr fs w S
theorem drawBest_ok (hN : Named P) (hM : P.follows .mixedOrders = true) {vs : List GVar} {tab : TabT} (hT : TabOk P vs tab) (fuel : Nat) : ∀ n, DrawOk P (drawBest P vs tab fuel n)
  | 0 => drawNo_ok
  | n + 1 =>
    have hD := drawBest_ok hN hM hT fuel n
    have hC := callTab_ok hT (callOf_ok hN hD fuel)
    have hC2 := callAny_ok (callTab_ok hT (fun _ _ _ _ h => by cases h)) (callMemW_ok (fun i w0 cs s fr fs w S => step1_rel hN hD S) fuel)
    pickDraw3_ok (drawOf_ok hN hM hC) (fun i w0 cs st t ds acs h k id ops fr fs w S => drawHeld_rel hN hM hC2 S) (fun i w0 cs st t ds acs h k id ops fr fs w S => drawLast_rel hN hM hC2 S) (fun i w0 cs st t ds acs h k id ops fr fs w S => drawMany_relG hN hM hC2 S)
end
end Go.Proofs.Ev
