/-
  AN EVALUATOR OF CLOSED CALLS, PART 21b: regions whose order is drawn, with loads that come first, and calls that write other cells than those: what was loaded is looked at again behind each operation that does not wait for the load. It holds for every program; no statement is proved here.
-/
import Derived.Test.YtpjeaajjlkgekaaDoorEv21
noncomputable section
namespace Go.Proofs.Ev
open Go.RowKit
set_option linter.unusedVariables false
set_option linter.unusedSimpArgs false

/-- Does operation j wait for l? -/
def waitsFor (ops : Array Oper) (j l : Nat) : Bool := match ops.toList[j]? with
  | some o => inM (closeM ops ops.size (maskOf (depsOf o))) l
  | none => true

/-- As 'wpAnyH', with a condition for each load: an operation that does not wait for it keeps it. -/
def wpAnyL (P : Program) (ops : Array Oper) (Q : Exit → Act → World → Prop) (S : Nat → World → Prop) : Nat → Array Bool → Act → World → Prop
  | 0, listed, a, w => Region.ready .any ops listed = [] ∧ Q .normal a w
  | fuel + 1, listed, a, w =>
    (Region.ready .any ops listed = [] → Q .normal a w) ∧
    ∀ i ∈ Region.ready .any ops listed, wpOp P ops Q i (fun a' w' => (∀ l, waitsFor ops i l = false → S l w → S l w') ∧ wpAnyL P ops Q S fuel (listed.setIfInBounds i true) a' w') a w

/-- A load that came first: its number, its type, where, what it gave. -/
structure SE where
  l : Nat
  ty : TypeId
  ad : Addr
  v : Value

section
variable {P : Program} {ops : Array Oper} {Q : Exit → Act → World → Prop} {S : Nat → World → Prop} {w0 : World}

theorem wpAny_of_L : ∀ (fuel : Nat) (listed : Array Bool) (a : Act) (w : World), wpAnyL P ops Q S fuel listed a w → wpAny P .any ops Q fuel listed a w
  | 0, _, _, _, h => h
  | fuel + 1, _, _, _, h => ⟨h.1, fun i hi => wpOp_mono (fun a' w' h' => wpAny_of_L fuel _ a' w' h'.2) (h.2 i hi)⟩

theorem listed_no_ready {l : Array Bool} {j : Nat} (h : l.getD j false = true) : j ∉ Region.ready .any ops l := fun hr => by
  have h2 := (mem_ready.1 hr).1
  rcases Nat.lt_or_ge j l.size with h' | h'
  · simp [h'] at h h2; rw [h] at h2; cases h2
  · simp [Array.getElem?_eq_none h'] at h
theorem waits_listed {l : Array Bool} (hs : Shut ops l) {b : Nat} (hr : b ∈ Region.ready .any ops l) {j : Nat} (hj : waitsFor ops b j = true) : l.getD j false = true := by
  obtain ⟨_, o, ho, hall⟩ := mem_ready.1 hr
  unfold waitsFor at hj
  rw [Array.getElem?_toList, ho] at hj
  simp only [inM_eq] at hj
  refine closeM_shut hs ops.size _ (fun k hk => ?_) j hj
  rw [maskOf_eq, decide_eq_true_eq, mem_depsOf] at hk
  obtain ⟨e, he, hb, rfl⟩ := hk
  exact hall e he hb

theorem wpAnyL_first {i : Nat} {oi : Oper} {v : Value} (hi : ops[i]? = some oi) (hsel : ∀ (j : Nat) (o : Oper) cs b, ops[j]? = some o → o.op ≠ .select cs b)
    (hQ : ∀ k a w, Q (.panic k) (a.put oi.dst v) w → Q (.panic k) a w) :
    ∀ (fuel : Nat) (listed : Array Bool) (a : Act) (w : World), Shut ops listed →
      (∀ j oj, ops[j]? = some oj → j ≠ i → listed.getD j true = false → (∀ e ∈ oj.after, Region.binds .any e = true → e.on ≠ i) → oi.apart ops oj = true) →
      i ∈ Region.ready .any ops listed → YieldsIf P ops (S i) oi v a → S i w →
      wpAnyL P ops Q S fuel (listed.setIfInBounds i true) (a.put oi.dst v) w → wpAnyL P ops Q S (fuel + 1) listed a w := by
  intro fuel
  induction fuel with
  | zero =>
    intro listed a w _ _ hr hy hS H
    refine ⟨fun h => (by rw [h] at hr; cases hr), fun j hj => ?_⟩
    by_cases hji : j = i
    · subst hji; exact hy.wpOp hi hS ⟨fun _ _ h => h, H⟩
    · have := ready_mono hj hji
      rw [H.1] at this
      cases this
  | succ fuel ih =>
    intro listed a w hsh hfree hr hy hS H
    refine ⟨fun h => (by rw [h] at hr; cases hr), fun j hj => ?_⟩
    by_cases hji : j = i
    · subst hji; exact hy.wpOp hi hS ⟨fun _ _ h => h, H⟩
    · have hjc : waitsFor ops j i = false := by
        cases hc : waitsFor ops j i with
        | false => rfl
        | true => exact absurd hr (listed_no_ready (waits_listed hsh hj hc))
      have h1 := H.2 j (ready_mono hj hji)
      obtain ⟨hjun, oj, hoj, hall⟩ := mem_ready.1 hj
      have hnot : ∀ e ∈ oj.after, Region.binds .any e = true → e.on ≠ i := fun e he hb heq => by
        have h1 := hall e he hb
        rw [heq] at h1
        exact listed_no_ready h1 hr
      have h2 := wpOp_putIf hoj (hfree j oj hoj hji hjun hnot) (fun cs b => hsel i oi cs b hi) (fun cs b => hsel j oj cs b hoj) hQ hy h1
      have hfree' : ∀ k ok, ops[k]? = some ok → k ≠ i → (listed.setIfInBounds j true).getD k true = false →
          (∀ e ∈ ok.after, Region.binds .any e = true → e.on ≠ i) → oi.apart ops ok = true := fun k ok hk hki hun hno => by
        refine hfree k ok hk hki ?_ hno
        by_cases hjk : j = k
        · subst hjk; exact hjun
        · rw [getD_set_ne true hjk] at hun; exact hun
      refine wpOp_mono (fun a' w' h3 => ⟨h3.2.1, ih (listed.setIfInBounds j true) a' w' (hsh.add hj) hfree' (ready_mono hr (Ne.symm hji)) h3.1 (h3.2.1 i hjc hS) ?_⟩) h2
      rw [Array.setIfInBounds_comm _ _ hji]
      exact h3.2.2
/-- An operation that looks at no memory comes first. -/
theorem wpAnyL_pure {i : Nat} {oi : Oper} {v : Value} (hi : ops[i]? = some oi) (hsel : ∀ (j : Nat) (o : Oper) cs b, ops[j]? = some o → o.op ≠ .select cs b)
    (hQ : ∀ k a w, Q (.panic k) (a.put oi.dst v) w → Q (.panic k) a w) :
    ∀ (fuel : Nat) (listed : Array Bool) (a : Act) (w : World),
      (∀ j oj, ops[j]? = some oj → j ≠ i → listed.getD j true = false → (∀ e ∈ oj.after, Region.binds .any e = true → e.on ≠ i) → oi.apart ops oj = true) →
      i ∈ Region.ready .any ops listed → YieldsIf P ops (fun _ => True) oi v a →
      wpAnyL P ops Q S fuel (listed.setIfInBounds i true) (a.put oi.dst v) w → wpAnyL P ops Q S (fuel + 1) listed a w := by
  intro fuel
  induction fuel with
  | zero =>
    intro listed a w _ hr hy H
    refine ⟨fun h => (by rw [h] at hr; cases hr), fun j hj => ?_⟩
    by_cases hji : j = i
    · subst hji; exact hy.wpOp hi trivial ⟨fun _ _ h => h, H⟩
    · have := ready_mono hj hji
      rw [H.1] at this
      cases this
  | succ fuel ih =>
    intro listed a w hfree hr hy H
    refine ⟨fun h => (by rw [h] at hr; cases hr), fun j hj => ?_⟩
    by_cases hji : j = i
    · subst hji; exact hy.wpOp hi trivial ⟨fun _ _ h => h, H⟩
    · have h1 := H.2 j (ready_mono hj hji)
      obtain ⟨hjun, oj, hoj, hall⟩ := mem_ready.1 hj
      have hnot : ∀ e ∈ oj.after, Region.binds .any e = true → e.on ≠ i := fun e he hb heq => by
        have h1 := hall e he hb
        rw [heq] at h1
        exact listed_no_ready h1 hr
      have h2 := wpOp_putIf hoj (hfree j oj hoj hji hjun hnot) (fun cs b => hsel i oi cs b hi) (fun cs b => hsel j oj cs b hoj) hQ hy h1
      have hfree' : ∀ k ok, ops[k]? = some ok → k ≠ i → (listed.setIfInBounds j true).getD k true = false →
          (∀ e ∈ ok.after, Region.binds .any e = true → e.on ≠ i) → oi.apart ops ok = true := fun k ok hk hki hun hno => by
        refine hfree k ok hk hki ?_ hno
        by_cases hjk : j = k
        · subst hjk; exact hjun
        · rw [getD_set_ne true hjk] at hun; exact hun
      refine wpOp_mono (fun a' w' h3 => ⟨h3.2.1, ih (listed.setIfInBounds j true) a' w' hfree' (ready_mono hr (Ne.symm hji)) h3.1 ?_⟩) h2
      rw [Array.setIfInBounds_comm _ _ hji]
      exact h3.2.2
end

/-! ### The evaluator -/
def sealNew (P : Program) (ops : Array Oper) (h : AH) (t : Tr Value) (o : Oper) (j : Nat) : List SE := match wantedT o ops t, o.op, loadH P h t o with
  | true, .load ty x, some v => match evT t x with
    | .pointer (some ad) => [⟨j, ty, ad, v⟩]
    | _ => []
  | _, _, _ => []
abbrev PickE := (Nat × Nat) × (Tr Value × List SE)
def picksS (P : Program) (ops : Array Oper) (size : Nat) (h : AH) : Nat → Nat → Tr Value → List SE → PickE
  | 0, M, t, acc => ((0, M), (t, acc))
  | f + 1, M, t, acc => match pickM M (tabOfH ops) 0 with
    | none => ((f + 1, M), (t, acc))
    | some j => match ops.toList[j]? with
      | none => ((f + 1, M), (t, acc))
      | some o => match explHeld P ops size h t h j with
        | none => ((f + 1, M), (t, acc))
        | some t' => picksS P ops size h f (addM M j) t' (sealNew P ops h t o j ++ acc)
def sealHas (P : Program) (h : AH) (e : SE) : Bool := match loadA P h e.ty e.ad with
  | some v => eqV v e.v
  | none => false
def sealKept (P : Program) (ops : Array Oper) (A : List SE) (j : Nat) (h : AH) : Bool := A.all fun e => waitsFor ops j e.l || sealHas P h e
def explSl (P : Program) (call : CallMT) (ops : Array Oper) (size : Nat) (A : List SE) : Nat → Nat → Tr Value → AH → Option (Tr Value × AH)
  | 0, M, t, h => match readyM M (tabOf ops) 0 with
    | [] => some (t, h)
    | _ => none
  | f + 1, M, t, h => match pickM M (tabOf ops) 0 with
    | some j => match explPure P ops size t h j with
      | some t' => explSl P call ops size A f (addM M j) t' h
      | none => none
    | none => match readyM M (tabOf ops) 0 with
      | [] => some (t, h)
      | [j] => match explOneMG P call ops size t h j with
        | some (t', h') => match sealKept P ops A j h' with
          | true => explSl P call ops size A f (addM M j) t' h'
          | false => none
        | none => none
      | _ => none
def sealEnd (st : AS) (ds : List AD) (acs : List AF) (k : List Item) : Option (Tr Value × AH) → R1
  | some (t, h) => nx st t k ds acs h
  | none => .no
def sealGo (P : Program) (call : CallMT) (st : AS) (ds : List AD) (acs : List AF) (h : AH) (k : List Item) (ops : Array Oper) : PickE → R1
  | ((f, M), (t, A)) => match A.all (fun e => Nat.blt e.ad.block h.n && sealHas P h e) with
    | true => sealEnd st ds acs k (explSl P call ops st.size A f M t h)
    | false => .no
def drawSeal (P : Program) (call : CallMT) (st : AS) (t : Tr Value) (ds : List AD) (acs : List AF) (h : AH) (k : List Item) (ops : Array Oper) : R1 :=
  match explB ops with
  | true => sealGo P call st ds acs h k ops (picksS P ops st.size h ops.size 0 t [])
  | false => .no

/-! ### It is sound -/
section
variable {P : Program} {w0 : World}
/-- What is asked for a load. -/
def SealS (P : Program) (i : Ren) (n : Nat) (A : List SE) (l : Nat) (w : World) : Prop := ∀ e ∈ A, e.l = l → ∃ v', VRel i n e.v v' ∧ (loadVar e.ty (i.addr e.ad)).run P w = .ok v' w

theorem seal_of {i i' : Ren} {n : Nat} {h : AH} {w : World} (s : Sat P i' h w0 w) (hle : i.le i' n) (hn : n ≤ h.n) {e : SE} (hb : e.ad.block < n) (hh : sealHas P h e = true) :
    ∃ v', VRel i' h.n e.v v' ∧ (loadVar e.ty (i.addr e.ad)).run P w = .ok v' w := by
  unfold sealHas at hh
  split at hh
  · rename_i v hv
    obtain ⟨v', g1, g2⟩ := loadA_sound s hv
    have e1 : i'.addr e.ad = i.addr e.ad := by unfold Ren.addr; rw [hle.blk _ hb]
    rw [e1] at g1
    rw [eqV_eq hh] at g2
    exact ⟨v', g2, g1⟩
  · cases hh

theorem picksS_sub {ops : Array Oper} {size : Nat} {h : AH} : ∀ (f M : Nat) (t : Tr Value) (acc : List SE), ∀ e ∈ acc, e ∈ (picksS P ops size h f M t acc).2.2
  | 0, M, t, acc, e, he => he
  | f + 1, M, t, acc, e, he => by
    unfold picksS
    split
    · exact he
    · split
      · exact he
      · split
        · exact he
        · exact picksS_sub f _ _ _ e (List.mem_append_right _ he)

theorem picksS_rel {ops : Array Oper} {size : Nat} {D : List Deferred} {Q : Exit → Act → World → Prop} (hsel : Region.noSelect ops = true) (hnd : noDefer ops = true) (hQp : ∀ k a w, ¬ Q (.panic k) a w)
    {i : Ren} {h : AH} {w : World} (s : Sat P i h w0 w) (A : List SE) (hA : ∀ l, SealS P i h.n A l w) :
    ∀ (f M : Nat) (listed : Array Bool) (t : Tr Value) (acc : List SE) (a : Act), Shut ops listed → Over ops listed M → XRel i h.n size t a.tmps → a.defers = D →
      (∀ e ∈ (picksS P ops size h f M t acc).2.2, e ∈ A) →
      (∀ listed' a', Shut ops listed' → Over ops listed' (picksS P ops size h f M t acc).1.2 → XRel i h.n size (picksS P ops size h f M t acc).2.1 a'.tmps → a'.defers = D → wpAnyL P ops Q (SealS P i h.n A) (picksS P ops size h f M t acc).1.1 listed' a' w) →
      wpAnyL P ops Q (SealS P i h.n A) f listed a w
  | 0, M, listed, t, acc, a, sh, vr, X, hd, hsub, K => K listed a sh vr X hd
  | f + 1, M, listed, t, acc, a, sh, vr, X, hd, hsub, K => by
    unfold picksS at K hsub
    cases hp : pickM M (tabOfH ops) 0 with
    | none => rw [hp] at K; exact K listed a sh vr X hd
    | some j =>
      rw [hp] at K hsub
      obtain ⟨o, ho, hrdy, hfree⟩ := vr.pickH hp
      simp only [Array.getElem?_toList, ho] at K hsub
      cases ht : explHeld P ops size h t h j with
      | none => rw [ht] at K; exact K listed a sh vr X hd
      | some t' =>
        rw [ht] at K hsub
        simp only at K hsub
        have hX := fun x hx => okOp_eval (a := a) (noDefer_spec hnd ho) X s.gi x hx
        unfold explHeld at ht
        rw [Array.getElem?_toList, ho] at ht
        simp only at ht
        split at ht
        · rename_i hw
          injection ht with ht
          subst ht
          exact wpAnyL_pure ho (Region.noSelect_spec hsel) (fun c a w hq => absurd hq (hQp c _ w)) f listed a w hfree hrdy (.inr ⟨wantedT_ne X hw, rfl⟩)
            (picksS_rel hsel hnd hQp s A hA f _ _ _ _ _ (sh.add hrdy) (vr.add ho) (X.put (VRel.undef _ _) o.dst) (by rw [put_eq.2, hd]) hsub K)
        · rename_i hw
          unfold putV at ht
          split at ht
          · rename_i v hv
            injection ht with ht
            subst ht
            unfold heldV at hv
            split at hv
            · rename_i hld
              have hv0 := hv
              unfold loadH at hv
              split at hv
              · rename_i ty x hop
                split at hv
                · rename_i ad hx
                  split at hv
                  · rename_i hlt
                    have hmem : (⟨j, ty, ad, v⟩ : SE) ∈ A := by
                      refine hsub _ (picksS_sub f _ _ _ _ (List.mem_append_left _ ?_))
                      unfold sealNew
                      rw [hw, hop, hv0]
                      simp only [hx]
                      exact List.mem_singleton.2 rfl
                    obtain ⟨v', g1, g2⟩ := hA j _ hmem rfl
                    have hxr := hX x (by rw [hop]; simp [Op.operands])
                    rw [hx] at hxr
                    have e1 : a.eval x = .pointer (some (i.addr ad)) := by
                      generalize a.eval x = z at hxr
                      cases hxr with
                      | one _ hf => simp [flat1] at hf
                      | ptr _ _ => rfl
                    have hrun : ∀ w', SealS P i h.n A j w' → (execOp a.eval o).run P w' = .ok (.value v') w' := fun w' hS => by
                      obtain ⟨v'', q1, q2⟩ := hS _ hmem rfl
                      have := g1.unique _ q1
                      subst this
                      have : (execOp a.eval o).run P w' = (do pure (Next.value (← loadVar ty (i.addr ad))) : Sem Next).run P w' := by simp [execOp, hop, e1, Instr.loadAt, Instr.sureAddr]
                      rw [this]
                      exact run_v q2
                    exact wpAnyL_first ho (Region.noSelect_spec hsel) (fun c a w hq => absurd hq (hQp c _ w)) f listed a w sh hfree hrdy (.inl ⟨wantedT_eq X hw, hrun⟩) (hA j)
                      (picksS_rel hsel hnd hQp s A hA f _ _ _ _ _ (sh.add hrdy) (vr.add ho) (X.put g1 o.dst) (by rw [put_eq.2, hd]) hsub K)
                  · cases hv
                · cases hv
              · cases hv
            · obtain ⟨v', g1, g2⟩ := opP_sound o hX hv
              exact wpAnyL_pure ho (Region.noSelect_spec hsel) (fun c a w hq => absurd hq (hQp c _ w)) f listed a w hfree hrdy (.inl ⟨wantedT_eq X hw, fun w' _ => g1 w'⟩)
                (picksS_rel hsel hnd hQp s A hA f _ _ _ _ _ (sh.add hrdy) (vr.add ho) (X.put g2 o.dst) (by rw [put_eq.2, hd]) hsub K)
          · cases ht

theorem explSl_rel (hN : Named P) {call : CallMT} (hC : CallMOk P call) {ops : Array Oper} {size : Nat} {D : List Deferred} {R : Act → World → Prop} (hsel : Region.noSelect ops = true) (hnd : noDefer ops = true)
    {i0 : Ren} {n0 : Nat} (A : List SE) (hAb : ∀ e ∈ A, e.ad.block < n0) :
    ∀ (f M : Nat) (listed : Array Bool) (i : Ren) (t : Tr Value) (h : AH) (a : Act) (w : World) (p : Tr Value × AH), Shut ops listed → Over ops listed M → i0.le i n0 → n0 ≤ h.n → Sat P i h w0 w → XRel i h.n size t a.tmps → a.defers = D →
      explSl P call ops size A f M t h = some p →
      (∀ i' a' w', i.le i' h.n → Keep h p.2 → Sat P i' p.2 w0 w' → XRel i' p.2.n size p.1 a'.tmps → a'.defers = D → R a' w') →
      wpAnyL P ops (fun e a w => e = .normal ∧ R a w) (SealS P i0 n0 A) f listed a w
  | 0, M, listed, i, t, h, a, w, p, sh, vr, hle, hn, s, X, hd, he, hR => by
    unfold explSl at he
    split at he
    · rename_i hr
      injection he with he
      subst he
      exact ⟨List.eq_nil_iff_forall_not_mem.2 (fun j hj => by have := vr.ready hj; rw [hr] at this; cases this), rfl, hR i a w (Ren.le.refl _ _) (Keep.refl _) s X hd⟩
    · cases he
  | f + 1, M, listed, i, t, h, a, w, p, sh, vr, hle, hn, s, X, hd, he, hR => by
    unfold explSl at he
    split at he
    · rename_i j hj
      obtain ⟨o, ho, hrdy, hfree⟩ := vr.pick hj
      split at he
      · rename_i t' ht'
        unfold explPure at ht'
        rw [Array.getElem?_toList, ho] at ht'
        simp only at ht'
        have hX := fun x hx => okOp_eval (a := a) (noDefer_spec hnd ho) X s.gi x hx
        obtain ⟨v, v', hy, hr, rfl⟩ : ∃ v v', Yields P ops o v' a ∧ VRel i h.n v v' ∧ t' = setT size o.dst v t := by
          split at ht'
          · rename_i hw
            injection ht' with ht'
            exact ⟨undef, undef, .inr ⟨wantedT_ne X hw, rfl⟩, VRel.undef _ _, ht'.symm⟩
          · rename_i hw
            split at ht'
            · rename_i v hv
              injection ht' with ht'
              obtain ⟨v', g1, g2⟩ := opP_sound o hX hv
              exact ⟨v, v', .inl ⟨wantedT_eq X hw, g1⟩, g2, ht'.symm⟩
            · cases ht'
        exact wpAnyL_pure ho (Region.noSelect_spec hsel) (fun c a w hq => by cases hq.1) f listed a w hfree hrdy hy.yieldsIf
          (explSl_rel hN hC hsel hnd A hAb f _ _ i _ h _ w p (sh.add hrdy) (vr.add ho) hle hn s (X.put hr o.dst) (by rw [put_eq.2, hd]) he hR)
      · cases he
    · split at he
      · rename_i hr
        injection he with he
        subst he
        have hr0 : Region.ready .any ops listed = [] := List.eq_nil_iff_forall_not_mem.2 (fun j hj => by have := vr.ready hj; rw [hr] at this; cases this)
        exact ⟨fun _ => ⟨rfl, hR i a w (Ren.le.refl _ _) (Keep.refl _) s X hd⟩, fun j hj => by rw [hr0] at hj; cases hj⟩
      · rename_i j hr
        have only : ∀ k ∈ Region.ready .any ops listed, k = j := fun k hk => by have := vr.ready hk; rw [hr] at this; simpa using this
        have hjr : j ∈ Region.ready .any ops listed := vr.of_ready (by rw [hr]; exact List.mem_singleton.2 rfl)
        refine ⟨fun e => absurd hjr (by rw [e]; exact List.not_mem_nil), fun k hk => ?_⟩
        obtain rfl := only k hk
        split at he
        · rename_i t' h' hone
          split at he
          · rename_i hkept
            have hpres : ∀ (i' : Ren) (w' : World), i.le i' h.n → Keep h h' → Sat P i' h' w0 w' → ∀ l, waitsFor ops k l = false → SealS P i0 n0 A l w → SealS P i0 n0 A l w' := fun i' w' g1 g2 g3 l hwl hS e he' hel => by
              have hle' : i0.le i' n0 := hle.trans g1 hn
              have hk := List.all_eq_true.1 hkept e he'
              rw [hel, hwl, Bool.false_or] at hk
              obtain ⟨v', q1, q2⟩ := seal_of g3 hle' (Nat.le_trans hn g2.n) (hAb e he') hk
              obtain ⟨v'', r1, r2⟩ := hS e he' hel
              have := (r1.mono hle' (Nat.le_trans hn g2.n)).unique _ q1
              subst this
              exact ⟨_, r1, q2⟩
            unfold explOneMG at hone
            rw [Array.getElem?_toList] at hone
            unfold wpOp
            cases ho : ops[k]? with
            | none => rw [ho] at hone; cases hone
            | some o =>
              rw [ho] at hone
              simp only at hone ⊢
              have hX := fun x hx => okOp_eval (a := a) (noDefer_spec hnd ho) X s.gi x hx
              split at hone
              · rename_i hw
                injection hone with hone
                obtain ⟨rfl, rfl⟩ := Prod.mk.inj hone
                rw [if_neg (by rw [wantedT_ne X hw]; simp)]
                exact ⟨fun l _ h => h, explSl_rel hN hC hsel hnd A hAb f _ _ i _ _ _ w p (sh.add hk) (vr.add ho) hle hn s (X.put (VRel.undef _ _) o.dst) (by rw [put_eq.2, hd]) he hR⟩
              · rename_i hw
                rw [if_pos (wantedT_eq X hw)]
                split at hone
                · rename_i v h1 hopM
                  injection hone with hone
                  obtain ⟨rfl, rfl⟩ := Prod.mk.inj hone
                  refine .inl (opM_wpG hN hC hX s hopM fun i' v' w' g1 g2 g3 g4 => ?_)
                  exact ⟨hpres i' w' g1 g2 g3, explSl_rel hN hC hsel hnd A hAb f _ _ i' _ _ _ w' p (sh.add hk) (vr.add ho) (hle.trans g1 hn) (Nat.le_trans hn g2.n) g3 ((X.mono g1 g2.n).put g4 o.dst) (by rw [put_eq.2, hd]) he
                    (fun i2 a2 w2 k1 k2 k3 k4 k5 => hR i2 a2 w2 (g1.trans k1 g2.n) (g2.trans k2) k3 k4 k5)⟩
                · cases hone
          · cases he
        · cases he
      · cases he

theorem drawSeal_rel (hN : Named P) (hM : P.follows .mixedOrders = true) {call : CallMT} (hC : CallMOk P call) {i : Ren} {cs : List Frame} {st : AS} {t : Tr Value} {ds : List AD} {acs : List AF} {h : AH} {k : List Item} {id : Nat} {ops : Array Oper} {fr : Frame} {fs : List Frame} {w : World}
    (S : SRel P i w0 cs ⟨⟨st, t, .code (.region id ops true) :: k, ds, false⟩, acs, h⟩ fr fs w) : RRel P i w0 cs h (lone fr fs w) (drawSeal P call st t ds acs h k ops) := by
  unfold drawSeal
  split
  · rename_i hB
    simp only [explB, Bool.and_eq_true] at hB
    have sd := S.sat.drew
    generalize hp : picksS P ops st.size h ops.size 0 t [] = p
    obtain ⟨⟨f, M⟩, t1, A⟩ := p
    show RRel P i w0 cs h (lone fr fs w) (match A.all (fun e => Nat.blt e.ad.block h.n && sealHas P h e) with
      | true => sealEnd st ds acs k (explSl P call ops st.size A f M t1 h)
      | false => .no)
    split
    · rename_i hall
      cases hx : explSl P call ops st.size A f M t1 h with
      | none => trivial
      | some q =>
        obtain ⟨t2, h2⟩ := q
        have hAb : ∀ e ∈ A, e.ad.block < h.n ∧ sealHas P h e = true := fun e he => by
          have := List.all_eq_true.1 hall e he
          simp only [Bool.and_eq_true, Nat.blt_eq] at this
          exact this
        refine region_rel hM S hB.2 (wpAny_of_L _ _ _ _ (picksS_rel hB.1 hB.2 (fun k a w hq => by cases hq.1) sd A (fun l e he hl => ?_) ops.size 0 _ t [] _ (Shut.none ops) (Over.none ops) S.f.tmps rfl (by rw [hp]; exact fun e he => he) (by
          rw [hp]
          intro listed' a' sh' vr' X' hd'
          exact explSl_rel hN hC hB.1 hB.2 A (fun e he => (hAb e he).1) f M listed' i t1 h a' _ (t2, h2) sh' vr' (Ren.le.refl _ _) (Nat.le_refl _) sd X' hd' hx (fun i' a2 w2 g1 g2 g3 g4 g5 => ⟨i', g1, g2, g3, g4, g5⟩))))
        exact seal_of sd (Ren.le.refl _ _) (Nat.le_refl _) (hAb e he).1 (hAb e he).2
    · trivial
  · trivial
end
end Go.Proofs.Ev
