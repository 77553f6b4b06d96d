/-
  AN EVALUATOR OF CLOSED CALLS, PART 12: regions whose order is drawn. It holds for every program; no statement is proved here.
-/
import Derived.Test.YtpjeaajjlkgekaaDoorEv11
import Derived.Deep.Quiet
import Derived.StillTail
noncomputable section
namespace Go.Proofs.Ev
open Go.RowKit
set_option linter.unusedVariables false
set_option linter.unusedSimpArgs false

/-! ### Operations that leave the world alone -/
def flatQ (P : Program) (ρ : Operand → Value) (o : Oper) (h : AH) : Option Value := match flatOp P ρ o h with
  | .val v _ => some v
  | _ => none
def ptrQ : Option Addr → Option Value
  | some b => some (.pointer (some b))
  | none => none
def builtinQ (P : Program) (ρ : Operand → Value) (o : Oper) (b : Builtin) (h : AH) : Option Value := match b with
  | .copy => none
  | .append => none
  | _ => flatQ P ρ o h
def opQ (P : Program) (ρ : Operand → Value) (o : Oper) (h : AH) : Option Value :=
  match o.op with
  | .move x => some (ρ x)
  | .assign x => some (ρ x)
  | .nilCheck x => match ρ x with
    | .pointer (some a) => some (.pointer (some a))
    | _ => none
  | .extract x k => match ρ x with
    | .tuple vs => vs.toList[k]?
    | _ => none
  | .load t a => match ρ a with
    | .pointer (some a) => loadA P h t a
    | _ => none
  | .fieldAddr s x k => match ρ x with
    | .pointer (some a) => ptrQ (fieldAtA P s a k)
    | _ => none
  | .indexAddr t x ix => match ρ ix with
    | .int _ _ => ptrQ (indexAtA P t (ρ x) (ρ ix))
    | _ => none
  | .field t x k => fieldA P t (ρ x) k
  | .slice t x lo hi mx => match (lo.toList ++ hi.toList ++ mx.toList).all (fun y => flat (ρ y)), ρ x with
    | true, .slice _ _ _ => sliceA P t (ρ x) (lo.map ρ) (hi.map ρ) (mx.map ρ)
    | _, _ => none
  | .binOp op _ x y _ => match ρ x, ρ y with
    | .int .i64 a, .int .i64 b => match fastInt op a b with
      | some v => some v
      | none => flatQ P ρ o h
    | _, _ => flatQ P ρ o h
  | .call c => match c.callee with
    | .builtin b => builtinQ P ρ o b h
    | _ => none
  | _ => flatQ P ρ o h

section
variable {P : Program} {i : Ren} {h : AH} {w0 w : World} {ρ ρ' : Operand → Value}

theorem flatQ_sound (o : Oper) (hρ : ∀ x ∈ o.op.operands, VRel i h.n (ρ x) (ρ' x)) {v : Value} (hv : flatQ P ρ o h = some v) : (execOp ρ' o).run P w = .ok (.value v) w ∧ VRel i h.n v v := by
  unfold flatQ at hv
  split at hv
  · rename_i v1 h1 hf
    injection hv with hv
    subst hv
    unfold flatOp at hf
    split at hf
    · rename_i hfl
      have hcong : (∀ cs b, o.op ≠ .select cs b) → execOp ρ' o = execOp ρ o := fun hs => execOp_congr o hs fun x hx => VRel.eq_of_flat (List.all_eq_true.1 hfl x (by simpa using hx)) (hρ x hx)
      split at hf
      · cases hf
      · rename_i hns
        split at hf
        · rename_i v2 hv2
          split at hf
          · rename_i hfv
            injection hf with hf1 hf2
            subst hf1
            have := runP_sound P _ _ hv2 w
            exact ⟨by rw [hcong (fun cs b e => hns cs b e)]; exact this, VRel.of_flat i h.n v2 hfv⟩
          · cases hf
        · cases hf
    · cases hf
  · cases hv

theorem opQ_sound (s : Sat P i h w0 w) (o : Oper) (hρ : ∀ x ∈ o.op.operands, VRel i h.n (ρ x) (ρ' x)) {v : Value} (hv : opQ P ρ o h = some v) :
    ∃ v', (execOp ρ' o).run P w = .ok (.value v') w ∧ VRel i h.n v v' := by
  have hflat : ∀ {v}, flatQ P ρ o h = some v → ∃ v', (execOp ρ' o).run P w = .ok (.value v') w ∧ VRel i h.n v v' := fun hv => ⟨_, flatQ_sound o hρ hv⟩
  unfold opQ at hv
  split at hv
  · rename_i x hop
    injection hv with hv
    subst hv
    exact ⟨_, by simp [execOp, hop], hρ x (by rw [hop]; simp [Op.operands])⟩
  · rename_i x hop
    injection hv with hv
    subst hv
    exact ⟨_, by simp [execOp, hop], hρ x (by rw [hop]; simp [Op.operands])⟩
  · rename_i x hop
    have ha := hρ x (by rw [hop]; simp [Op.operands])
    split at hv
    · rename_i ad had
      injection hv with hv
      subst hv
      rw [had] at ha
      have e1 : ρ' x = .pointer (some (i.addr ad)) := by
        generalize ρ' x = z at ha
        cases ha with
        | one _ hv => simp [flat1] at hv
        | ptr _ _ => rfl
      rw [e1] at ha
      exact ⟨_, by simp [execOp, hop, e1], ha⟩
    · cases hv
  · rename_i x k hop
    have ha := hρ x (by rw [hop]; simp [Op.operands])
    split at hv
    · rename_i vs hvs
      rw [hvs] at ha
      have hk : k < vs.size := by
        have := (List.getElem?_eq_some_iff.1 hv).1
        simpa using this
      have hv2 : vs.getD k undef = v := by
        rw [Array.getD_eq_getD_getElem?, ← Array.getElem?_toList, hv]; rfl
      have he : ∃ ys, ρ' x = .tuple ys ∧ ys.size = vs.size ∧ VRel i h.n (vs.getD k undef) (ys.getD k undef) := by
        generalize ρ' x = z at ha
        cases ha with
        | one _ hv => simp [flat1] at hv
        | tuple _ ys h1 h2 => exact ⟨ys, rfl, h1.symm, h2 k hk⟩
      obtain ⟨ys, e1, e2, e3⟩ := he
      obtain ⟨u, hu, hr⟩ : ∃ u, ys[k]? = some u ∧ VRel i h.n (vs.getD k undef) u := ⟨ys.getD k undef, by rw [Array.getD_eq_getD_getElem?, Array.getElem?_eq_getElem (by omega)]; rfl, e3⟩
      rw [hv2] at hr
      exact ⟨u, by simp [execOp, hop, e1, Instr.extract, hu], hr⟩
    · cases hv
  · rename_i t a hop
    have ha := hρ a (by rw [hop]; simp [Op.operands])
    split at hv
    · rename_i ad had
      rw [had] at ha
      have e1 : ρ' a = .pointer (some (i.addr ad)) := by
        generalize ρ' a = z at ha
        cases ha with
        | one _ hv => simp [flat1] at hv
        | ptr _ _ => rfl
      have : (execOp ρ' o).run P w = (do pure (Next.value (← loadVar t (i.addr ad))) : Sem Next).run P w := by simp [execOp, hop, e1, Instr.loadAt, Instr.sureAddr]
      rw [this]
      obtain ⟨v', g1, g2⟩ := loadA_sound s hv
      exact ⟨v', run_v g1, g2⟩
    · cases hv
  · rename_i t x k hop
    have ha := hρ x (by rw [hop]; simp [Op.operands])
    split at hv
    · rename_i ad had
      rw [had] at ha
      have e1 : ρ' x = .pointer (some (i.addr ad)) ∧ ad.block < h.n := by
        generalize ρ' x = z at ha
        cases ha with
        | one _ hv => simp [flat1] at hv
        | ptr _ hb => exact ⟨rfl, hb⟩
      have : (execOp ρ' o).run P w = (do pure (Next.value (← Instr.fieldAt t (.pointer (some (i.addr ad))) k)) : Sem Next).run P w := by simp only [execOp, hop, e1.1]
      rw [this]
      cases hfa : fieldAtA P t ad k with
      | none => rw [hfa] at hv; cases hv
      | some b =>
        rw [hfa] at hv
        injection hv with hv
        subst hv
        obtain ⟨g1, g2⟩ := fieldAtA_sound (i := i) hfa w
        exact ⟨_, run_v g1, .ptr b (by rw [g2]; exact e1.2)⟩
    · cases hv
  · rename_i t x ix hop
    have ha := hρ x (by rw [hop]; simp [Op.operands])
    have hix := hρ ix (by rw [hop]; simp [Op.operands])
    split at hv
    · rename_i ik iv hiv
      have he := VRel.eq_of_flat (by rw [hiv]; rfl) hix
      have : (execOp ρ' o).run P w = (do pure (Next.value (← Instr.indexAt t (ρ' x) (ρ ix))) : Sem Next).run P w := by simp only [execOp, hop, he]
      rw [this]
      cases hfa : indexAtA P t (ρ x) (ρ ix) with
      | none => rw [hfa] at hv; cases hv
      | some b =>
        rw [hfa] at hv
        injection hv with hv
        subst hv
        obtain ⟨g1, g2⟩ := indexAtA_sound (i := i) ha hfa w
        exact ⟨_, run_v g1, .ptr b g2⟩
    · cases hv
  · rename_i t x k hop
    have ha := hρ x (by rw [hop]; simp [Op.operands])
    have : (execOp ρ' o).run P w = (do pure (Next.value (← Instr.field t (ρ' x) k)) : Sem Next).run P w := by simp only [execOp, hop]
    rw [this]
    obtain ⟨v', g1, g2⟩ := fieldA_sound ha hv w
    exact ⟨v', run_v g1, g2⟩
  · rename_i t x lo hi mx hop
    have ha := hρ x (by rw [hop]; simp [Op.operands])
    split at hv
    · rename_i hf hx
      have e : ∀ y : Option Operand, (∀ z, y = some z → z ∈ o.op.operands ∧ z ∈ lo.toList ++ hi.toList ++ mx.toList) → y.map ρ' = y.map ρ := fun y hy => by
        cases y with
        | none => rfl
        | some z => simp only [Option.map_some, VRel.eq_of_flat (List.all_eq_true.1 hf z (hy z rfl).2) (hρ z (hy z rfl).1)]
      have e1 := e lo fun z hz => ⟨by rw [hop]; simp [Op.operands, hz], by simp [hz]⟩
      have e2 := e hi fun z hz => ⟨by rw [hop]; simp [Op.operands, hz], by simp [hz]⟩
      have e3 := e mx fun z hz => ⟨by rw [hop]; simp [Op.operands, hz], by simp [hz]⟩
      have : (execOp ρ' o).run P w = (do pure (Next.value (← Instr.sliceAt t (ρ' x) (lo.map ρ) (hi.map ρ) (mx.map ρ))) : Sem Next).run P w := by simp only [execOp, hop, e1, e2, e3]
      rw [this]
      obtain ⟨v', g1, g2⟩ := sliceA_sound (w := w) ha hv
      exact ⟨v', run_v g1, g2⟩
    · cases hv
  · rename_i op t x y yt hop
    have hx := hρ x (by rw [hop]; simp [Op.operands])
    have hy := hρ y (by rw [hop]; simp [Op.operands])
    split at hv
    · rename_i a b ha hb
      split at hv
      · rename_i v1 hv1
        injection hv with hv
        subst hv
        rw [ha] at hx
        rw [hb] at hy
        have e1 := VRel.eq_of_flat rfl hx
        have e2 := VRel.eq_of_flat rfl hy
        obtain ⟨g1, g2⟩ := fastInt_sound (P := P) hv1 t x y w
        exact ⟨_, by simp only [execOp, hop, e1, e2]; exact run_v g1, VRel.of_flat _ _ _ g2⟩
      · exact hflat hv
    · exact hflat hv
  · split at hv
    · unfold builtinQ at hv
      split at hv
      · cases hv
      · cases hv
      · exact hflat hv
    · cases hv
  · exact hflat hv

end

/-! ### An order in a frame that may be a round's -/
theorem apply_row {P : Program} {fr : Frame} {fs : List Frame} {s : Sem Next} {w w' : World} {r : String} {args : Array Value} (hk : ∀ d a b c k, fr.todo ≠ .call d a b c :: k) (hk2 : ∀ a b k, fr.todo ≠ .extern a b :: k) (h : s.run P w = .ok (.row r args) w') :
    (stepG.apply P true fr fs none s w).bare = .go { frame := Frame.ofRow P r args .normal, callers := fr :: fs, status := .running, dying := none } w' := by
  have hkind : (match fr.todo with | .call _ true _ _ :: _ => CallKind.wrapped | _ => .normal) = .normal := by
    split
    · rename_i hh; exact absurd hh (hk _ _ _ _ _)
    · rfl
  simp only [stepG.apply, Sem.runT_eq, if_true, h, GStep.bare_after]
  split
  · rename_i hh; exact absurd hh (hk _ _ _ _ _)
  · rfl

theorem apply_defer {P : Program} {fr : Frame} {fs : List Frame} {s : Sem Next} {w w' : World} {d : Deferred} (h : s.run P w = .ok (.defer d) w') :
    (stepG.apply P true fr fs none s w).bare = .go { frame := { fr with defers := d :: fr.defers }.finish undef, callers := fs, status := .running, dying := none } w' := by
  simp [stepG.apply, Sem.runT_eq, h]

theorem wp_opsR {P : Program} {ops : Array Oper} {R : Act → World → Prop} (hnd : noDefer ops = true) : ∀ (l : List Nat) (a : Act) (w : World), wpOps P ops (fun e a w => e = .normal ∧ R a w) l a w →
    ∀ (b : Frame) (k : List Item) (cs : List Frame), ∃ a' w', R a' w' ∧ Steps P (lone (b.atR a (.inRegion ops l :: k)) cs w) (lone (b.atR a' k) cs w')
  | [], a, w, h, b, k, cs => ⟨a, w, h.2, .one stepR_region_end⟩
  | j :: l, a, w, h, b, k, cs => by
    unfold wpOps at h
    cases ho : ops[j]? with
    | none =>
      simp only [ho] at h
      obtain ⟨a', w', h1, h2⟩ := wp_opsR hnd l a w h b k cs
      refine ⟨a', w', h1, .head ?_ h2⟩
      have := stepR_op_skip (P := P) (b := b) (a := a) (k := k) (cs := cs) (w := w) (ops := ops) (i := j) (rest := l) (by rw [ho]; rfl)
      rw [ho] at this
      exact this
    | some o =>
      simp only [ho] at h
      have hdst : (ops[j]?).bind (·.dst) = o.dst := by rw [ho]; rfl
      split at h
      · rename_i hw
        have hx : o.wp P a w (wpOps P ops (fun e a w => e = .normal ∧ R a w) l) (fun e a w => e = .normal ∧ R a w) := by
          rcases h with h | ⟨_, a1, w1, h1, _⟩
          · exact h
          · cases h1
        have hg := stepGR_op (P := P) (b := b) (a := a) (k := k) (cs := cs) (w := w) (rest := l) ho hw
        rw [Oper.semAt_eq _ _ _ (okOp_defer (noDefer_spec hnd ho))] at hg
        have fin : ∀ v, (b.atR a (.inRegion ops (j :: l) :: k)).finish v = b.atR (a.put o.dst v) (.inRegion ops l :: k) := fun v => by rw [Frame.finish_atR, hdst]
        have go : ∀ v w1, step P (lone (b.atR a (.inRegion ops (j :: l) :: k)) cs w) = .next (lone ((b.atR a (.inRegion ops (j :: l) :: k)).finish v) cs w1) → wpOps P ops (fun e a w => e = .normal ∧ R a w) l (a.put o.dst v) w1 →
            ∃ a' w', R a' w' ∧ Steps P (lone (b.atR a (.inRegion ops (j :: l) :: k)) cs w) (lone (b.atR a' k) cs w') := fun v w1 hs hr => by
          obtain ⟨a', w', h1, h2⟩ := wp_opsR hnd l _ w1 hr b k cs
          exact ⟨a', w', h1, .head hs (by rw [fin]; exact h2)⟩
        unfold Oper.wp at hx
        cases hr : (execOp a.eval o).run P w with
        | ok x w1 =>
          rw [hr] at hx
          cases x with
          | value v => exact go v w1 (step_lone_go (by rw [hg]; exact apply_value hr)) hx
          | skip => exact go _ w1 (step_lone_go (by rw [hg]; exact apply_skip hr)) hx
          | enter f args =>
            have hs : step P (lone (b.atR a (.inRegion ops (j :: l) :: k)) cs w) = .next (lone (Frame.enter P f args .normal) (b.atR a (.inRegion ops (j :: l) :: k) :: cs) w1) := step_lone_go (by
              rw [hg]
              exact apply_enter (fun d x y z k hh => by simp [Frame.atR] at hh) hr)
            obtain ⟨e, w2, fr, hR, hC, hfn, hl⟩ := hx (b.atR a (.inRegion ops (j :: l) :: k) :: cs)
            cases e with
            | returned v =>
              obtain ⟨a', w', h1, h2⟩ := wp_opsR hnd l _ w2 hR b k cs
              refine ⟨a', w', h1, .head hs (Steps.trans hC (.head (step_leave_returned hl) (by rw [fin]; exact h2)))⟩
            | panicked ch => cases hR.1
            | outgrown =>
              obtain ⟨a1, w1', h1, _⟩ := hR
              cases h1
          | row r args =>
            have hs : step P (lone (b.atR a (.inRegion ops (j :: l) :: k)) cs w) = .next (lone (Frame.ofRow P r args .normal) (b.atR a (.inRegion ops (j :: l) :: k) :: cs) w1) := step_lone_go (by
              rw [hg]
              exact apply_row (fun d x y z k hh => by simp [Frame.atR] at hh) (fun x y k hh => by simp [Frame.atR] at hh) hr)
            obtain ⟨v, w2, hR, hst⟩ := hx (b.atR a (.inRegion ops (j :: l) :: k)) cs
            obtain ⟨a', w', h1, h2⟩ := wp_opsR hnd l _ w2 hR b k cs
            exact ⟨a', w', h1, .head hs (Steps.trans hst (by rw [fin]; exact h2))⟩
          | «defer» d =>
            have hs : step P (lone (b.atR a (.inRegion ops (j :: l) :: k)) cs w) = .next (lone ((b.atR ⟨a.tmps, d :: a.defers⟩ (.inRegion ops (j :: l) :: k)).finish undef) cs w1) := step_lone_go (by rw [hg]; exact apply_defer hr)
            obtain ⟨a', w', h1, h2⟩ := wp_opsR hnd l _ w1 hx b k cs
            refine ⟨a', w', h1, .head hs ?_⟩
            rw [Frame.finish_atR, hdst]
            exact h2
          | _ => exact hx.elim
        | halt x w1 =>
          rw [hr] at hx
          cases x with
          | panic v => cases hx.1
          | _ => exact hx.elim
      · rename_i hw
        obtain ⟨a', w', h1, h2⟩ := wp_opsR hnd l _ w h b k cs
        refine ⟨a', w', h1, .head ?_ h2⟩
        have := stepR_op_skip (P := P) (b := b) (a := a) (k := k) (cs := cs) (w := w) (ops := ops) (i := j) (rest := l) (by rw [ho]; simpa using hw)
        rw [hdst] at this
        exact this

end Go.Proofs.Ev
