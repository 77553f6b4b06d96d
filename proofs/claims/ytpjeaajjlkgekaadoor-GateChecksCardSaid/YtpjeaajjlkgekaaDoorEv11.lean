/-
  AN EVALUATOR OF CLOSED CALLS, PART 11: each step of the evaluator is some steps of the model: operations, rounds, ranges over functions; the whole step. It holds for every program; no statement is proved here.
-/
import Derived.Test.YtpjeaajjlkgekaaDoorEv10
noncomputable section
namespace Go.Proofs.Ev
open Go.RowKit
set_option linter.unusedVariables false
set_option linter.unusedSimpArgs false

section
variable {P : Program} {i : Ren} {w0 : World} {cs : List Frame}

theorem begin_rel {st : AS} {t : Tr Value} {ds : List AD} {acs : List AF} {h : AH} {fr : Frame} {fs : List Frame} {w : World} {k : List Item}
    (S : SRel P i w0 cs ⟨⟨st, t, .beginRound :: k, ds, false⟩, acs, h⟩ fr fs w) : RRel P i w0 cs h (lone fr fs w) (beginStep st t ds acs h k) := by
  obtain ⟨it', k', h1, h2, h3⟩ := S.run
  obtain rfl : it' = .beginRound := h1
  have R := S.f.round
  simp only at R
  unfold beginStep
  split
  · rename_i l hl
    rw [hl] at R
    split
    · rename_i r ho hb
      have hb' : h.ro ≤ l := by simpa using hb
      split
      · rename_i hst
        obtain ⟨r', hr', L⟩ := S.sat.loop ho
        have hrun := run_beginRound (P := P) hr' (by rw [L.state, hst])
        have hs := stepR_beginRound (P := P) (b := fr) (a := ⟨fr.tmps, fr.defers⟩) (k := k') (cs := fs) R hrun
        rw [← h3] at hs
        exact nx_rel S (h' := h.put l (.loop { r with state := .busy })) hs (Ren.le.refl _ _)
          (S.sat.putObj ho rfl hb' (p := .loop { r with state := .busy }) (p' := .loop { r' with state := .busy }) ⟨_, rfl, rfl, L.pending, L.fn, L.tmps, L.params, L.assign, L.body, L.defers, L.lt⟩)
          (Keep.put hb' _) S.f.tmps h2
      · trivial
    · trivial
  · trivial

theorem stepR_endRange {b : Frame} {a : Act} {k : List Item} {fs : List Frame} {w w' : World} {l : Nat} {jump : Option Code} (hr : (Instr.endLoop l).run P w = .ok jump w') :
    step P (lone (b.atR a (.endRangeFunc l :: k)) fs w) = .next (lone (b.atR a ((jump.map Item.code).toList ++ k)) fs w') :=
  step_lone_go (by simp [stepG, stepG.exec, Frame.atR, Sem.runT_eq, hr])

theorem endRange_rel {st : AS} {t : Tr Value} {ds : List AD} {acs : List AF} {h : AH} {fr : Frame} {fs : List Frame} {w : World} {k : List Item} {l : Nat}
    (S : SRel P i w0 cs ⟨⟨st, t, .endRangeFunc l :: k, ds, false⟩, acs, h⟩ fr fs w) : RRel P i w0 cs h (lone fr fs w) (endRangeStep st t ds acs h k l) := by
  obtain ⟨it', k', h1, h2, h3⟩ := S.run
  obtain ⟨rfl, hlt⟩ : it' = .endRangeFunc (i.blk l) ∧ l < h.n := h1
  unfold endRangeStep
  split
  · rename_i r ho hb
    have hb' : h.ro ≤ l := by simpa using hb
    obtain ⟨r', hr', L⟩ := S.sat.loop ho
    have key : r.state ≠ .busy → RRel P i w0 cs h (lone fr fs w) (nx st t ((r.pending.map Item.code).toList ++ k) ds acs (h.put l (.loop { r with state := .exhausted }))) := fun hst => by
      have hrun := run_endLoop (P := P) hr' (by rw [L.state]; exact hst)
      have hs := stepR_endRange (P := P) (b := fr) (a := ⟨fr.tmps, fr.defers⟩) (k := k') (fs := fs) hrun
      rw [← h3] at hs
      refine nx_rel S (h' := h.put l (.loop { r with state := .exhausted })) hs (Ren.le.refl _ _)
        (S.sat.putObj ho rfl hb' (p := .loop { r with state := .exhausted }) (p' := .loop { r' with state := .exhausted }) ⟨_, rfl, rfl, L.pending, L.fn, L.tmps, L.params, L.assign, L.body, L.defers, L.lt⟩)
        (Keep.put hb' _) S.f.tmps (TRel.append ?_ h2)
      rw [L.pending]
      cases r.pending with
      | none => trivial
      | some c => exact ⟨rfl, trivial⟩
    split
    · trivial
    · rename_i hst
      exact key fun e => hst e
  · trivial

/-! ### Operations -/
theorem apply_value {fr : Frame} {fs : List Frame} {s : Sem Next} {w w' : World} {v : Value} (h : s.run P w = .ok (.value v) w') :
    (stepG.apply P true fr fs none s w).bare = .go { frame := fr.finish v, callers := fs, status := .running, dying := none } w' := by
  simp [stepG.apply, Sem.runT_eq, h]
theorem apply_skip {fr : Frame} {fs : List Frame} {s : Sem Next} {w w' : World} (h : s.run P w = .ok .skip w') :
    (stepG.apply P true fr fs none s w).bare = .go { frame := fr.finish undef, callers := fs, status := .running, dying := none } w' := by
  simp [stepG.apply, Sem.runT_eq, h]
theorem apply_enter {fr : Frame} {fs : List Frame} {s : Sem Next} {w w' : World} {f : Nat} {args : Array Value} (hk : ∀ d a b c k, fr.todo ≠ .call d a b c :: k) (h : s.run P w = .ok (.enter f args) w') :
    (stepG.apply P true fr fs none s w).bare = .go { frame := Frame.enter P f args .normal, callers := fr :: fs, status := .running, dying := none } w' := by
  have hkind : (match fr.todo with | .call _ true _ _ :: _ => CallKind.wrapped | _ => .normal) = .normal := by
    split
    · rename_i hh; exact absurd hh (hk _ _ _ _ _)
    · rfl
  simp only [stepG.apply, Sem.runT_eq, if_true, h, GStep.bare_after]
  simp [hkind]
  split
  · rename_i hh; exact absurd hh (hk _ _ _ _ _)
  · rfl
theorem apply_round {fr : Frame} {fs : List Frame} {s : Sem Next} {w w' : World} {l f : Nat} {ts : Array Value} {assign body : Code} (h : s.run P w = .ok (.round l f ts assign body) w') :
    (stepG.apply P true fr fs none s w).bare = .go { frame := Frame.round l f ts assign body .normal, callers := fr :: fs, status := .running, dying := none } w' := by
  simp [stepG.apply, Sem.runT_eq, h]

theorem okOp_eval {o : Oper} (ho : okOp o = true) {size n : Nat} {t : Tr Value} {a : Act} (X : XRel i n size t a.tmps) (gi : Idn i n) : ∀ x ∈ o.op.operands, VRel i n (evT t x) (a.eval x) := fun x hx => by
  simp only [okOp, Bool.and_eq_true, List.all_eq_true] at ho
  exact evT_rel X gi (ho.1 x (by simpa using hx))
theorem okOp_defer {o : Oper} (ho : okOp o = true) : ∀ c, o.op ≠ .defer c := fun c hc => by
  simp [okOp, okD, hc] at ho

theorem noDefer_spec {ops : Array Oper} (h : noDefer ops = true) {j : Nat} {o : Oper} (ho : ops[j]? = some o) : okOp o = true :=
  List.all_eq_true.1 h o (by simpa using Array.mem_of_getElem? ho)

theorem go_rel (hN : Named P) {st : AS} {t : Tr Value} {ds : List AD} {acs : List AF} {h : AH} {fr : Frame} {fs : List Frame} {w : World} {k : List Item} {ops : Array Oper} {j : Nat} {rest : List Nat} {o : Oper}
    (S : SRel P i w0 cs ⟨⟨st, t, .inRegion ops (j :: rest) :: k, ds, false⟩, acs, h⟩ fr fs w) (ho : ops[j]? = some o) (hw : wantedT o ops t = true) (hok : okOp o = true) :
    RRel P i w0 cs h (lone fr fs w) (operGo P st t ds acs ops j rest k o.dst (opA P (evT t) o h)) := by
  obtain ⟨it', k', h1, h2, h3⟩ := S.run
  obtain rfl : it' = .inRegion ops (j :: rest) := h1
  have hdst : (ops[j]?).bind (·.dst) = o.dst := by rw [ho]; rfl
  have hw' := wantedT_eq S.f.tmps hw
  have hg := stepGR_op (P := P) (b := fr) (a := ⟨fr.tmps, fr.defers⟩) (k := k') (cs := fs) (w := w) (rest := rest) ho hw'
  rw [Oper.semAt_eq _ _ _ (okOp_defer hok), ← h3] at hg
  have hrep := opA_rep hN S.sat o (okOp_eval (a := ⟨fr.tmps, fr.defers⟩) hok S.f.tmps S.sat.gi)
  have fin : ∀ v, fr.finish v = fr.atR (Act.put ⟨fr.tmps, fr.defers⟩ o.dst v) (.inRegion ops rest :: k') := fun v => by
    have hfin := Frame.finish_atR fr ⟨fr.tmps, fr.defers⟩ ops j rest k' v
    rw [hdst] at hfin
    rw [← h3] at hfin
    exact hfin
  have put : ∀ v, (Act.put ⟨fr.tmps, fr.defers⟩ o.dst v) = ⟨match o.dst with | some d => fr.tmps.setIfInBounds d v | none => fr.tmps, fr.defers⟩ := fun v => by cases o.dst <;> rfl
  have value : ∀ v h', Val P i h w0 v h' ((execOp (Act.eval ⟨fr.tmps, fr.defers⟩) o).run P w) → RRel P i w0 cs h (lone fr fs w) (nx st (setT st.size o.dst v t) (.inRegion ops rest :: k) ds acs h') := by
    intro v h' hv
    obtain ⟨i', v', w', hrun, hle, hr, sat, K⟩ := hv
    have hs : step P (lone fr fs w) = .next (lone (fr.finish v') fs w') := step_lone_go (by rw [hg]; exact apply_value hrun)
    rw [fin, put] at hs
    exact nx_rel S hs hle sat K ((S.f.tmps.mono hle K.n).set hr o.dst) ⟨rfl, h2.mono hle K.n⟩
  generalize opA P (evT t) o h = r at hrep ⊢
  unfold operGo
  cases r with
  | val v h' => exact value v h' hrep
  | skip h' =>
    obtain ⟨i', w', hrun, hle, sat, K⟩ := hrep
    have hs : step P (lone fr fs w) = .next (lone (fr.finish undef) fs w') := step_lone_go (by rw [hg]; exact apply_skip hrun)
    rw [fin, put] at hs
    exact nx_rel S (k := .inRegion ops rest :: k) hs hle sat K ((S.f.tmps.mono hle K.n).set (VRel.undef _ _) o.dst) ⟨rfl, h2.mono hle K.n⟩
  | enter f args h' =>
    obtain ⟨i', args', w', hrun, hle, hr, sat, K⟩ := hrep
    have hs : step P (lone fr fs w) = .next (lone (Frame.enter P f args' .normal) (fr :: fs) w') := step_lone_go (by
      rw [hg]
      refine apply_enter (fun d a b c k hh => ?_) hrun
      rw [h3] at hh
      simp [Frame.atR] at hh)
    exact ⟨i', _, _, w', .one hs, ⟨FRel.enter hr f, ⟨S.f.mono hle K.n, S.c.mono hle K.n⟩, sat⟩, hle, K⟩
  | round l f vs assign body h' =>
    obtain ⟨i', vs', w', hrun, hle, hlt, hr, sat, K⟩ := hrep
    have hs : step P (lone fr fs w) = .next (lone (Frame.round (i'.blk l) f vs' assign body .normal) (fr :: fs) w') := step_lone_go (by
      rw [hg]
      exact apply_round hrun)
    exact ⟨i', _, _, w', .one hs, ⟨FRel.newRound hr hlt assign body, ⟨S.f.mono hle K.n, S.c.mono hle K.n⟩, sat⟩, hle, K⟩
  | many xs =>
    obtain ⟨p, hp, hv⟩ := hrep
    have := value p.1 p.2 hv
    exact ⟨_, List.mem_map.2 ⟨p, hp, rfl⟩, this⟩
  | no => trivial

theorem apply_recover {fr : Frame} {fs : List Frame} {s : Sem Next} {w w' : World} (h : s.run P w = .ok .recover w') (hr : fr.roundOf = none) (hk : fr.kind = .deferred) :
    (stepG.apply P true fr fs none s w).bare = match recoverD fs with
      | some (v, cs) => .go { frame := fr.finish v, callers := cs, status := .running, dying := none } w'
      | none => .go { frame := fr.finish .nilIface, callers := fs, status := .running, dying := none } w' := by
  simp only [stepG.apply, Sem.runT_eq, if_true, h, GStep.bare_after, hr, tryRecover_deferred hk]
  cases recoverD fs <;> rfl
theorem apply_deferA {fr : Frame} {fs : List Frame} {s : Sem Next} {w w' : World} {d : Deferred} (h : s.run P w = .ok (.defer d) w') :
    (stepG.apply P true fr fs none s w).bare = .go { frame := ({ fr with defers := d :: fr.defers }).finish undef, callers := fs, status := .running, dying := none } w' := by
  simp [stepG.apply, Sem.runT_eq, h]
theorem apply_panic {fr : Frame} {fs : List Frame} {s : Sem Next} {w w' : World} {v : Value} (h : s.run P w = .halt (.panic v) w') :
    (stepG.apply P true fr fs none s w).bare = .go { frame := fr.raise [{ v, recovered := false }], callers := fs, status := .running, dying := none } w' := by
  simp [stepG.apply, Sem.runT_eq, h]

theorem getD_iface {n : Nat} {t : TypeId} {v w : Value} (h : VRel i n (.iface t v) w) : ∃ v', w = .iface t v' := by
  cases h with
  | one _ hv => simp [flat1] at hv
  | iface _ _ v' _ => exact ⟨v', rfl⟩

theorem spec_rel (hN : Named P) {st : AS} {t : Tr Value} {ds : List AD} {acs : List AF} {h : AH} {fr : Frame} {fs : List Frame} {w : World} {k : List Item} {ops : Array Oper} {j : Nat} {rest : List Nat} {o : Oper}
    (S : SRel P i w0 cs ⟨⟨st, t, .inRegion ops (j :: rest) :: k, ds, false⟩, acs, h⟩ fr fs w) (ho : ops[j]? = some o) (hw : wantedT o ops t = true) :
    RRel P i w0 cs h (lone fr fs w) (specStep P st t ds acs h k ops j rest o (okOp o)) := by
  cases hok : okOp o with
  | true => exact go_rel hN S ho hw hok
  | false =>
  obtain ⟨it', k', h1, h2, h3⟩ := S.run
  obtain rfl : it' = .inRegion ops (j :: rest) := h1
  have hdst : (ops[j]?).bind (·.dst) = o.dst := by rw [ho]; rfl
  have hw' := wantedT_eq S.f.tmps hw
  have hg := stepGR_op (P := P) (b := fr) (a := ⟨fr.tmps, fr.defers⟩) (k := k') (cs := fs) (w := w) (rest := rest) ho hw'
  rw [← h3] at hg
  have fin : ∀ v, fr.finish v = fr.atR (Act.put ⟨fr.tmps, fr.defers⟩ o.dst v) (.inRegion ops rest :: k') := fun v => by
    have hfin := Frame.finish_atR fr ⟨fr.tmps, fr.defers⟩ ops j rest k' v
    rw [hdst] at hfin
    rw [← h3] at hfin
    exact hfin
  have put : ∀ v, (Act.put ⟨fr.tmps, fr.defers⟩ o.dst v) = ⟨match o.dst with | some d => fr.tmps.setIfInBounds d v | none => fr.tmps, fr.defers⟩ := fun v => by cases o.dst <;> rfl
  have R := S.f.round
  have hkind := S.f.kind
  simp only at R hkind
  unfold specStep
  simp only
  split
  · rename_i c hop
    unfold deferStep
    split
    · rename_i f hrd hcal hargs
      rw [hrd] at R
      have R' : fr.roundOf = none := R
      split
      · rename_i kf first captured he hx
        have hev := evT_rel (a := ⟨fr.tmps, fr.defers⟩) S.f.tmps S.sat.gi hx
        rw [he] at hev
        generalize hfv : Act.eval ⟨fr.tmps, fr.defers⟩ f = fv at hev
        cases hev with
        | one _ hv => simp [flat1] at hv
        | func _ _ first' _ captured' _ hs1 hs2 hs3 hs4 =>
          have hargs' : c.args = #[] := by simpa using hargs
          have hrun : (o.semAt fr.roundOf (Act.eval ⟨fr.tmps, fr.defers⟩)).run P w = .ok (.defer ⟨.fn (.func kf) captured', first'⟩) w := by
            rw [R', Oper.semAt_none]
            simp [execOp, hop, resolve, hcal, hargs', hfv, Deferred.ofValue, Sem.run_bind, Sem.run, Result.andThen, pure, Pure.pure, Ren.fn]
          have hs : step P (lone fr fs w) = .next (lone (({ fr with defers := ⟨.fn (.func kf) captured', first'⟩ :: fr.defers } : Frame).finish undef) fs w) := step_lone_go (by rw [hg]; exact apply_deferA hrun)
          have fin2 : ({ fr with defers := ⟨.fn (.func kf) captured', first'⟩ :: fr.defers } : Frame).finish undef = fr.atR ⟨match o.dst with | some d => fr.tmps.setIfInBounds d undef | none => fr.tmps, ⟨.fn (.func kf) captured', first'⟩ :: fr.defers⟩ (.inRegion ops rest :: k') := by
            have hfin := Frame.finish_atR fr ⟨fr.tmps, ⟨.fn (.func kf) captured', first'⟩ :: fr.defers⟩ ops j rest k' undef
            rw [hdst] at hfin
            have e : ({ fr with defers := ⟨.fn (.func kf) captured', first'⟩ :: fr.defers } : Frame) = fr.atR ⟨fr.tmps, ⟨.fn (.func kf) captured', first'⟩ :: fr.defers⟩ (.inRegion ops (j :: rest) :: k') := by
              rw [h3]; rfl
            rw [e, hfin]
            cases o.dst <;> rfl
          rw [fin2] at hs
          exact ⟨i, _, fs, w, .one hs, ⟨⟨S.f.fn, S.f.tmps.set (VRel.undef _ _) o.dst, ⟨rfl, h2⟩, ⟨⟨first', captured', rfl, ⟨hs1, hs2⟩, ⟨hs3, hs4⟩⟩, S.f.defers⟩, trivial, rfl, S.f.kind, S.f.round, S.f.rlt⟩, S.c, S.sat⟩, Ren.le.refl _ _, Keep.refl _⟩
      · trivial
    · trivial
  · rename_i x hop
    unfold panicStep
    split
    · rename_i ty v he hx
      have hev := evT_rel (a := ⟨fr.tmps, fr.defers⟩) S.f.tmps S.sat.gi hx
      rw [he] at hev
      obtain ⟨v', hfv⟩ := getD_iface hev
      have hrun : (o.semAt fr.roundOf (Act.eval ⟨fr.tmps, fr.defers⟩)).run P w = .halt (.panic (.iface ty v')) w := by
        rw [Oper.semAt_eq _ _ _ (by rw [hop]; simp)]
        simp only [execOp, hop, hfv, Instr.panic, goPanic]
        first
          | rfl
          | simp [go_sem]
      have hs : step P (lone fr fs w) = .next (lone (fr.raise [{ v := .iface ty v', recovered := false }]) fs w) := step_lone_go (by rw [hg]; exact apply_panic hrun)
      rw [hfv] at hev
      have hm : fr.mode = .run := S.f.mode
      have hra : fr.raise [{ v := .iface ty v', recovered := false }] = { fr with mode := .panicking [{ v := .iface ty v', recovered := false }] } := by
        rw [Frame.raise_mode, hm]; rfl
      rw [hra] at hs
      exact ⟨i, _, fs, w, .one hs, ⟨⟨S.f.fn, S.f.tmps, S.f.todo, S.f.defers, trivial, ⟨_, rfl, hev⟩, S.f.kind, S.f.round, S.f.rlt⟩, S.c, S.sat⟩, Ren.le.refl _ _, Keep.refl _⟩
    · trivial
  · rename_i c hop
    split
    · rename_i hcal
      unfold recStep
      split
      · rename_i c0 acs' hdf hrd
        rw [hrd] at R
        rw [hdf] at hkind
        have R' : fr.roundOf = none := R
        have hrun : (o.semAt fr.roundOf (Act.eval ⟨fr.tmps, fr.defers⟩)).run P w = .ok .recover w := by
          rw [R', Oper.semAt_none]
          simp [execOp, hop, resolve, hcal, invoke, builtin, Sem.run_bind, Sem.run, Result.andThen, pure, Pure.pure]
        have C := S.c
        simp only at C
        cases fs with
        | nil => exact C.elim
        | cons f fs =>
        have hb : (stepG P true { frame := fr, callers := f :: fs, status := .running, dying := none } w).bare = match recoverD (f :: fs) with
            | some (v, cs) => .go { frame := fr.finish v, callers := cs, status := .running, dying := none } w
            | none => .go { frame := fr.finish .nilIface, callers := f :: fs, status := .running, dying := none } w := by
          rw [hg]; exact apply_recover hrun R' hkind
        split
        · rename_i v hret hpan
          have hm := C.1.mode
          rw [hret, hpan] at hm
          obtain ⟨v', e, hv⟩ := hm
          have hrec : recoverD (f :: fs) = some (v', { f with mode := .panicking [{ v := v', recovered := true }] } :: fs) := by simp [recoverD, e]
          rw [hrec] at hb
          have hs := step_lone_go hb
          rw [fin, put] at hs
          exact ⟨i, _, _, w, .one hs, ⟨⟨S.f.fn, S.f.tmps.set hv o.dst, ⟨rfl, h2⟩, S.f.defers, trivial, rfl, S.f.kind, S.f.round, S.f.rlt⟩,
            ⟨⟨C.1.fn, C.1.tmps, C.1.todo, C.1.defers, trivial, by rw [hret]; exact ⟨v', rfl, hv⟩, C.1.kind, C.1.round, C.1.rlt⟩, C.2⟩, S.sat⟩, Ren.le.refl _ _, Keep.refl _⟩
        · trivial
        · rename_i hret hpan
          have hm := C.1.mode
          rw [hret, hpan] at hm
          have e : f.mode = .returning := hm
          have hrec : recoverD (f :: fs) = none := by simp [recoverD, e]
          rw [hrec] at hb
          have hs := step_lone_go hb
          rw [fin, put] at hs
          exact ⟨i, _, _, w, .one hs, ⟨⟨S.f.fn, S.f.tmps.set (.one _ rfl) o.dst, ⟨rfl, h2⟩, S.f.defers, trivial, rfl, S.f.kind, S.f.round, S.f.rlt⟩, C, S.sat⟩, Ren.le.refl _ _, Keep.refl _⟩
        · trivial
      · trivial
    · trivial
  · trivial

theorem oper_rel (hN : Named P) {st : AS} {t : Tr Value} {ds : List AD} {acs : List AF} {h : AH} {fr : Frame} {fs : List Frame} {w : World} {k : List Item} {ops : Array Oper} {j : Nat} {rest : List Nat} {o : Oper}
    (S : SRel P i w0 cs ⟨⟨st, t, .inRegion ops (j :: rest) :: k, ds, false⟩, acs, h⟩ fr fs w) (ho : ops[j]? = some o) : RRel P i w0 cs h (lone fr fs w) (operStep P st t ds acs h k ops j rest o) := by
  obtain ⟨it', k', h1, h2, h3⟩ := S.run
  obtain rfl : it' = .inRegion ops (j :: rest) := h1
  have hdst : (ops[j]?).bind (·.dst) = o.dst := by rw [ho]; rfl
  unfold operStep
  split
  · rename_i hw hnd
    exact go_rel hN S ho hw (noDefer_spec hnd ho)
  · rename_i hw hnd
    exact spec_rel hN S ho hw
  · rename_i hw
    have hw' := wantedT_ne S.f.tmps hw
    have hs := stepR_op_skip (P := P) (b := fr) (a := ⟨fr.tmps, fr.defers⟩) (k := k') (cs := fs) (w := w) (ops := ops) (i := j) (rest := rest) (by rw [ho]; simpa using hw')
    rw [hdst, ← h3] at hs
    have put : (Act.put ⟨fr.tmps, fr.defers⟩ o.dst undef) = ⟨match o.dst with | some d => fr.tmps.setIfInBounds d undef | none => fr.tmps, fr.defers⟩ := by cases o.dst <;> rfl
    rw [put] at hs
    exact nx_rel S hs (Ren.le.refl _ _) S.sat (Keep.refl _) (S.f.tmps.set (VRel.undef _ _) o.dst) ⟨rfl, h2⟩

theorem reg_rel (hN : Named P) {st : AS} {t : Tr Value} {ds : List AD} {acs : List AF} {h : AH} {fr : Frame} {fs : List Frame} {w : World} {k : List Item} {ops : Array Oper} {l : List Nat}
    (S : SRel P i w0 cs ⟨⟨st, t, .inRegion ops l :: k, ds, false⟩, acs, h⟩ fr fs w) : RRel P i w0 cs h (lone fr fs w) (regStep P st t ds acs h k ops l) := by
  cases l with
  | nil =>
    obtain ⟨it', k', h1, h2, h3⟩ := S.run
    obtain rfl : it' = .inRegion ops [] := h1
    exact nx_same S (k' := k') (by rw [h3]; simpa [Frame.atR] using stepR_region_end (b := fr) (a := ⟨fr.tmps, fr.defers⟩)) h2
  | cons j rest =>
    unfold regStep
    simp only
    rw [Array.getElem?_toList]
    cases ho : ops[j]? with
    | none => trivial
    | some o => exact oper_rel hN S ho

/-! ### A range over a function -/
theorem run_enterLoop_in {w : World} {l : Nat} {r : Loop} (fn : FuncId) (tmps : Array Value) (ps : Array Tmp) (assign body : Code) (hl : w.heap[l]? = some (.loop r)) :
    (Instr.enterLoop fn tmps ps assign body (some l)).run P w = .ok (w.heap.size, []) (w.alloc (.loop { state := .ready, pending := none, fn, tmps, params := ps, assign, body, defers := r.defers })) := by
  unfold Instr.enterLoop
  simp only [Sem.run_bind, run_getLoop hl, run_newObj_alloc, Result.andThen, Sem.run_pure]

theorem arrayT_rel {n size : Nat} {t : Tr Value} {ys : Array Value} (X : XRel i n size t ys) : ARel i n (arrayT size t) ys := by
  refine ARel.of_lt (by simp [arrayT, X.1]) fun j hj => ?_
  have hj' : j < size := by simpa [arrayT] using hj
  rw [show (arrayT size t).getD j undef = val t j by simp [arrayT, hj']]
  exact X.2 j

theorem call_range {w : World} (hN : Named P) {f : Operand} {ev : Operand → Value} {kf : Nat} {first captured : Array Value} {fn : Func} {body : Code} {l : Nat}
    (hf : ev f = .func (.func kf) first captured) (hc : ev (.const (.func (.yield l) #[] #[])) = .func (.yield l) #[] #[]) (hk : P.funcs[kf]? = some fn) (hb : fn.body = some body) (hN : Named P) :
    (do let d ← resolve ev { callee := .value f, args := #[.const (.func (.yield l) #[] #[])], argTypes := #[] } 0; invoke d.target d.args : Sem Next).run P w =
      .ok (.enter kf (first ++ #[.func (.yield l) #[] #[]] ++ captured)) w := by
  have hn : ¬ fn.name = "runtime.NumGoroutine" := by simpa using hN kf fn hk (by simp [hb])
  have hb2 : ¬ fn.body = none := by intro hb'; simp [hb'] at hb
  simp [resolve, hf, hc, Deferred.ofValue, invoke, callFunc, hk, hn, hb2, Sem.run_bind, Sem.run, Result.andThen, pure, Pure.pure]

theorem stepR_rangeFunc (hN : Named P) {b : Frame} {a : Act} {k : List Item} {fs : List Frame} {w w' : World} {f : Operand} {params : Array Tmp} {assign body body' : Code} {l kf : Nat} {mk : List Deferred} {first captured : Array Value} {fn : Func}
    (he : (Instr.enterLoop b.fn a.tmps params assign body b.roundOf).run P w = .ok (l, mk) w') (hf : a.eval f = .func (.func kf) first captured) (hk : P.funcs[kf]? = some fn) (hb : fn.body = some body') :
    step P (lone (b.atR a (.code (.rangeFunc f params assign body) :: k)) fs w) =
      .next (lone (Frame.enter P kf (first ++ #[.func (.yield l) #[] #[]] ++ captured) .normal) (b.atR ⟨a.tmps, mk ++ a.defers⟩ (.inRangeFunc l :: k) :: fs) w') := by
  refine step_lone_go ?_
  have hcall : ∀ fr' : Frame, fr'.tmps = a.tmps → (do let d ← resolve fr'.eval { callee := .value f, args := #[.const (.func (.yield l) #[] #[])], argTypes := #[] } 0; invoke d.target d.args : Sem Next).run P w' =
      .ok (.enter kf (first ++ #[.func (.yield l) #[] #[]] ++ captured)) w' := fun fr' ht => by
    refine call_range hN ?_ rfl hk hb hN
    rw [← hf]
    cases f <;> simp [Frame.eval, Act.eval, ht]
  have hap := apply_enter (P := P) (fs := fs) (fr := b.atR ⟨a.tmps, mk ++ a.defers⟩ (.inRangeFunc l :: k)) (fun d x y z k hh => by simp [Frame.atR] at hh) (hcall (b.atR ⟨a.tmps, mk ++ a.defers⟩ (.inRangeFunc l :: k)) rfl)
  rw [← hap]
  simp only [stepG, stepG.exec, Frame.atR, Sem.runT_eq, he, GStep.bare_after]

theorem yield_rel {n l : Nat} (h : l < n) : ARel i n #[.func (.yield l) #[] #[]] #[.func (.yield (i.blk l)) #[] #[]] :=
  ARel.of_lt rfl fun j hj => by
    obtain rfl : j = 0 := by simpa using hj
    exact .func (.yield l) #[] #[] #[] #[] h rfl (fun j => by simpa using VRel.undef i n) rfl (fun j => by simpa using VRel.undef i n)

theorem rangeIn_rel {st : AS} {t : Tr Value} {ds ds' : List AD} {acs : List AF} {h h' : AH} {fr : Frame} {fs : List Frame} {w w' : World} {k k' todo : List Item} {params : Array Tmp} {assign body : Code}
    (S : SRel P i w0 cs ⟨⟨st, t, todo, ds, false⟩, acs, h⟩ fr fs w) (h2 : TRel i h.n k k') {i' : Ren} (sat : Sat P i' h' w0 w') (hle : i.le i' h.n) (K : Keep h h') {b kf : Nat} (hb : b < h'.n)
    {first first' captured captured' : Array Value} (A1 : ARel i h.n first first') (A2 : ARel i h.n captured captured') {mk : List Deferred} (hd : DsRel i' h'.n ds' (mk ++ fr.defers))
    (hs : step P (lone fr fs w) = .next (lone (Frame.enter P kf (first' ++ #[.func (.yield w'.heap.size) #[] #[]] ++ captured') .normal) (fr.atR ⟨fr.tmps, mk ++ fr.defers⟩ (.inRangeFunc w'.heap.size :: k') :: fs)
      (w'.alloc (.loop { state := .ready, pending := none, fn := fr.fn, tmps := fr.tmps, params, assign, body, defers := i'.blk b })))) :
    RRel P i w0 cs h (lone fr fs w) (rangeIn P st t ds' acs h' kf first captured params assign body k b) := by
  have hle2 := Ren.with_le i' h'.n w'.heap.size 0
  have X := S.f.tmps.mono hle K.n
  have sat2 := sat.alloc 0 (o := .loop { state := .ready, pending := none, fn := st.fn, tmps := arrayT st.size t, params, assign, body, defers := b })
    (o' := .loop { state := .ready, pending := none, fn := fr.fn, tmps := fr.tmps, params, assign, body, defers := i'.blk b }) (fun _ =>
      ⟨_, rfl, rfl, rfl, S.f.fn, (arrayT_rel X).mono hle2 (by omega), rfl, rfl, rfl, (hle2.blk b hb).symm, by simp only; omega⟩)
  have K2 := Keep.push sat.ro (.loop { state := .ready, pending := none, fn := st.fn, tmps := arrayT st.size t, params, assign, body, defers := b })
  have hblk : w'.heap.size = (i'.with h'.n w'.heap.size 0).blk h'.n := by simp
  have hlt : h'.n < (h'.push (.loop { state := .ready, pending := none, fn := st.fn, tmps := arrayT st.size t, params, assign, body, defers := b })).n := by simp [AH.push]
  have hle3 := hle.trans hle2 K.n
  have K3 := K.trans K2
  have F := S.f.mono hle3 K3.n
  refine ⟨i'.with h'.n w'.heap.size 0, _, _, _, .one hs, ⟨?_, ⟨⟨F.fn, F.tmps, ⟨⟨by rw [← hblk], hlt⟩, h2.mono hle3 K3.n⟩, ?_, trivial, rfl, F.kind, F.round, F.rlt⟩, S.c.mono hle3 K3.n⟩, sat2⟩, hle3, K3⟩
  · refine FRel.enter (((A1.mono hle3 K3.n).append ?_).append (A2.mono hle3 K3.n)) kf
    have := yield_rel (i := i'.with h'.n w'.heap.size 0) hlt
    rw [← hblk] at this
    exact this
  · exact hd.mono hle2 K2.n

theorem range_rel (hN : Named P) {st : AS} {t : Tr Value} {ds : List AD} {acs : List AF} {h : AH} {fr : Frame} {fs : List Frame} {w : World} {k : List Item} {f : Operand} {params : Array Tmp} {assign body : Code}
    (S : SRel P i w0 cs ⟨⟨st, t, .code (.rangeFunc f params assign body) :: k, ds, false⟩, acs, h⟩ fr fs w) : RRel P i w0 cs h (lone fr fs w) (rangeStep P st t ds acs h f params assign body k) := by
  obtain ⟨it', k', h1, h2, h3⟩ := S.run
  obtain rfl : it' = .code (.rangeFunc f params assign body) := h1
  have R := S.f.round
  have D := S.f.defers
  simp only at R D
  unfold rangeStep
  split
  · rename_i kf first captured he hx
    have hev := evT_rel (a := ⟨fr.tmps, fr.defers⟩) S.f.tmps S.sat.gi hx
    rw [he] at hev
    rw [funcT_eq]
    split
    · rename_i fn hk
      split
      · rename_i body' hb
        generalize hfv : Act.eval ⟨fr.tmps, fr.defers⟩ f = fv at hev
        cases hev with
        | one _ hv => simp [flat1] at hv
        | func _ _ first' _ captured' _ hs1 hs2 hs3 hs4 =>
          have A1 : ARel i h.n first first' := ⟨hs1, hs2⟩
          have A2 : ARel i h.n captured captured' := ⟨hs3, hs4⟩
          unfold rangeFn
          cases hr : st.round with
          | none =>
            rw [hr] at R
            have hrun := run_enterLoop_outer (P := P) (w := w) fr.fn fr.tmps params assign body
            have hs := stepR_rangeFunc hN (b := fr) (a := ⟨fr.tmps, fr.defers⟩) (k := k') (fs := fs) (by rw [show fr.roundOf = none from R]; exact hrun) hfv hk hb
            rw [← h3] at hs
            have sat1 := S.sat.alloc 0 (o := .deferred (some [])) (o' := .deferred (some [])) (fun _ => rfl)
            have hle1 := Ren.with_le i h.n w.heap.size 0
            refine rangeIn_rel S h2 sat1 hle1 (Keep.push S.sat.ro _) (b := h.n) (by simp [AH.push]) A1 A2 (mk := [{ target := .collected w.heap.size, args := #[] }]) ?_ ?_
            · exact ⟨⟨by simp [mark], by simp [AH.push]⟩, D.mono hle1 (by simp [AH.push])⟩
            · rw [Ren.with_blk, World.size_alloc]
              exact hs
          | some l0 =>
            rw [hr] at R
            simp only
            split
            · rename_i r0 ho
              obtain ⟨r', hr', L⟩ := S.sat.loop ho
              have hrun := run_enterLoop_in (P := P) fr.fn fr.tmps params assign body hr'
              have hs := stepR_rangeFunc hN (b := fr) (a := ⟨fr.tmps, fr.defers⟩) (k := k') (fs := fs) (by rw [show fr.roundOf = some (i.blk l0) from R]; exact hrun) hfv hk hb
              rw [← h3, L.defers] at hs
              exact rangeIn_rel S h2 S.sat (Ren.le.refl _ _) (Keep.refl _) L.lt A1 A2 (mk := []) D hs
            · trivial
      · trivial
    · trivial
  · trivial

/-! ### The whole step -/
/-- What a region does whose order is drawn. -/
def DrawOk (P : Program) (draw : AS → Tr Value → List AD → List AF → AH → List Item → Array Oper → R1) : Prop :=
  ∀ (i : Ren) (w0 : World) (cs : List Frame) (st : AS) (t : Tr Value) (ds : List AD) (acs : List AF) (h : AH) (k : List Item) (id : Nat) (ops : Array Oper) (fr : Frame) (fs : List Frame) (w : World),
    SRel P i w0 cs ⟨⟨st, t, .code (.region id ops true) :: k, ds, false⟩, acs, h⟩ fr fs w → RRel P i w0 cs h (lone fr fs w) (draw st t ds acs h k ops)

variable {draw : AS → Tr Value → List AD → List AF → AH → List Item → Array Oper → R1}

theorem code_rel (hN : Named P) (hD : DrawOk P draw) {st : AS} {t : Tr Value} {ds : List AD} {acs : List AF} {h : AH} {fr : Frame} {fs : List Frame} {w : World} {k : List Item} {c : Code}
    (S : SRel P i w0 cs ⟨⟨st, t, .code c :: k, ds, false⟩, acs, h⟩ fr fs w) : RRel P i w0 cs h (lone fr fs w) (codeStep P draw st t ds acs h k c) := by
  obtain ⟨it', k', h1, h2, h3⟩ := S.run
  cases c with
  | skip => obtain rfl : it' = .code .skip := h1; exact nx_same S (k' := k') (by rw [h3]; simpa [Frame.atR] using stepR_skip (b := fr) (a := ⟨fr.tmps, fr.defers⟩)) h2
  | label l => obtain rfl : it' = .code (.label l) := h1; exact nx_same S (k' := k') (by rw [h3]; simpa [Frame.atR] using stepR_label (b := fr) (a := ⟨fr.tmps, fr.defers⟩)) h2
  | seq x y => obtain rfl : it' = .code (.seq x y) := h1; exact nx_same S (k := .code x :: .code y :: k) (k' := .code x :: .code y :: k') (by rw [h3]; simpa [Frame.atR] using stepR_seq (b := fr) (a := ⟨fr.tmps, fr.defers⟩)) ⟨rfl, rfl, h2⟩
  | cond c x y => exact cond_rel S
  | block id b => obtain rfl : it' = .code (.block id b) := h1; exact nx_same S (k := .code b :: .inBlock id :: k) (k' := .code b :: .inBlock id :: k') (by rw [h3]; simpa [Frame.atR] using stepR_block (b := fr) (a := ⟨fr.tmps, fr.defers⟩)) ⟨rfl, rfl, h2⟩
  | loop b => obtain rfl : it' = .code (.loop b) := h1; exact nx_same S (k := .code b :: .inLoop b :: k) (k' := .code b :: .inLoop b :: k') (by rw [h3]; simpa [Frame.atR] using stepR_loop (b := fr) (a := ⟨fr.tmps, fr.defers⟩)) ⟨rfl, rfl, h2⟩
  | scope b => obtain rfl : it' = .code (.scope b) := h1; exact nx_same S (k := .code b :: .inScope b :: k) (k' := .code b :: .inScope b :: k') (by rw [h3]; simpa [Frame.atR] using stepR_scope (b := fr) (a := ⟨fr.tmps, fr.defers⟩)) ⟨rfl, rfl, h2⟩
  | ret => exact ret_rel S
  | exit id => exact exit_rel S
  | goto l => exact goto_rel S
  | rangeFunc f ps x y => exact range_rel hN S
  | region id ops d =>
    cases d with
    | true => exact hD _ _ _ _ _ _ _ _ _ _ _ _ _ _ S
    | false => obtain rfl : it' = .code (.region id ops false) := h1; exact nx_same S (k := .inRegion ops (List.range ops.size) :: k) (k' := .inRegion ops (List.range ops.size) :: k') (by rw [h3]; simpa [Frame.atR] using stepR_region (b := fr) (a := ⟨fr.tmps, fr.defers⟩)) ⟨rfl, h2⟩
  | refuse y => trivial

theorem item_rel (hN : Named P) (hD : DrawOk P draw) {st : AS} {t : Tr Value} {ds : List AD} {acs : List AF} {h : AH} {fr : Frame} {fs : List Frame} {w : World} {k : List Item} {it : Item}
    (S : SRel P i w0 cs ⟨⟨st, t, it :: k, ds, false⟩, acs, h⟩ fr fs w) : RRel P i w0 cs h (lone fr fs w) (itemStep P draw st t ds acs h k it) := by
  cases it with
  | code c => exact code_rel hN hD S
  | inBlock id =>
    obtain ⟨it', k', h1, h2, h3⟩ := S.run
    obtain rfl : it' = .inBlock id := h1
    exact nx_same S (k' := k') (by rw [h3]; simpa [Frame.atR] using stepR_inBlock (b := fr) (a := ⟨fr.tmps, fr.defers⟩)) h2
  | inScope c =>
    obtain ⟨it', k', h1, h2, h3⟩ := S.run
    obtain rfl : it' = .inScope c := h1
    exact nx_same S (k' := k') (by rw [h3]; simpa [Frame.atR] using stepR_inScope (b := fr) (a := ⟨fr.tmps, fr.defers⟩)) h2
  | inLoop c =>
    obtain ⟨it', k', h1, h2, h3⟩ := S.run
    obtain rfl : it' = .inLoop c := h1
    exact nx_same S (k := .code c :: .inLoop c :: k) (k' := .code c :: .inLoop c :: k') (by rw [h3]; simpa [Frame.atR] using stepR_inLoop (b := fr) (a := ⟨fr.tmps, fr.defers⟩)) ⟨rfl, rfl, h2⟩
  | inRegion ops l => exact reg_rel hN S
  | beginRound => exact begin_rel S
  | endRangeFunc l => exact endRange_rel S
  | _ => trivial

theorem step1_rel (hN : Named P) (hD : DrawOk P draw) {s : St} {fr : Frame} {fs : List Frame} {w : World} (S : SRel P i w0 cs s fr fs w) : RRel P i w0 cs s.h (lone fr fs w) (step1 P draw s) := by
  obtain ⟨⟨st, t, todo, ds, ret⟩, acs, h⟩ := s
  cases ret with
  | true => exact retStep_rel hN S
  | false => cases todo with
    | nil => exact end_rel S
    | cons it k => exact item_rel hN hD S

end
end Go.Proofs.Ev
