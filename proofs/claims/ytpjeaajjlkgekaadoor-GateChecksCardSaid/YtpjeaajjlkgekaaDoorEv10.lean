/-
  AN EVALUATOR OF CLOSED CALLS, PART 10: each step of the evaluator is some steps of the model. It holds for every program; no statement is proved here.
-/
import Derived.Test.YtpjeaajjlkgekaaDoorEv9
noncomputable section
namespace Go.Proofs.Ev
open Go.RowKit
set_option linter.unusedVariables false
set_option linter.unusedSimpArgs false

section
variable {P : Program} {i : Ren} {n : Nat}

theorem val_put {t : Tr Value} {d : Nat} {v : Value} (j : Nat) : val (t.put d v) j = if j = d then v else val t j := by
  unfold val
  rw [Tr.get_put]
  by_cases h : j = d <;> simp [h]

theorem XRel.set {size : Nat} {t : Tr Value} {ys : Array Value} (X : XRel i n size t ys) {v v' : Value} (hv : VRel i n v v') (dst : Option Nat) :
    XRel i n size (setT size dst v t) (match dst with | some d => ys.setIfInBounds d v' | none => ys) := by
  cases dst with
  | none => exact X
  | some d =>
    refine ⟨by simpa using X.1, fun j => ?_⟩
    have h1 := X.2 j
    have hsz := X.1
    simp only [setT]
    by_cases hd : d < size
    · have hb : Nat.blt d size = true := by simpa [Nat.blt_eq] using hd
      rw [hb]
      simp only [val_put]
      by_cases hj : j = d
      · subst hj
        simp only [if_true]
        rw [show (ys.setIfInBounds j v').getD j undef = v' by simp [show j < ys.size by omega]]
        exact hv
      · rw [if_neg hj, show (ys.setIfInBounds d v').getD j undef = ys.getD j undef by simp [Array.getElem?_setIfInBounds_ne (Ne.symm hj)]]
        exact h1
    · have hb : Nat.blt d size = false := by rw [Bool.eq_false_iff]; simpa [Nat.blt_eq] using hd
      rw [hb]
      rw [show ys.setIfInBounds d v' = ys by apply Array.setIfInBounds_eq_of_size_le; omega]
      exact h1

theorem XRel.lay {xs ys : Array Value} (A : ARel i n xs ys) (m : Nat) : XRel i n (max xs.size m) (Tr.lay xs.toList 0 .e) (ys ++ Array.replicate (m - ys.size) undef) := by
  refine ⟨by simp [A.1]; omega, fun j => ?_⟩
  have h1 : val (Tr.lay xs.toList 0 .e) j = xs.getD j undef := by
    unfold val
    rw [lay_array]
    by_cases h : j < xs.size <;> simp [h]
  have h2 : (ys ++ Array.replicate (m - ys.size) undef).getD j undef = ys.getD j undef := by
    by_cases h : j < ys.size
    · simp [h, Array.getElem?_append_left h]
    · by_cases h' : j < ys.size + (m - ys.size)
      · have h3 : j < (ys ++ Array.replicate (m - ys.size) undef).size := by simp; omega
        rw [show (ys ++ Array.replicate (m - ys.size) undef).getD j undef = (ys ++ Array.replicate (m - ys.size) undef)[j] by rw [← Array.getElem_eq_getD (h := h3)], Array.getElem_append_right (by omega)]
        simp [Array.getElem?_eq_none (by omega : ys.size ≤ j)]
      · rw [show (ys ++ Array.replicate (m - ys.size) undef).getD j undef = undef by simp [Array.getElem?_eq_none (xs := ys ++ Array.replicate (m - ys.size) undef) (i := j) (by simp; omega)]]
        simp [Array.getElem?_eq_none (by omega : ys.size ≤ j)]
  rw [h1, h2]
  exact A.2 j

theorem XRel.lay0 {xs ys : Array Value} (A : ARel i n xs ys) : XRel i n xs.size (Tr.lay xs.toList 0 .e) ys := by
  have := XRel.lay A 0
  simpa using this

theorem dstAt_eq (ops : Array Oper) (j : Nat) : (ops[j]?).bind (·.dst) = dstAt ops j := by
  unfold dstAt
  rw [Array.getElem?_toList]
  cases ops[j]? <;> rfl

theorem FRel.finish {a a' : AF} {f : Frame} (F : FRel i n a f) {v v' : Value} (hv : VRel i n v v') (h : a.finish v = some a') : FRel i n a' (f.finish v') := by
  obtain ⟨st, t, todo, ds, ret⟩ := a
  have T := F.todo
  simp only at T
  cases todo with
  | nil => simp [AF.finish] at h
  | cons it k =>
    cases htd : f.todo with
    | nil => rw [htd] at T; exact T.elim
    | cons it' k' =>
      rw [htd] at T
      obtain ⟨T1, T2⟩ := T
      cases it with
      | inRegion ops l =>
        obtain rfl : it' = .inRegion ops l := T1
        cases l with
        | nil => simp [AF.finish] at h
        | cons j rest =>
          simp only [AF.finish, Option.some.injEq] at h
          subst h
          have hf : f.finish v' = { f with tmps := (match dstAt ops j with | some d => f.tmps.setIfInBounds d v' | none => f.tmps), todo := .inRegion ops rest :: k' } := by
            rw [← dstAt_eq]
            simp only [Frame.finish, htd]
            cases (ops[j]?).bind (fun x => x.dst) <;> rfl
          rw [hf]
          exact ⟨F.fn, F.tmps.set hv _, ⟨rfl, T2⟩, F.defers, F.dlt, F.mode, F.kind, F.round, F.rlt⟩
      | inRangeFunc l =>
        obtain ⟨rfl, hl⟩ := T1
        simp only [AF.finish, Option.some.injEq] at h
        subst h
        have hf : f.finish v' = { f with todo := .endRangeFunc (i.blk l) :: k' } := by simp only [Frame.finish, htd]
        rw [hf]
        exact ⟨F.fn, F.tmps, ⟨⟨rfl, hl⟩, T2⟩, F.defers, F.dlt, F.mode, F.kind, F.round, F.rlt⟩
      | _ => simp [AF.finish] at h

theorem FRel.enter {xs ys : Array Value} (A : ARel i n xs ys) (f : Nat) : FRel i n (AF.enter P f xs) (Frame.enter P f ys .normal) := by
  unfold AF.enter
  rw [funcT_eq]
  cases hf : P.funcs[f]? with
  | none =>
    have := XRel.lay0 A
    exact ⟨rfl, by simpa [Frame.enter, hf] using this, by simp [Frame.enter, hf, TRel, IRel, noBody], trivial, trivial, rfl, rfl, rfl, by simp⟩
  | some fn =>
    have := XRel.lay A fn.ntmps
    exact ⟨rfl, by simpa [Frame.enter, hf] using this, by simp [Frame.enter, hf, TRel, IRel, noBody], trivial, trivial, rfl, rfl, rfl, by simp⟩

theorem FRel.enterD {xs ys : Array Value} (A : ARel i n xs ys) (f : Nat) : FRel i n (AF.enter P f xs).asD (Frame.enter P f ys .deferred) := by
  unfold AF.enter
  rw [funcT_eq]
  cases hf : P.funcs[f]? with
  | none =>
    have := XRel.lay0 A
    exact ⟨rfl, by simpa [Frame.enter, hf, AF.asD] using this, by simp [Frame.enter, hf, TRel, IRel, noBody, AF.asD], trivial, trivial, rfl, rfl, rfl, by simp [AF.asD]⟩
  | some fn =>
    have := XRel.lay A fn.ntmps
    exact ⟨rfl, by simpa [Frame.enter, hf, AF.asD] using this, by simp [Frame.enter, hf, TRel, IRel, noBody, AF.asD], trivial, trivial, rfl, rfl, rfl, by simp [AF.asD]⟩

theorem FRel.newRound {xs ys : Array Value} (A : ARel i n xs ys) {l f : Nat} (hl : l < n) (assign body : Code) :
    FRel i n ⟨⟨f, xs.size, some l, false, none⟩, Tr.lay xs.toList 0 .e, [.code assign, .beginRound, .code body], [], false⟩ (Frame.round (i.blk l) f ys assign body .normal) :=
  ⟨rfl, XRel.lay0 A, ⟨rfl, rfl, rfl, trivial⟩, trivial, trivial, rfl, rfl, rfl, fun l' h => by simp at h; omega⟩

theorem wantedT_eq {o : Oper} {ops : Array Oper} {size : Nat} {t : Tr Value} {ys : Array Value} (X : XRel i n size t ys) (h : wantedT o ops t = true) : Region.wanted o (yielded ops ys) = true := by
  unfold wantedT at h
  unfold Region.wanted
  split at h <;> rename_i hg
  · simp [hg]
  · rename_i j want
    simp only [hg]
    split at h
    · rename_i b hb
      unfold yieldT at hb
      split at hb
      · rename_i d hd
        split at hb
        · rename_i b' hv
          injection hb with hb
          subst hb
          have h2 := X.2 d
          rw [hv] at h2
          have h3 := VRel.eq_of_flat (v := .bool b') rfl h2
          have h4 : ys[d]? = some (.bool b') := by
            by_cases hlt : d < ys.size
            · simpa [hlt] using h3
            · simp [Array.getElem?_eq_none (by omega : ys.size ≤ d), Go.undef] at h3
          simp [yielded, dstAt_eq, hd, h4] 
          simpa using h
        · cases hb
      · cases hb
    · cases h
theorem wantedT_ne {o : Oper} {ops : Array Oper} {size : Nat} {t : Tr Value} {ys : Array Value} (X : XRel i n size t ys) (h : wantedT o ops t = false) : Region.wanted o (yielded ops ys) = false := by
  unfold wantedT at h
  unfold Region.wanted
  split at h <;> rename_i hg
  · cases h
  · rename_i j want
    simp only [hg]
    unfold yieldT at h
    unfold yielded
    rw [dstAt_eq]
    cases hd : dstAt ops j with
    | none => rfl
    | some d =>
      simp only [hd] at h
      simp only [Option.bind_some]
      have h2 := X.2 d
      split
      · rename_i b hb
        have hyd : ys.getD d undef = .bool b := by simp [hb]
        rw [hyd] at h2
        have h3 : val t d = .bool b := by
          generalize hx : val t d = x at h2
          cases h2
          rfl
        rw [h3] at h
        simpa using h
      · rfl

/-! ### The form of a state and of what follows -/
variable {w0 : World} {cs : List Frame}

theorem SRel.run {st : AS} {t : Tr Value} {it : Item} {k : List Item} {ds : List AD} {acs : List AF} {h : AH} {fr : Frame} {fs : List Frame} {w : World}
    (S : SRel P i w0 cs ⟨⟨st, t, it :: k, ds, false⟩, acs, h⟩ fr fs w) :
    ∃ it' k', IRel i h.n it it' ∧ TRel i h.n k k' ∧ fr = fr.atR ⟨fr.tmps, fr.defers⟩ (it' :: k') := by
  have T := S.f.todo
  simp only at T
  cases htd : fr.todo with
  | nil => rw [htd] at T; exact T.elim
  | cons it' k' =>
    rw [htd] at T
    exact ⟨it', k', T.1, T.2, by rw [← htd]; exact frame_atR S.f.mode⟩

theorem nx_rel {st : AS} {t : Tr Value} {todo : List Item} {ds : List AD} {acs : List AF} {h : AH} {fr : Frame} {fs : List Frame} {w : World}
    (S : SRel P i w0 cs ⟨⟨st, t, todo, ds, false⟩, acs, h⟩ fr fs w) {i' : Ren} {h' : AH} {w' : World} {t' : Tr Value} {ys : Array Value} {k k' : List Item}
    (hs : step P (lone fr fs w) = .next (lone (fr.atR ⟨ys, fr.defers⟩ k') fs w')) (hle : i.le i' h.n) (sat : Sat P i' h' w0 w') (K : Keep h h')
    (X : XRel i' h'.n st.size t' ys) (T : TRel i' h'.n k k') : RRel P i w0 cs h (lone fr fs w) (nx st t' k ds acs h') := by
  have F := S.f.mono hle K.n
  exact ⟨i', _, fs, w', .one hs, ⟨⟨F.fn, X, T, F.defers, F.dlt, rfl, F.kind, F.round, F.rlt⟩, S.c.mono hle K.n, sat⟩, hle, K⟩

theorem nx_same {st : AS} {t : Tr Value} {todo : List Item} {ds : List AD} {acs : List AF} {h : AH} {fr : Frame} {fs : List Frame} {w : World}
    (S : SRel P i w0 cs ⟨⟨st, t, todo, ds, false⟩, acs, h⟩ fr fs w) {k k' : List Item}
    (hs : step P (lone fr fs w) = .next (lone (fr.atR ⟨fr.tmps, fr.defers⟩ k') fs w)) (T : TRel i h.n k k') : RRel P i w0 cs h (lone fr fs w) (nx st t k ds acs h) :=
  nx_rel S hs (Ren.le.refl _ _) S.sat (Keep.refl _) S.f.tmps T

theorem stepR_scope {b : Frame} {a : Act} {k : List Item} {cs : List Frame} {w : World} {c : Code} :
    step P (lone (b.atR a (.code (.scope c) :: k)) cs w) = .next (lone (b.atR a (.code c :: .inScope c :: k)) cs w) :=
  step_lone_go (by simp [stepG, stepG.exec, Frame.atR])
theorem stepR_inScope {b : Frame} {a : Act} {k : List Item} {cs : List Frame} {w : World} {c : Code} :
    step P (lone (b.atR a (.inScope c :: k)) cs w) = .next (lone (b.atR a k) cs w) :=
  step_lone_go (by simp [stepG, stepG.exec, Frame.atR])

theorem getD_bool {b : Bool} {v : Value} (h : VRel i n (.bool b) v) : v = .bool b := VRel.eq_of_flat (v := .bool b) rfl h

theorem cond_rel {st : AS} {t : Tr Value} {ds : List AD} {acs : List AF} {h : AH} {fr : Frame} {fs : List Frame} {w : World} {k : List Item} {c : Operand} {x y : Code}
    (S : SRel P i w0 cs ⟨⟨st, t, .code (.cond c x y) :: k, ds, false⟩, acs, h⟩ fr fs w) : RRel P i w0 cs h (lone fr fs w) (condStep st t ds acs h k c x y) := by
  obtain ⟨it', k', h1, h2, h3⟩ := S.run
  obtain rfl : it' = .code (.cond c x y) := h1
  unfold condStep
  split
  · rename_i he hx
    have := evT_rel (a := ⟨fr.tmps, fr.defers⟩) S.f.tmps S.sat.gi hx
    rw [he] at this
    exact nx_same S (k := .code x :: k) (k' := .code x :: k') (by rw [h3]; simpa [Frame.atR] using stepR_cond (b := fr) (a := ⟨fr.tmps, fr.defers⟩) (getD_bool this)) ⟨rfl, h2⟩
  · rename_i he hx
    have := evT_rel (a := ⟨fr.tmps, fr.defers⟩) S.f.tmps S.sat.gi hx
    rw [he] at this
    exact nx_same S (k := .code y :: k) (k' := .code y :: k') (by rw [h3]; simpa [Frame.atR] using stepR_cond (b := fr) (a := ⟨fr.tmps, fr.defers⟩) (getD_bool this)) ⟨rfl, h2⟩
  · trivial

/-! ### A frame hands a value back -/
theorem back_rel {acs : List AF} {fs : List Frame} {h : AH} (C : CRel i h.n acs fs cs) {v v' : Value} (hv : VRel i h.n v v') {w : World} (sat : Sat P i h w0 w) {fr : Frame} {i0 : Ren} {h0 : AH} {m : Machine} {k : Nat}
    (hle : i0.le i h0.n) (K : Keep h0 h) (hm : ∀ c fs', fs = c :: fs' → Steps P m (lone (c.finish v') fs' w))
    (hd : acs = [] → Steps P m (lone fr fs w) ∧ fr.fn = k ∧ fr.leaving P w (.returned v')) : RRel P i0 w0 cs h0 m (back k acs v h) := by
  cases acs with
  | nil =>
    obtain ⟨h1, h1', h2⟩ := hd rfl
    have : fs = cs := C
    subst this
    exact ⟨i, fr, w, v', h1, h1', h2, hv, sat, hle, K⟩
  | cons c acs =>
    cases fs with
    | nil => exact C.elim
    | cons f fs =>
      unfold back
      simp only
      split
      · rename_i c' hc
        exact ⟨i, _, fs, w, hm f fs rfl, ⟨C.1.finish hv hc, C.2, sat⟩, hle, K⟩
      · trivial

theorem Sat.loop {h : AH} {w : World} (s : Sat P i h w0 w) {l : Nat} {r : Loop} (hl : h.obj l = some (.loop r)) : ∃ r', w.heap[i.blk l]? = some (.loop r') ∧ LRel i h.n r r' := by
  obtain ⟨o, ho, hr⟩ := s.objs hl rfl
  obtain ⟨m, rfl, hm⟩ := hr
  exact ⟨m, ho, hm⟩

theorem leave_rel {st : AS} {t : Tr Value} {todo : List Item} {ds : List AD} {acs : List AF} {h : AH} {fr : Frame} {fs : List Frame} {w : World}
    (S : SRel P i w0 cs ⟨⟨st, t, todo, ds, false⟩, acs, h⟩ fr fs w) (jump : Option Code)
    (H0 : fr.roundOf = none → (jump = none ∨ jump = some .ret) → step P (lone fr fs w) = .next (lone { fr with mode := .returning } fs w))
    (H1 : ∀ l v w' c fs', fr.roundOf = some l → fr.kind = .normal → fs = c :: fs' → (Instr.endRound l jump).run P w = .ok v w' → step P (lone fr fs w) = .next (lone (c.finish v) fs' w')) :
    RRel P i w0 cs h (lone fr fs w) (leave st t todo ds acs h jump) := by
  have R := S.f.round
  simp only at R
  unfold leave
  cases hr : st.round with
  | none =>
    rw [hr] at R
    have done : ∀ _ : jump = none ∨ jump = some .ret, RRel P i w0 cs h (lone fr fs w) (.next ⟨⟨{ st with pan := none }, t, todo, ds, true⟩, acs, h⟩) := fun hj =>
      ⟨i, { fr with mode := .returning }, fs, w, .one (H0 R hj), ⟨⟨S.f.fn, S.f.tmps, S.f.todo, S.f.defers, S.f.dlt, rfl, S.f.kind, S.f.round, S.f.rlt⟩, S.c, S.sat⟩, Ren.le.refl _ _, Keep.refl _⟩
    simp only
    split
    · have d := done (.inl rfl); rw [hr] at d; exact d
    · have d := done (.inr rfl); rw [hr] at d; exact d
    · trivial
  | some l =>
    rw [hr] at R
    have hkind := S.f.kind
    simp only at hkind
    cases hdf : st.dfr with
    | true => trivial
    | false =>
    rw [hdf] at hkind
    simp only
    unfold leaveRound
    split
    · rename_i r c acs' hl hb
      have hb' : h.ro ≤ l := by simpa using hb
      obtain ⟨r', hr', L⟩ := S.sat.loop hl
      have hK := Keep.put hb' (.loop { r with state := if jump.isNone then .ready else .done, pending := jump })
      have sat := S.sat.putObj hl rfl hb' (p := .loop { r with state := if jump.isNone then .ready else .done, pending := jump }) (p' := .loop { r' with state := if jump.isNone then .ready else .done, pending := jump })
        ⟨_, rfl, rfl, rfl, L.fn, L.tmps, L.params, L.assign, L.body, L.defers, L.lt⟩
      refine back_rel (i := i) (fr := fr) (h0 := h) (h := h.put l (.loop { r with state := if jump.isNone then .ready else .done, pending := jump })) S.c (VRel.of_flat i _ (.bool jump.isNone) rfl) sat (Ren.le.refl _ _) hK (fun c fs' hf => .one (H1 _ _ _ c fs' R hkind hf (run_endRound jump hr'))) (fun hh => by cases hh)
    · trivial

theorem exit_rel {st : AS} {t : Tr Value} {ds : List AD} {acs : List AF} {h : AH} {fr : Frame} {fs : List Frame} {w : World} {k : List Item} {id : Nat}
    (S : SRel P i w0 cs ⟨⟨st, t, .code (.exit id) :: k, ds, false⟩, acs, h⟩ fr fs w) : RRel P i w0 cs h (lone fr fs w) (exitStep st t (.code (.exit id) :: k) ds acs h (.exit id) (exitTo id k)) := by
  obtain ⟨it', k', h1, h2, h3⟩ := S.run
  obtain rfl : it' = .code (.exit id) := h1
  unfold exitStep
  have E := exitTo_rel (id := id) h2
  split
  · rename_i x hx
    obtain ⟨x', hx', Tx⟩ := E.1 x hx
    exact nx_same S (by rw [h3]; simpa [Frame.atR] using stepR_exit (b := fr) (a := ⟨fr.tmps, fr.defers⟩) hx') Tx
  · rename_i hx
    have hx' := E.2 hx
    refine leave_rel S _ (fun _ hj => by rcases hj with hj | hj <;> cases hj) (fun l v w' c fs' hr hk hf hrun => ?_)
    subst hf
    rw [h3]
    exact stepR_round_exit (b := fr) hr hk hx' hrun

theorem goto_rel {st : AS} {t : Tr Value} {ds : List AD} {acs : List AF} {h : AH} {fr : Frame} {fs : List Frame} {w : World} {k : List Item} {id : Nat}
    (S : SRel P i w0 cs ⟨⟨st, t, .code (.goto id) :: k, ds, false⟩, acs, h⟩ fr fs w) : RRel P i w0 cs h (lone fr fs w) (exitStep st t (.code (.goto id) :: k) ds acs h (.goto id) (gotoIn id k)) := by
  obtain ⟨it', k', h1, h2, h3⟩ := S.run
  obtain rfl : it' = .code (.goto id) := h1
  unfold exitStep
  have E := gotoIn_rel (id := id) h2
  split
  · rename_i x hx
    obtain ⟨x', hx', Tx⟩ := E.1 x hx
    exact nx_same S (by rw [h3]; simpa [Frame.atR] using stepR_goto (b := fr) (a := ⟨fr.tmps, fr.defers⟩) hx') Tx
  · rename_i hx
    have hx' := E.2 hx
    refine leave_rel S _ (fun _ hj => by rcases hj with hj | hj <;> cases hj) (fun l v w' c fs' hr hk hf hrun => ?_)
    subst hf
    rw [h3]
    exact stepR_round_goto (b := fr) hr hk hx' hrun

theorem ret_rel {st : AS} {t : Tr Value} {ds : List AD} {acs : List AF} {h : AH} {fr : Frame} {fs : List Frame} {w : World} {k : List Item}
    (S : SRel P i w0 cs ⟨⟨st, t, .code .ret :: k, ds, false⟩, acs, h⟩ fr fs w) : RRel P i w0 cs h (lone fr fs w) (leave st t (.code .ret :: k) ds acs h (some .ret)) := by
  obtain ⟨it', k', h1, h2, h3⟩ := S.run
  obtain rfl : it' = .code .ret := h1
  refine leave_rel S _ (fun hr _ => ?_) (fun l v w' c fs' hr hk hf hrun => ?_)
  · have := stepR_ret (P := P) (b := fr) (a := ⟨fr.tmps, fr.defers⟩) (k := k') (cs := fs) (w := w) hr
    rw [← h3] at this
    exact this
  · subst hf
    rw [h3]
    exact stepR_round_ret (b := fr) hr hk hrun

theorem end_rel {st : AS} {t : Tr Value} {ds : List AD} {acs : List AF} {h : AH} {fr : Frame} {fs : List Frame} {w : World}
    (S : SRel P i w0 cs ⟨⟨st, t, [], ds, false⟩, acs, h⟩ fr fs w) : RRel P i w0 cs h (lone fr fs w) (leave st t [] ds acs h none) := by
  have h3 : fr = fr.atR ⟨fr.tmps, fr.defers⟩ [] := by
    have T := S.f.todo
    simp only at T
    cases htd : fr.todo with
    | nil => rw [← htd]; exact frame_atR S.f.mode
    | cons a b => rw [htd] at T; exact T.elim
  refine leave_rel S _ (fun hr _ => ?_) (fun l v w' c fs' hr hk hf hrun => ?_)
  · have := stepR_end (P := P) (b := fr) (a := ⟨fr.tmps, fr.defers⟩) (cs := fs) (w := w) hr
    rw [← h3] at this
    exact this
  · subst hf
    rw [h3]
    exact stepR_round_end (b := fr) hr hk hrun

/-! ### A frame that returns -/
theorem retVarA_sound {h : AH} {w : World} (s : Sat P i h w0 w) {size : Nat} {t : Tr Value} {ys : Array Value} (X : XRel i h.n size t ys) {f : ResultVar → Sem Value}
    (hf1 : ∀ t, f (.tmp t) = pure (ys.getD t undef)) (hf2 : ∀ a t, f (.cell a t) = (do loadVar t (← asAddr (ys.getD a undef)))) {r : ResultVar} {v : Value} (hv : retVarA P h t r = some v) :
    ∃ v', (f r).run P w = .ok v' w ∧ VRel i h.n v v' := by
  cases r with
  | tmp k =>
    simp only [retVarA, Option.some.injEq] at hv
    subst hv
    exact ⟨_, by rw [hf1]; rfl, X.2 k⟩
  | cell a ty =>
    simp only [retVarA] at hv
    split at hv
    · rename_i ad hp
      have h2 := X.2 a
      rw [hp] at h2
      obtain ⟨v', h3, h4⟩ := loadA_sound s hv
      refine ⟨v', ?_, h4⟩
      rw [hf2]
      generalize ys.getD a undef = y at h2 ⊢
      cases h2 with
      | one _ hf => simp [flat1] at hf
      | ptr _ hlt => simpa [asAddr, Sem.run_bind, Sem.run, Result.andThen, pure] using h3
    · cases hv

theorem retList_sound {h : AH} {w : World} (s : Sat P i h w0 w) {size : Nat} {t : Tr Value} {ys : Array Value} (X : XRel i h.n size t ys) {f : ResultVar → Sem Value}
    (hf1 : ∀ t, f (.tmp t) = pure (ys.getD t undef)) (hf2 : ∀ a t, f (.cell a t) = (do loadVar t (← asAddr (ys.getD a undef)))) : ∀ (l : List ResultVar) (vs : List Value), retList P h t l = some vs →
    ∃ vs', (l.mapM f).run P w = .ok vs' w ∧ vs.length = vs'.length ∧ ∀ j, VRel i h.n (vs.getD j undef) (vs'.getD j undef)
  | [], vs, hh => by
    simp only [retList, Option.some.injEq] at hh
    subst hh
    exact ⟨[], rfl, rfl, fun j => by simpa using VRel.undef i h.n⟩
  | r :: l, vs, hh => by
    simp only [retList] at hh
    split at hh
    · rename_i v vs1 hv hvs
      injection hh with hh
      subst hh
      obtain ⟨v', h1, h2⟩ := retVarA_sound s X hf1 hf2 hv
      obtain ⟨vs', h3, h4, h5⟩ := retList_sound s X hf1 hf2 l vs1 hvs
      refine ⟨v' :: vs', ?_, by simp [h4], fun j => ?_⟩
      · rw [List.mapM_cons]
        simp only [Sem.run_bind, h1, Result.andThen, h3, Sem.run_pure]
      · cases j with
        | zero => simpa using h2
        | succ j => simpa using h5 j
    · cases hh

theorem resultsA_sound {h : AH} {w : World} (s : Sat P i h w0 w) {size : Nat} {t : Tr Value} {ys : Array Value} (X : XRel i h.n size t ys) {fn : Func} {v : Value} (hv : resultsA P h fn t = some v) :
    ∃ v', (results fn ys).run P w = .ok v' w ∧ VRel i h.n v v' := by
  unfold resultsA at hv
  unfold results
  rw [Array.mapM_eq_mapM_toList]
  split at hv
  · rename_i v0 hl
    injection hv with hv
    subst hv
    obtain ⟨vs', h1, h2, h3⟩ := retList_sound s X (f := fun
      | .tmp t => pure (ys.getD t undef)
      | .cell a t => do loadVar t (← asAddr (ys.getD a undef))) (fun _ => rfl) (fun _ _ => rfl) _ _ hl
    cases vs' with
    | nil => simp at h2
    | cons x xs =>
      cases xs with
      | cons y ys => simp at h2
      | nil =>
        refine ⟨x, ?_, by simpa using h3 0⟩
        rw [Sem.run_bind, map_eq_pure_bind, Sem.run_bind]
        erw [h1]
        rfl
  · rename_i vs hne hl
    injection hv with hv
    subst hv
    obtain ⟨vs', h1, h2, h3⟩ := retList_sound s X (f := fun
      | .tmp t => pure (ys.getD t undef)
      | .cell a t => do loadVar t (← asAddr (ys.getD a undef))) (fun _ => rfl) (fun _ _ => rfl) _ _ hl
    have hn : vs'.length ≠ 1 := fun hh => by
      rw [← h2] at hh
      obtain ⟨a, ha⟩ := List.length_eq_one_iff.1 hh
      exact hne a ha
    refine ⟨.tuple vs'.toArray, ?_, .tuple _ _ (by simp [h2]) fun j _ => by simpa using h3 j⟩
    rw [Sem.run_bind, map_eq_pure_bind, Sem.run_bind]
    erw [h1]
    simp [Result.andThen, Sem.run_pure, hn]
  · cases hv

theorem settle_rel {a : AF} {f : Frame} (F : FRel i n a f) (hr : a.ret = true) : FRel i n (settleA a) { f with mode := settle f.mode } := by
  obtain ⟨⟨k, sz, rd, df, pan⟩, t, todo, ds, ret⟩ := a
  obtain rfl : ret = true := hr
  have hm : EndRel i n pan f.mode := F.mode
  unfold settleA
  cases pan with
  | none =>
    have e : f.mode = .returning := hm
    exact ⟨F.fn, F.tmps, F.todo, F.defers, F.dlt, by rw [e]; exact (rfl : FrameMode.returning = .returning), F.kind, F.round, F.rlt⟩
  | some p =>
    obtain ⟨v, r⟩ := p
    obtain ⟨v', e, hv⟩ := hm
    cases r with
    | true => exact ⟨F.fn, F.tmps, F.todo, F.defers, F.dlt, by rw [e]; exact (rfl : FrameMode.returning = .returning), F.kind, F.round, F.rlt⟩
    | false => exact ⟨F.fn, F.tmps, F.todo, F.defers, F.dlt, by rw [e]; exact ⟨v', rfl, hv⟩, F.kind, F.round, F.rlt⟩

theorem raise_rel {a : AF} {f : Frame} (F : FRel i n a f) (hr : a.ret = false) {v v' : Value} (hv : VRel i n v v') :
    FRel i n { a with st := { a.st with pan := some (v, false) }, ret := true } { f with mode := raised f.mode [{ v := v', recovered := false }] } := by
  obtain ⟨⟨k, sz, rd, df, pan⟩, t, todo, ds, ret⟩ := a
  obtain rfl : ret = false := hr
  have hm : f.mode = .run := F.mode
  exact ⟨F.fn, F.tmps, F.todo, F.defers, F.dlt, by rw [hm]; exact ⟨v', rfl, hv⟩, F.kind, F.round, F.rlt⟩

theorem run_invoke_fn (hN : Named P) {kf : Nat} {xs ys : Array Value} {fn : Func} {body : Code} (hk : P.funcs[kf]? = some fn) (hb : fn.body = some body) (w : World) :
    (invoke (.fn (.func kf) ys) xs).run P w = .ok (.enter kf (xs ++ ys)) w := by
  have hn : ¬ fn.name = "runtime.NumGoroutine" := by simpa using hN kf fn hk (by simp [hb])
  have hb2 : ¬ fn.body = none := by intro hb'; simp [hb'] at hb
  simp [invoke, callFunc, hk, hn, hb2, Sem.run_bind, Sem.run, Result.andThen, pure, Pure.pure]

theorem raiseA_rel {acs : List AF} {h : AH} {fr : Frame} {fs : List Frame} {w : World} {v v' : Value} (C : CRel i h.n acs fs cs) (sat : Sat P i h w0 w) (hv : VRel i h.n v v') (hg : fr.going P w (.panicked [{ v := v', recovered := false }])) :
    RRel P i w0 cs h (lone fr fs w) (raiseA acs h v) := by
  unfold raiseA
  cases acs with
  | nil => trivial
  | cons c acs =>
    cases fs with
    | nil => exact C.elim
    | cons f fs =>
      simp only
      cases hr : c.ret with
      | true => trivial
      | false => exact ⟨i, _, fs, w, .one (step_going_panicked hg), ⟨raise_rel C.1 hr hv, C.2, sat⟩, Ren.le.refl _ _, Keep.refl _⟩

theorem retDone_rel {st : AS} {t : Tr Value} {todo : List Item} {acs : List AF} {h : AH} {fr : Frame} {fs : List Frame} {w : World}
    (S : SRel P i w0 cs ⟨⟨st, t, todo, [], true⟩, acs, h⟩ fr fs w) : RRel P i w0 cs h (lone fr fs w) (retDone P st t acs h) := by
  have hmode : EndRel i h.n st.pan fr.mode := S.f.mode
  have hdef : fr.defers = [] := by
    have D := S.f.defers
    simp only at D
    cases hd : fr.defers with
    | nil => rfl
    | cons a b => rw [hd] at D; exact D.elim
  have hkind := S.f.kind
  simp only at hkind
  unfold retDone
  rw [funcT_eq]
  cases hfn : P.funcs[st.fn]? with
  | none => trivial
  | some fn =>
    simp only
    have hfn' : P.funcs[fr.fn]? = some fn := by rw [S.f.fn]; exact hfn
    cases hp : st.pan with
    | none =>
      rw [hp] at hmode
      have hmode' : fr.mode = .returning := hmode
      simp only
      cases hv : resultsA P h fn t with
      | none => trivial
      | some v =>
        obtain ⟨v', h1, h2⟩ := resultsA_sound S.sat S.f.tmps hv
        unfold retVal
        simp only
        cases hdf : st.dfr with
        | false =>
          rw [hdf] at hkind
          have hl : fr.leaving P w (.returned v') := ⟨hmode', hdef, hkind, fn, hfn', h1⟩
          exact back_rel (fr := fr) S.c h2 S.sat (Ren.le.refl _ _) (Keep.refl _) (fun c fs' hf => by subst hf; exact .one (step_leave_returned hl)) fun _ => ⟨Steps.refl _ _, S.f.fn, hl⟩
        | true =>
          rw [hdf] at hkind
          have hg : fr.going P w (.returned v') := ⟨hmode', hdef, fn, hfn', h1⟩
          have C := S.c
          simp only
          unfold backD
          cases acs with
          | nil => trivial
          | cons c acs =>
            cases fs with
            | nil => exact C.elim
            | cons f fs =>
              simp only
              cases hr : c.ret with
              | false => trivial
              | true => exact ⟨i, _, fs, w, .one (step_going_returned hkind hg), ⟨settle_rel C.1 hr, C.2, S.sat⟩, Ren.le.refl _ _, Keep.refl _⟩
    | some p =>
      obtain ⟨v, r⟩ := p
      rw [hp] at hmode
      obtain ⟨v', e, hv⟩ := hmode
      cases r with
      | true => trivial
      | false => exact raiseA_rel S.c S.sat hv ⟨e, hdef, fn, hfn'⟩

theorem retStep_rel (hN : Named P) {st : AS} {t : Tr Value} {todo : List Item} {ds : List AD} {acs : List AF} {h : AH} {fr : Frame} {fs : List Frame} {w : World}
    (S : SRel P i w0 cs ⟨⟨st, t, todo, ds, true⟩, acs, h⟩ fr fs w) : RRel P i w0 cs h (lone fr fs w) (retStep P st t todo ds acs h) := by
  have hmode : EndRel i h.n st.pan fr.mode := S.f.mode
  have D := S.f.defers
  simp only at D
  unfold retStep
  cases ds with
  | cons a ds =>
    cases hd : fr.defers with
    | nil => rw [hd] at D; exact D.elim
    | cons d ds' =>
    rw [hd] at D
    obtain ⟨D1, D2⟩ := D
    cases a with
    | mk r =>
      obtain ⟨rfl, hlt⟩ := D1
      simp only
      unfold takeMark
      split
      · rename_i hr hb
        have hb' : h.ro ≤ r := by simpa using hb
        obtain ⟨o, ho, hrel⟩ := S.sat.objs hr rfl
        have ho' : o = .deferred (some []) := hrel
        subst ho'
        have hst := step_collected (P := P) (fr := fr) (cs := fs) (w := w) (r := i.blk r) (d := mark i r) hmode.ne_run hd rfl (run_takeDeferred ho)
        exact ⟨i, _, fs, _, .one hst, ⟨⟨S.f.fn, S.f.tmps, S.f.todo, D2, trivial, S.f.mode, S.f.kind, S.f.round, S.f.rlt⟩, S.c, S.sat.putObj hr rfl hb' rfl⟩, Ren.le.refl _ _, Keep.put hb' _⟩
      · trivial
    | call f xs ys =>
      obtain ⟨xs', ys', rfl, A1, A2⟩ := D1
      simp only
      unfold callDef
      rw [funcT_eq]
      cases hk : P.funcs[f]? with
      | none => trivial
      | some fn =>
        simp only
        cases hb : fn.body with
        | none => trivial
        | some body =>
          have hst := step_defer (P := P) (fr := fr) (cs := fs) (w := w) hmode.ne_run hd rfl (run_invoke_fn hN hk hb w)
          exact ⟨i, _, _, w, .one hst, ⟨FRel.enterD (A1.append A2) f, ⟨⟨S.f.fn, S.f.tmps, S.f.todo, D2, trivial, S.f.mode, S.f.kind, S.f.round, S.f.rlt⟩, S.c⟩, S.sat⟩, Ren.le.refl _ _, Keep.refl _⟩
  | nil =>
    simp only
    unfold endsInA
    split
    · exact retDone_rel S
    · split
      · exact retDone_rel S
      · trivial

end
end Go.Proofs.Ev
