/-
  AN EVALUATOR OF CLOSED CALLS, PART 8: what every operation of the evaluator stands for. It holds for every program; no statement is proved here.
-/
import Derived.Test.YtpjeaajjlkgekaaDoorEv7
import Derived.Orders
import Derived.WalkSpells
noncomputable section
namespace Go.Proofs.Ev
set_option linter.unusedSimpArgs false
open Go.RowKit
set_option linter.unusedVariables false

variable {P : Program} {i : Ren} {h h' : AH} {w0 w : World} {ρ ρ' : Operand → Value}

theorem Val.same (s : Sat P i h w0 w) {x : Result Next} {v v' : Value} (hv : VRel i h.n v v') (hx : x = .ok (.value v') w) : Val P i h w0 v h x := ⟨i, v', w, hx, Ren.le.refl _ _, hv, s, Keep.refl h⟩

theorem run_v {m : Sem Value} {v : Value} {w w' : World} (hm : m.run P w = .ok v w') : (do pure (Next.value (← m)) : Sem Next).run P w = .ok (.value v) w' := by simp [hm]
theorem run_u {m : Sem Unit} {w w' : World} (hm : m.run P w = .ok () w') : (do m; pure Next.skip : Sem Next).run P w = .ok .skip w' := by simp [hm]

theorem optVal_rep (s : Sat P i h w0 w) {r : Option Value} {m : Sem Value} (hr : ∀ v, r = some v → ∃ v', m.run P w = .ok v' w ∧ VRel i h.n v v') : Rep P i h w0 (optVal h r) ((do pure (Next.value (← m)) : Sem Next).run P w) := by
  cases r with
  | none => trivial
  | some v =>
    obtain ⟨v', h1, h2⟩ := hr v rfl
    exact Val.same s h2 (run_v h1)

theorem optNew_rep {r : Option (Value × AH)} {m : Sem Value} (hr : ∀ v h', r = some (v, h') → ∃ i' v' w', m.run P w = .ok v' w' ∧ i.le i' h.n ∧ VRel i' h'.n v v' ∧ Sat P i' h' w0 w' ∧ Keep h h') : Rep P i h w0 (optNew r) ((do pure (Next.value (← m)) : Sem Next).run P w) := by
  cases r with
  | none => trivial
  | some p =>
    obtain ⟨v, h'⟩ := p
    obtain ⟨i', v', w', h1, h2⟩ := hr v h' rfl
    exact ⟨i', v', w', run_v h1, h2⟩

theorem flatOp_rep (s : Sat P i h w0 w) (o : Oper) (hρ : ∀ x ∈ o.op.operands, VRel i h.n (ρ x) (ρ' x)) : Rep P i h w0 (flatOp P ρ o h) ((execOp ρ' o).run P w) := by
  unfold flatOp
  split
  · rename_i hf
    have hcong : (∀ cs b, o.op ≠ .select cs b) → execOp ρ' o = execOp ρ o := fun hs => execOp_congr o hs fun x hx => VRel.eq_of_flat (List.all_eq_true.1 hf x (by simpa using hx)) (hρ x hx)
    split
    · trivial
    · rename_i hns
      split
      · rename_i v hv
        split
        · rename_i hfv
          have := runP_sound P _ _ hv w
          exact Val.same s (VRel.of_flat i h.n v hfv) (by rw [hcong (fun cs b e => hns cs b e)]; exact this)
        · trivial
      · trivial
  · trivial

theorem ARel.map {n : Nat} {xs : Array Operand} (hρ : ∀ x ∈ xs, VRel i n (ρ x) (ρ' x)) : ARel i n (xs.map ρ) (xs.map ρ') :=
  ARel.of_lt (by simp) fun j hj => by
    have hj' : j < xs.size := by simpa using hj
    have e1 : (xs.map ρ).getD j undef = ρ xs[j] := by rw [Array.getD_eq_getD_getElem?, Array.getElem?_map, Array.getElem?_eq_getElem hj']; rfl
    have e2 : (xs.map ρ').getD j undef = ρ' xs[j] := by rw [Array.getD_eq_getD_getElem?, Array.getElem?_map, Array.getElem?_eq_getElem hj']; rfl
    rw [e1, e2]
    exact hρ _ (by simp)

theorem fold_zip {n : Nat} : ∀ (ps : List Tmp) (xs ys : List Value) (as bs : Array Value), LV i n xs ys → ARel i n as bs →
    ARel i n ((ps.zip xs).foldl (fun tmps (t, a) => tmps.setIfInBounds t a) as) ((ps.zip ys).foldl (fun tmps (t, a) => tmps.setIfInBounds t a) bs)
  | [], _, _, _, _, _, ha => by simpa using ha
  | _ :: _, [], [], _, _, _, ha => by simpa using ha
  | p :: ps, x :: xs, y :: ys, as, bs, hl, ha => by
    simp only [List.zip_cons_cons, List.foldl_cons]
    exact fold_zip ps xs ys _ _ hl.2 (ha.set p hl.1)
  | _ :: _, [], _ :: _, _, _, hl, _ => hl.elim
  | _ :: _, _ :: _, [], _, _, hl, _ => hl.elim

theorem builtinA_rep (s : Sat P i h w0 w) (o : Oper) (b : Builtin) (c : Call) (hop : o.op = .call c) (hcb : c.callee = .builtin b) (hρ : ∀ x ∈ o.op.operands, VRel i h.n (ρ x) (ρ' x)) :
    Rep P i h w0 (builtinA P ρ o b c.argTypes c.args.toList h) ((execOp ρ' o).run P w) := by
  have hargs : ∀ x ∈ c.args, VRel i h.n (ρ x) (ρ' x) := fun x hx => hρ x (by rw [hop]; simp [Op.operands, Call.operands, hcb, hx])
  have hex : (execOp ρ' o).run P w = (builtin b c.argTypes o.type (c.args.map fun | .const _ => true | _ => false) (c.args.map ρ')).run P w := by
    simp only [execOp, hop, resolve, hcb, Sem.run_bind, Sem.run_pure, Result.andThen_ok, invoke]
    rfl
  have harr : ∀ l : List Operand, c.args.toList = l → c.args.map ρ' = (l.map ρ').toArray := fun l hl => by subst hl; apply Array.ext'; simp
  unfold builtinA
  split
  · rename_i x hl
    have hx := hargs x (by rw [← Array.mem_toList_iff, hl]; simp)
    split
    · rename_i t ht
      rw [hex, harr _ hl]
      refine optVal_rep s fun v hv => ?_
      obtain ⟨h1, h2⟩ := lenArgA_sound s ht hx hv o.type
      exact ⟨v, h1, VRel.of_flat _ _ _ h2⟩
    · trivial
  · rename_i d x hl
    have hd := hargs d (by rw [← Array.mem_toList_iff, hl]; simp)
    have hx := hargs x (by rw [← Array.mem_toList_iff, hl]; simp)
    split
    · rename_i t ht
      rw [hex, harr _ hl]
      refine optNew_rep fun v h' hv => ?_
      obtain ⟨w', h1, h2, h3, h4, h5⟩ := copyA_sound s ht hd hx hv o.type
      exact ⟨i, v, w', h1, Ren.le.refl _ _, VRel.of_flat _ _ _ h2, h3, h4⟩
    · trivial
  · rename_i d x hl
    have hd := hargs d (by rw [← Array.mem_toList_iff, hl]; simp)
    have hx := hargs x (by rw [← Array.mem_toList_iff, hl]; simp)
    split
    · rename_i t t1 ht ht1
      rw [hex, harr _ hl]
      exact optNew_rep fun v h' hv => appendA_sound s ht ht1 hd hx hv o.type
    · trivial
  · exact flatOp_rep s o hρ

/-- No function with a body is the one that the model answers by itself. -/
def Named (P : Program) : Prop := ∀ (k : Nat) (fn : Func), P.funcs[k]? = some fn → fn.body.isSome = true → (fn.name == "runtime.NumGoroutine") = false

theorem callA_rep (hN : Named P) (s : Sat P i h w0 w) (o : Oper) (c : Call) (hop : o.op = .call c) (hρ : ∀ x ∈ o.op.operands, VRel i h.n (ρ x) (ρ' x)) : Rep P i h w0 (callA P ρ o c h) ((execOp ρ' o).run P w) := by
  unfold callA
  split
  · rename_i f hcb
    have hf := hρ f (by rw [hop]; simp [Op.operands, Call.operands, hcb])
    have hargs : ∀ x ∈ c.args, VRel i h.n (ρ x) (ρ' x) := fun x hx => hρ x (by rw [hop]; simp [Op.operands, Call.operands, hcb, hx])
    unfold callVal
    split
    · rename_i k first captured hfe
      rw [hfe] at hf
      unfold callFn
      rw [funcT_eq]
      split
      · rename_i fn hk
        split
        · rename_i body hbody
          cases hfv : ρ' f with
          | func fn2 first2 captured2 =>
            rw [hfv] at hf
            cases hf with
            | one _ hv => simp [flat1] at hv
            | func _ _ _ _ _ _ hs1 hs2 hs3 hs4 =>
              refine ⟨i, _, w, ?_, Ren.le.refl _ _, ((ARel.append ⟨hs1, hs2⟩ (ARel.map hargs)).append ⟨hs3, hs4⟩), s, Keep.refl h⟩
              have hn : ¬ fn.name = "runtime.NumGoroutine" := by simpa using hN k fn hk (by simp [hbody])
              have hb : ¬ fn.body = none := by intro hb; simp [hb] at hbody
              simp [execOp, hop, resolve, hcb, hfv, Deferred.ofValue, invoke, Ren.fn, callFunc, hk, hn, hb]
          | _ => rw [hfv] at hf; cases hf
        · trivial
      · trivial
    · rename_i l first captured hfe
      rw [hfe] at hf
      unfold callYield
      split
      · rename_i r hl
        split
        · rename_i hsz
          cases hfv : ρ' f with
          | func fn2 first2 captured2 =>
            rw [hfv] at hf
            cases hf with
            | one _ hv => simp [flat1] at hv
            | func _ _ _ _ _ hfn hs1 hs2 hs3 hs4 =>
              obtain ⟨o', ho, m, rfl, hm⟩ := s.objs hl rfl
              have harr := ARel.append ⟨hs1, hs2⟩ (ARel.map hargs)
              refine ⟨i, _, w, ?_, Ren.le.refl _ _, hfn, fold_zip r.params.toList _ _ _ _ harr.list hm.tmps, s, Keep.refl h⟩
              have hsz2 : (first2 ++ c.args.map ρ').size = r.params.size := by rw [← harr.1]; exact hsz
              have hg := getObj_of (P := P) ho (fun _ _ _ h => by cases h)
              have hfold : ∀ (zs : Array Value) (ts : Array Value), (r.params.zip zs).foldl (fun tmps (t, a) => tmps.setIfInBounds t a) ts = (r.params.toList.zip zs.toList).foldl (fun tmps (t, a) => tmps.setIfInBounds t a) ts := fun zs ts => by
                rw [← Array.foldl_toList, Array.toList_zip]
              have hsz3 : ¬ (first2.size + c.args.size ≠ r.params.size) := by simpa using hsz2
              simp only [execOp, hop, resolve, hcb, hfv, Sem.run_bind, Deferred.ofValue, Sem.run_pure, Result.andThen_ok, invoke, Ren.fn, Instr.yield, Instr.getLoop, hg, hm.params, Array.size_append, Array.size_map, if_neg hsz3, hm.fn, hm.assign, hm.body, hfold]
          | _ => rw [hfv] at hf; cases hf
        · trivial
      · trivial
    · trivial
  · rename_i b hcb
    exact builtinA_rep s o b c hop hcb hρ
  · trivial

theorem new_cells (s : Sat P i h w0 w) (t : TypeId) {cs ds : Array Value} (hc : ARel i h.n cs ds) : ∃ i', i.le i' h.n ∧ VRel i' (h.n + 1) (.pointer (some ⟨h.n, 0, none⟩)) (.pointer (some ⟨w.heap.size, 0, none⟩)) ∧ Sat P i' (h.push (.cells cs t)) w0 (w.alloc (.cells ds t)) ∧ Keep h (h.push (.cells cs t)) :=
  ⟨i.with h.n w.heap.size 0, i.with_le _ _ _, new_ptr, newRow_sat s t 0 hc, Keep.push s.ro _⟩

theorem opA_rep (hN : Named P) (s : Sat P i h w0 w) (o : Oper) (hρ : ∀ x ∈ o.op.operands, VRel i h.n (ρ x) (ρ' x)) : Rep P i h w0 (opA P ρ o h) ((execOp ρ' o).run P w) := by
  have hflat := flatOp_rep s o hρ
  unfold opA
  split
  · rename_i x hop
    exact Val.same s (hρ x (by rw [hop]; simp [Op.operands])) (by simp [execOp, hop])
  · rename_i x hop
    exact Val.same s (hρ x (by rw [hop]; simp [Op.operands])) (by simp [execOp, hop])
  · rename_i c a b hop
    have hc := hρ c (by rw [hop]; simp [Op.operands])
    have ha := hρ a (by rw [hop]; simp [Op.operands])
    have hb := hρ b (by rw [hop]; simp [Op.operands])
    unfold opPick
    split
    · rename_i ht
      rw [ht] at hc
      have := VRel.eq_of_flat rfl hc
      exact Val.same s ha (by simp [execOp, hop, this, asBool])
    · rename_i ht
      rw [ht] at hc
      have := VRel.eq_of_flat rfl hc
      exact Val.same s hb (by simp [execOp, hop, this, asBool])
    · trivial
  · rename_i e hop
    unfold opAlloc
    split
    · rename_i z hz
      obtain ⟨zv, h1, rfl, h2⟩ := run_zeroB hz w
      obtain ⟨i', g1, g2, g3, g4⟩ := new_cells s e (ARel.flat1s (i := i) (n := h.n) h2)
      exact ⟨i', _, _, by simp [execOp, hop, Instr.alloc, h1, newVar, newRow], g1, g2, g3, g4⟩
    · trivial
  · rename_i e x hop
    have hx := hρ x (by rw [hop]; simp [Op.operands])
    obtain ⟨i', g1, g2, g3, g4⟩ := new_cells s e hx.cells
    exact ⟨i', _, _, by simp [execOp, hop, Instr.box, newVar, newRow], g1, g2, g3, g4⟩
  · rename_i t a hop
    have ha := hρ a (by rw [hop]; simp [Op.operands])
    unfold opLoad
    split
    · rename_i ad had
      rw [had] at ha
      have e1 : ρ' a = .pointer (some (i.addr ad)) := by
        generalize ρ' a = z at ha
        cases ha with
        | one _ hv => simp [flat1] at hv
        | ptr _ _ => rfl
      have : (execOp ρ' o).run P w = (do pure (Next.value (← loadVar t (i.addr ad))) : Sem Next).run P w := by simp [execOp, hop, e1, Instr.loadAt, Instr.sureAddr]
      rw [this]
      exact optVal_rep s fun v hv => loadA_sound s hv
    · trivial
  · rename_i t a x hop
    have ha := hρ a (by rw [hop]; simp [Op.operands])
    have hx := hρ x (by rw [hop]; simp [Op.operands])
    unfold opStore
    split
    · rename_i ad had
      rw [had] at ha
      have e1 : ρ' a = .pointer (some (i.addr ad)) := by
        generalize ρ' a = z at ha
        cases ha with
        | one _ hv => simp [flat1] at hv
        | ptr _ _ => rfl
      cases hst : storeA P h t ad (ρ x) with
      | none => trivial
      | some h1 =>
        obtain ⟨w', g1, g2, g3, g4⟩ := storeA_sound s hx hst
        exact ⟨i, w', by simp [execOp, hop, e1, Instr.storeAt, Instr.sureAddr, g1], Ren.le.refl _ _, g2, g3⟩
    · trivial
  · rename_i t ps hop
    have hp := PRel.of (i := i) (n := h.n) (ρ := ρ) (ρ' := ρ') ps.toList fun p hp => hρ p.2 (by rw [hop]; simp only [Op.operands, List.mem_toArray, List.mem_map]; exact ⟨p, hp, rfl⟩)
    have e1 : ps.map (fun (k, x) => (k, ρ' x)) = (ps.toList.map fun (k, x) => (k, ρ' x)).toArray := by apply Array.ext'; simp
    have : (execOp ρ' o).run P w = (do pure (Next.value (← Instr.build t (ps.toList.map fun (k, x) => (k, ρ' x)).toArray)) : Sem Next).run P w := by simp only [execOp, hop, e1]
    rw [this]
    exact optVal_rep s fun v hv => buildA_sound hp hv w
  · rename_i t n ps hop
    have hp := PRel.of (i := i) (n := h.n) (ρ := ρ) (ρ' := ρ') ps.toList fun p hp => hρ p.2 (by rw [hop]; simp only [Op.operands, List.mem_toArray, List.mem_map]; exact ⟨p, hp, rfl⟩)
    have e1 : ps.map (fun (k, x) => (k, ρ' x)) = (ps.toList.map fun (k, x) => (k, ρ' x)).toArray := by apply Array.ext'; simp
    have : (execOp ρ' o).run P w = (do pure (Next.value (← Instr.buildSlice t n (ps.toList.map fun (k, x) => (k, ρ' x)).toArray)) : Sem Next).run P w := by simp only [execOp, hop, e1]
    rw [this]
    exact optNew_rep fun v h' hv => buildSliceA_sound s hp hv
  · rename_i t x k hop
    have ha := hρ x (by rw [hop]; simp [Op.operands])
    unfold opFieldAddr
    split
    · rename_i ad had
      rw [had] at ha
      have e1 : ρ' x = .pointer (some (i.addr ad)) ∧ ad.block < h.n := by
        generalize ρ' x = z at ha
        cases ha with
        | one _ hv => simp [flat1] at hv
        | ptr _ hb => exact ⟨rfl, hb⟩
      have : (execOp ρ' o).run P w = (do pure (Next.value (← Instr.fieldAt t (.pointer (some (i.addr ad))) k)) : Sem Next).run P w := by simp only [execOp, hop, e1.1]
      rw [this]
      cases hfa : fieldAtA P t ad k with
      | none => trivial
      | some b =>
        obtain ⟨g1, g2⟩ := fieldAtA_sound (i := i) hfa w
        exact Val.same s (.ptr b (by rw [g2]; exact e1.2)) (run_v g1)
    · trivial
  · rename_i t x k hop
    have ha := hρ x (by rw [hop]; simp [Op.operands])
    have : (execOp ρ' o).run P w = (do pure (Next.value (← Instr.field t (ρ' x) k)) : Sem Next).run P w := by simp only [execOp, hop]
    rw [this]
    exact optVal_rep s fun v hv => fieldA_sound ha hv w
  · rename_i t x ix hop
    have ha := hρ x (by rw [hop]; simp [Op.operands])
    have hix := hρ ix (by rw [hop]; simp [Op.operands])
    unfold opIndexAddr
    split
    · rename_i ik iv hiv
      have he := VRel.eq_of_flat (by rw [hiv]; rfl) hix
      have : (execOp ρ' o).run P w = (do pure (Next.value (← Instr.indexAt t (ρ' x) (ρ ix))) : Sem Next).run P w := by simp only [execOp, hop, he]
      rw [this]
      cases hfa : indexAtA P t (ρ x) (ρ ix) with
      | none => trivial
      | some b =>
        obtain ⟨g1, g2⟩ := indexAtA_sound (i := i) ha hfa w
        exact Val.same s (.ptr b g2) (run_v g1)
    · trivial
  · rename_i t x lo hi mx hop
    have ha := hρ x (by rw [hop]; simp [Op.operands])
    unfold opSlice
    split
    · rename_i hf
      split
      · have e : ∀ y : Option Operand, (∀ z, y = some z → z ∈ o.op.operands ∧ z ∈ lo.toList ++ hi.toList ++ mx.toList) → y.map ρ' = y.map ρ := fun y hy => by
          cases y with
          | none => rfl
          | some z => simp only [Option.map_some, VRel.eq_of_flat (List.all_eq_true.1 hf z (hy z rfl).2) (hρ z (hy z rfl).1)]
        have e1 := e lo fun z hz => ⟨by rw [hop]; simp [Op.operands, hz], by simp [hz]⟩
        have e2 := e hi fun z hz => ⟨by rw [hop]; simp [Op.operands, hz], by simp [hz]⟩
        have e3 := e mx fun z hz => ⟨by rw [hop]; simp [Op.operands, hz], by simp [hz]⟩
        have : (execOp ρ' o).run P w = (do pure (Next.value (← Instr.sliceAt t (ρ' x) (lo.map ρ) (hi.map ρ) (mx.map ρ))) : Sem Next).run P w := by simp only [execOp, hop, e1, e2, e3]
        rw [this]
        refine optVal_rep s fun v hv => ?_
        cases hA : sliceA P t (ρ x) (lo.map ρ) (hi.map ρ) (mx.map ρ) with
        | some u => rw [hA] at hv; obtain rfl : u = v := by simpa using hv
                    exact sliceA_sound ha hA w
        | none => rw [hA] at hv; exact sliceG_sound s ha (by simpa using hv)
      · exact hflat
    · trivial
  · rename_i x k hop
    have ha := hρ x (by rw [hop]; simp [Op.operands])
    unfold opExtract
    split
    · rename_i vs hvs
      rw [hvs] at ha
      split
      · rename_i v hv
        have hk : k < vs.size := by
          have := (List.getElem?_eq_some_iff.1 hv).1
          simpa using this
        have hv2 : vs.getD k undef = v := by
          rw [Array.getD_eq_getD_getElem?, ← Array.getElem?_toList, hv]; rfl
        have he : ∃ ys, ρ' x = .tuple ys ∧ ys.size = vs.size ∧ VRel i h.n (vs.getD k undef) (ys.getD k undef) := by
          generalize ρ' x = z at ha
          cases ha with
          | one _ hv => simp [flat1] at hv
          | tuple _ ys h1 h2 => exact ⟨ys, rfl, h1.symm, h2 k hk⟩
        obtain ⟨ys, e1, e2, e3⟩ := he
        obtain ⟨u, hu, hr⟩ : ∃ u, ys[k]? = some u ∧ VRel i h.n (vs.getD k undef) u := ⟨ys.getD k undef, by rw [Array.getD_eq_getD_getElem?, Array.getElem?_eq_getElem (by omega)]; rfl, e3⟩
        rw [hv2] at hr
        exact Val.same s hr (by simp [execOp, hop, e1, Instr.extract, hu])
      · trivial
    · trivial
  · rename_i f first captured hop
    have h1 := ARel.map (i := i) (n := h.n) (ρ := ρ) (ρ' := ρ') (xs := first) fun x hx => hρ x (by rw [hop]; simp [Op.operands, hx])
    have h2 := ARel.map (i := i) (n := h.n) (ρ := ρ) (ρ' := ρ') (xs := captured) fun x hx => hρ x (by rw [hop]; simp [Op.operands, hx])
    exact Val.same s (.func (.func f) _ _ _ _ trivial h1.1 h1.2 h2.1 h2.2) (by simp [execOp, hop, Instr.makeFunc, Ren.fn])
  · rename_i t hop
    obtain ⟨i', v', w', g1, g2⟩ := makeMap_sound s t
    exact ⟨i', v', w', by simp only [execOp, hop, Option.map_none]; exact run_v g1, g2⟩
  · rename_i t l c hop
    have hl := hρ l (by rw [hop]; simp [Op.operands])
    have hc := hρ c (by rw [hop]; simp [Op.operands])
    unfold opMakeSlice
    split
    · rename_i k1 n1 k2 n2 e1 e2
      have : (execOp ρ' o).run P w = (do pure (Next.value (← Instr.makeSlice t (ρ l) (ρ c))) : Sem Next).run P w := by simp only [execOp, hop, VRel.eq_of_flat (by rw [e1]; rfl) hl, VRel.eq_of_flat (by rw [e2]; rfl) hc]
      rw [this]
      exact optNew_rep fun v h' hv => makeSliceA_sound s hv
    · trivial
  · rename_i t x ix ok hop
    have hx := hρ x (by rw [hop]; simp [Op.operands])
    have hix := hρ ix (by rw [hop]; simp [Op.operands])
    have : (execOp ρ' o).run P w = (do pure (Next.value (← Instr.lookup t (ρ' x) (ρ' ix) ok)) : Sem Next).run P w := by simp only [execOp, hop]
    rw [this]
    refine optVal_rep s fun v hv => ?_
    cases hA : lookupA P h t (ρ x) (ρ ix) ok with
    | some u =>
      rw [hA] at hv
      obtain rfl : u = v := by simpa using hv
      obtain ⟨g1, g2⟩ := lookupA_sound s hx hix hA
      exact ⟨u, g1, VRel.of_flat _ _ _ g2⟩
    | none =>
      rw [hA] at hv
      exact lookupU_sound s hx hix (by simpa using hv)
  · rename_i t m k x hop
    have hm := hρ m (by rw [hop]; simp [Op.operands])
    have hk := hρ k (by rw [hop]; simp [Op.operands])
    have hx := hρ x (by rw [hop]; simp [Op.operands])
    cases hu : mapUpdateA P h t (ρ m) (ρ k) (ρ x) with
    | none => trivial
    | some h1 =>
      obtain ⟨w', g1, g2, g3, g4⟩ := mapUpdateA_sound s hm hk hx hu
      exact ⟨i, w', by simp only [execOp, hop]; exact run_u g1, Ren.le.refl _ _, g2, g3⟩
  · rename_i t m k x hop
    have hm := hρ m (by rw [hop]; simp [Op.operands])
    have hk := hρ k (by rw [hop]; simp [Op.operands])
    have hx := hρ x (by rw [hop]; simp [Op.operands])
    cases hu : mapUpdateA P h t (ρ m) (ρ k) (ρ x) with
    | none =>
      cases hu2 : insertU P h t (ρ m) (ρ k) (ρ x) with
      | none => trivial
      | some h1 =>
        obtain ⟨w', g1, g2, g3, g4⟩ := insertU_sound s hm hk hx hu2
        exact ⟨i, w', by simp only [execOp, hop]; exact run_u g1, Ren.le.refl _ _, g2, g3⟩
    | some h1 =>
      obtain ⟨w', g1, g2, g3, g4⟩ := mapUpdateA_sound s hm hk hx hu
      exact ⟨i, w', by simp only [execOp, hop]; exact run_u g1, Ren.le.refl _ _, g2, g3⟩
  · rename_i t x hop
    have hx := hρ x (by rw [hop]; simp [Op.operands])
    have : (execOp ρ' o).run P w = (do pure (Next.value (← Instr.range t (ρ' x))) : Sem Next).run P w := by simp only [execOp, hop]
    rw [this]
    exact optNew_rep fun v h' hv => rangeA_sound s hx hv
  · rename_i x str hop
    have hx := hρ x (by rw [hop]; simp [Op.operands])
    cases hl : nextA h (ρ x) str with
    | none => trivial
    | some l =>
      obtain ⟨p, hp, w', g1, g2, g3, g4, g5⟩ := nextA_sound s hx hl o.type
      exact ⟨p, hp, i, p.1, w', by simp only [execOp, hop]; exact run_v g1, Ren.le.refl _ _, VRel.of_flat _ _ _ g2, g3, g4⟩
  · rename_i x hop
    have hx := hρ x (by rw [hop]; simp [Op.operands])
    have : (execOp ρ' o).run P w = (do pure (Next.value (← Instr.entry (ρ' x))) : Sem Next).run P w := by simp only [execOp, hop]
    rw [this]
    refine optVal_rep s fun v hv => ?_
    obtain ⟨g1, g2⟩ := entryA_sound s hx hv
    exact ⟨v, g1, VRel.of_flat _ _ _ g2⟩
  · rename_i src dst x hop
    have hx := hρ x (by rw [hop]; simp [Op.operands])
    have : (execOp ρ' o).run P w = (do pure (Next.value (← convert src dst (ρ' x))) : Sem Next).run P w := by simp only [execOp, hop]
    unfold opConvert
    split
    · split
      · rw [this]
        exact optNew_rep fun v h' hv => toBytesA_sound s hx hv
      · exact hflat
    · split
      · rename_i hsb
        obtain ⟨w', g1, g2⟩ := sameBytesA_sound s hx hsb
        rw [this]
        exact ⟨i, _, w', run_v g1, Ren.le.refl _ _, hx, g2, Keep.refl h⟩
      · rw [this]
        refine optVal_rep s fun v hv => ?_
        obtain ⟨g1, g2⟩ := toStringA_sound s hx hv
        exact ⟨v, g1, VRel.of_flat _ _ _ g2⟩
    · exact hflat
  · rename_i op t x y yt hop
    have hx := hρ x (by rw [hop]; simp [Op.operands])
    have hy := hρ y (by rw [hop]; simp [Op.operands])
    unfold opBin
    split
    · rename_i a b ha hb
      unfold opFast
      split
      · rename_i v hv
        rw [ha] at hx
        rw [hb] at hy
        have e1 := VRel.eq_of_flat rfl hx
        have e2 := VRel.eq_of_flat rfl hy
        obtain ⟨g1, g2⟩ := fastInt_sound (P := P) hv t x y w
        exact Val.same s (VRel.of_flat _ _ _ g2) (by simp only [execOp, hop, e1, e2]; exact run_v g1)
      · exact hflat
    · rename_i a l c ha hb
      rw [hb] at hy
      have e2 := VRel.eq_of_flat rfl hy
      rw [ha] at hx
      have e1 : ∃ a' c', ρ' x = .slice (some a') l c' := by
        generalize ρ' x = z at hx
        cases hx with
        | one _ hv => simp [flat1] at hv
        | slice _ _ _ _ => exact ⟨_, _, rfl⟩
      obtain ⟨a', c', e1⟩ := e1
      have e0 : (execOp ρ' o).run P w = (do pure (Next.value (← (do eqGuard op t x y (ρ' x) (ρ' y); binOp op t (ρ' x) (ρ' y) : Sem Value))) : Sem Next).run P w := by simp only [execOp, hop]
      rw [e0]
      refine optVal_rep s fun v hv => ?_
      unfold sliceNil at hv
      split at hv
      · split at hv
        · rename_i e hu
          injection hv with hv
          subst hv
          exact ⟨.bool false, by simp [e1, e2, eqGuard, Lib.run_eql_slice_nil w t e (some a') l c' 0 0 ((undT_eq P t).symm.trans hu)], .one _ rfl⟩
        · cases hv
      · split at hv
        · rename_i e hu
          injection hv with hv
          subst hv
          exact ⟨.bool true, by simp [e1, e2, eqGuard, run_neq_slice_nil_any w t e (some a') l c' 0 0 ((undT_eq P t).symm.trans hu)], .one _ rfl⟩
        · cases hv
      · cases hv
    · rename_i u z ha hb
      rw [hb] at hy
      have e2 := VRel.eq_of_flat rfl hy
      rw [ha] at hx
      have e1 : ∃ z', ρ' x = .iface u z' := by
        generalize ρ' x = q at hx
        cases hx with
        | one _ hv => simp [flat1] at hv
        | iface _ _ z' _ => exact ⟨z', rfl⟩
      obtain ⟨z', e1⟩ := e1
      have e0 : (execOp ρ' o).run P w = (do pure (Next.value (← (do eqGuard op t x y (ρ' x) (ρ' y); binOp op t (ρ' x) (ρ' y) : Sem Value))) : Sem Next).run P w := by simp only [execOp, hop]
      rw [e0]
      refine optVal_rep s fun v hv => ?_
      rw [e1, e2]
      obtain ⟨g1, g2⟩ := ifaceNil_sound (P := P) hv x y u z' w
      exact ⟨v, g1, VRel.of_flat _ _ _ g2⟩
    · exact hflat
  · rename_i op t x hop
    have hx := hρ x (by rw [hop]; simp [Op.operands])
    unfold opUn
    split
    · rename_i e1 e2
      rw [e2] at hx
      have := VRel.eq_of_flat rfl hx
      exact Val.same s (.one _ rfl) (by simp [execOp, hop, this, Op.unary])
    · rename_i e1 e2
      rw [e2] at hx
      have := VRel.eq_of_flat rfl hx
      exact Val.same s (.one _ rfl) (by simp [execOp, hop, this, Op.unary])
    · exact hflat
  · rename_i c hop
    exact callA_rep hN s o c hop hρ
  · rename_i x hop
    have hx := hρ x (by rw [hop]; simp [Op.operands])
    unfold opNilCheck
    split
    · rename_i a ha
      rw [ha] at hx
      cases hfv : ρ' x with
      | pointer a' =>
        rw [hfv] at hx
        cases hx with
        | one _ hv => simp [flat1] at hv
        | ptr _ hb => exact Val.same s (.ptr a hb) (by simp [execOp, hop, hfv])
      | _ => rw [hfv] at hx; cases hx
    · rename_i f first captured ha
      rw [ha] at hx
      cases hfv : ρ' x with
      | func fn2 first2 captured2 =>
        rw [hfv] at hx
        have hx2 := hx
        cases hx with
        | one _ hv => simp [flat1] at hv
        | func _ _ _ _ _ _ _ _ _ _ => exact Val.same s hx2 (by simp [execOp, hop, hfv, Ren.fn])
      | _ => rw [hfv] at hx; cases hx
    · trivial
  · rename_i t x hop
    have hx := hρ x (by rw [hop]; simp [Op.operands])
    unfold opMkIface
    rw [undT_eq]
    cases hu : P.underlying t with
    | none => trivial
    | some d =>
      have key : (∀ ms, d ≠ .interface ms) → Val P i h w0 (.iface t (ρ x)) h ((execOp ρ' o).run P w) := fun hd =>
        Val.same s (.iface _ _ _ hx) (by
          simp only [execOp, hop]
          refine run_v ?_
          simp only [Instr.makeInterface, Sem.run_bind, run_underlying hu, Result.andThen_ok]
          cases d <;> first | rfl | exact absurd rfl (hd _))
      cases d <;> first | trivial | exact key (fun ms e => by cases e)
  · exact hflat

end Go.Proofs.Ev
