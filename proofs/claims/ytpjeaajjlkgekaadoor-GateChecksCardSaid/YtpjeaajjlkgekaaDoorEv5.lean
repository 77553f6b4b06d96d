/-
  AN EVALUATOR OF CLOSED CALLS, PART 5: maps, ranges, copy, append, bytes and strings. It holds for every program; no statement is proved here.
-/
import Derived.Test.YtpjeaajjlkgekaaDoorEv4
noncomputable section
namespace Go.Proofs.Ev
set_option linter.unusedSimpArgs false
open Go.RowKit
set_option linter.unusedVariables false

variable {P : Program} {i : Ren} {h h' : AH} {w0 w : World}

/-! ### Maps whose keys and elements bear no address -/
theorem flat_of2 {v : Value} (hv : flat2 v = true) : flat v = true := by
  cases v with
  | tuple vs => simp [flat2, flat1] at hv
  | _ => exact hv

def flatEntries (es : Array MapEntry) : Bool := es.toList.all fun e => flat2 e.key && flat2 e.val

theorem getObj_of {r : Nat} {o : Obj} (hb : w.heap[r]? = some o) (hc : ∀ c e f, o ≠ .cells c e f) : (getObj r).run P w = .ok o w := by
  cases o <;> first | exact absurd rfl (hc _ _ _) | simp [getObj, Sem.run, hb]

theorem setObj_of {r : Nat} {o : Obj} (hb : w.heap[r]? = some o) (hc : ∀ c e f, o ≠ .cells c e f) (p : Obj) : (setObj r p).run P w = .ok () (w.putObj r p) := by
  cases o <;> first | exact absurd rfl (hc _ _ _) | simp [setObj, Sem.run, hb, World.putObj]

theorem getMap {r : Nat} {es : Array MapEntry} {ck : Nat} (hb : w.heap[r]? = some (.map es ck)) : (getObj r).run P w = .ok (.map es ck) w := getObj_of hb fun _ _ _ h => by cases h

theorem Sat.objs (s : Sat P i h w0 w) {b : Nat} {o : Obj} (hb : h.obj b = some o) (hs : solid o = true) : ∃ o', w.heap[i.blk b]? = some o' ∧ ORel P i h.n b o o' := (s.obj b o hb).2.2.2 hs

theorem Sat.map (s : Sat P i h w0 w) {r : Nat} {es : Array MapEntry} {ck : Nat} (hb : h.obj r = some (.map es ck)) (hf : flatEntries es = true) : w.heap[i.blk r]? = some (.map es ck) := by
  obtain ⟨o', ho, fs, rfl, h1, h2⟩ := s.objs hb rfl
  rw [ho]
  congr 2
  apply Array.ext h1
  intro j hj1 hj2
  obtain ⟨f, hf1, hr⟩ := h2 j es[j] (by simp [hj2])
  have e1 : f = fs[j] := by simpa [hj1] using hf1.symm
  have hfl := List.all_eq_true.1 hf es[j] (by simp)
  simp only [Bool.and_eq_true] at hfl
  have k1 := VRel.eq_of_flat (flat_of2 hfl.1) hr.key
  have k2 := VRel.eq_of_flat (flat_of2 hfl.2) hr.val
  have k3 := hr.born
  rw [← e1]
  cases f
  cases he : es[j]
  simp_all

theorem ERel.of_flat {n : Nat} {e : MapEntry} (hk : flat2 e.key = true) (hv : flat2 e.val = true) : ERel i n e e := ⟨VRel.of_flat2 i n _ hk, VRel.of_flat2 i n _ hv, rfl⟩

theorem ORel.map_flat {n b : Nat} {es : Array MapEntry} {ck : Nat} (hf : flatEntries es = true) : ORel P i n b (.map es ck) (.map es ck) :=
  ⟨es, rfl, rfl, fun j e he => by
    have := List.all_eq_true.1 hf e (by simpa using Array.mem_of_getElem? he)
    simp only [Bool.and_eq_true] at this
    exact ⟨e, he, ERel.of_flat this.1 this.2⟩⟩

def lookRest (k e : TypeId) (es : Array MapEntry) (ix : Value) (ok : Bool) : Sem Value := do
  Instr.checkKey es.isEmpty 10000 k ix
  let (v, ok') ← match ← Instr.findKey k ix es.toList with
    | some (_, v) => pure (v, true)
    | none => pure (← zeroValue e, false)
  pure (if ok then .tuple #[v, .bool ok'] else v)

def lookupA (P : Program) (h : AH) (t : TypeId) (x ix : Value) (ok : Bool) : Option Value :=
  match undT P t, x with
  | some (.map k e), .map (some r) => match h.obj r with
    | some (.map es _) => if flatEntries es && flat ix then match runP P (lookRest k e es ix ok) with
        | some v => if flat v then some v else none
        | none => none
      else none
    | _ => none
  | some (.map k e), .map none => if flat ix then match runP P (lookRest k e #[] ix ok) with
        | some v => if flat v then some v else none
        | none => none
      else none
  | _, _ => none

theorem lookupA_sound (s : Sat P i h w0 w) {t : TypeId} {x x' ix ix' : Value} (hx : VRel i h.n x x') (hix : VRel i h.n ix ix') {ok : Bool} {v : Value} (hl : lookupA P h t x ix ok = some v) :
    (Instr.lookup t x' ix' ok).run P w = .ok v w ∧ flat v = true := by
  unfold lookupA at hl
  simp only [undT_eq, infoT_eq, funcT_eq] at hl
  split at hl
  · rename_i k e r hu
    cases hx with
    | one _ hv => simp [flat1] at hv
    | map _ hr =>
      split at hl
      · rename_i es ck hb
        split at hl
        · rename_i hf
          simp only [Bool.and_eq_true] at hf
          split at hl
          · rename_i u hu'
            split at hl
            · rename_i hfv
              injection hl with hl
              subst hl
              have he := VRel.eq_of_flat hf.2 hix
              subst he
              refine ⟨?_, hfv⟩
              have := runP_sound P _ _ hu' w
              simp only [Instr.lookup, Sem.run_bind, run_underlying hu, Result.andThen_ok, getMap (s.map hb hf.1)]
              simp only [lookRest, Sem.run_bind, Result.andThen_ok, Sem.run_pure] at this ⊢
              exact this
            · cases hl
          · cases hl
        · cases hl
      · cases hl
  · rename_i k e hu
    cases hx with
    | one _ hv =>
      split at hl
      · rename_i hf
        split at hl
        · rename_i u hu'
          split at hl
          · rename_i hfv
            injection hl with hl
            subst hl
            have he := VRel.eq_of_flat hf hix
            subst he
            refine ⟨?_, hfv⟩
            have := runP_sound P _ _ hu' w
            simp only [Instr.lookup, Sem.run_bind, run_underlying hu, Result.andThen_ok, Sem.run_pure]
            simp only [lookRest, Sem.run_bind, Result.andThen_ok, Sem.run_pure] at this ⊢
            exact this
          · cases hl
        · cases hl
      · cases hl
  · cases hl

def updRest (k : TypeId) (es : Array MapEntry) (ck : Nat) (key value : Value) : Sem (Array MapEntry × Nat) := do
  Instr.checkKey false 10000 k key
  match ← Instr.findKey k key es.toList with
  | some (j, _) => do
    let key ← Instr.keyThatStays (((es[j]?).map (·.key)).getD key) key
    pure (es.modify j fun e => { e with key, val := value }, ck)
  | none => pure (es.push { key, val := value, born := ck }, ck + 1)

def mapUpdateA (P : Program) (h : AH) (t : TypeId) (m key value : Value) : Option AH :=
  match undT P t, m with
  | some (.map k _), .map (some r) => match h.obj r with
    | some (.map es ck) => if flatEntries es && flat key && flat value && decide (h.ro ≤ r) then match runP P (updRest k es ck key value) with
        | some (es', ck') => if flatEntries es' then some (h.put r (.map es' ck')) else none
        | none => none
      else none
    | _ => none
  | _, _ => none

theorem Sat.putObj (s : Sat P i h w0 w) {b : Nat} {o p p' : Obj} (hb : h.obj b = some o) (hs : solid o = true) (hro : h.ro ≤ b) (hp : ORel P i h.n b p p') : Sat P i (h.put b p) w0 (w.putObj (i.blk b) p') := by
  obtain ⟨_, h2', h3, _⟩ := s.obj b o hb
  have h2 := h2' (Nat.le_trans s.glr hro)
  refine s.put hb hs ⟨rfl, rfl, rfl, by simp [World.putObj], fun k hk => World.putObj_heap_other (by omega)⟩ (by simp [World.putObj]) (fun k hk => World.putObj_heap_other hk) fun _ => ⟨p', World.putObj_heap_same h3, hp⟩

theorem mapUpdateA_sound (s : Sat P i h w0 w) {t : TypeId} {m m' key key' value value' : Value} (hm : VRel i h.n m m') (hk : VRel i h.n key key') (hv : VRel i h.n value value') (hu : mapUpdateA P h t m key value = some h') :
    ∃ w', (Instr.mapUpdate t m' key' value').run P w = .ok () w' ∧ Sat P i h' w0 w' ∧ Keep h h' ∧ h'.n = h.n := by
  unfold mapUpdateA at hu
  simp only [undT_eq, infoT_eq, funcT_eq] at hu
  split at hu
  · rename_i k e r hun
    cases hm with
    | one _ hv => simp [flat1] at hv
    | map _ hr =>
      split at hu
      · rename_i es ck hb
        split at hu
        · rename_i hf
          simp only [Bool.and_eq_true, decide_eq_true_eq] at hf
          obtain ⟨⟨⟨f1, f2⟩, f3⟩, f4⟩ := hf
          split at hu
          · rename_i es' ck' hrest
            split at hu
            · rename_i f5
              injection hu with hu
              subst hu
              have e1 := VRel.eq_of_flat f2 hk
              have e2 := VRel.eq_of_flat f3 hv
              rw [e1, e2]
              have hobj := s.map hb f1
              refine ⟨w.putObj (i.blk r) (.map es' ck'), ?_, s.putObj hb rfl f4 (ORel.map_flat f5), Keep.put f4 _, rfl⟩
              have hset : ∀ o, (setObj (i.blk r) o).run P w = .ok () (w.putObj (i.blk r) o) := fun o => by simp [setObj, Sem.run, hobj, World.putObj]
              have := runP_sound P _ _ hrest w
              simp only [updRest, Sem.run_bind] at this
              simp only [Instr.mapUpdate, Sem.run_bind, run_underlying hun, Result.andThen_ok, getMap hobj]
              cases hc : (Instr.checkKey false 10000 k key).run P w with
              | halt x y => rw [hc] at this; simp at this
              | ok a w1 =>
                rw [hc] at this
                simp only [Result.andThen_ok] at this ⊢
                cases hfk : (Instr.findKey k key es.toList).run P w1 with
                | halt x y => rw [hfk] at this; simp at this
                | ok z w2 =>
                  rw [hfk] at this
                  simp only [Result.andThen_ok] at this ⊢
                  cases z with
                  | none =>
                    simp only [Sem.run_pure, Result.ok.injEq, Prod.mk.injEq] at this
                    obtain ⟨⟨rfl, rfl⟩, rfl⟩ := this
                    exact hset _
                  | some z =>
                    obtain ⟨j, u⟩ := z
                    simp only [Sem.run_bind] at this ⊢
                    cases hks : (Instr.keyThatStays (((es[j]?).map (·.key)).getD key) key).run P w2 with
                    | halt x y => rw [hks] at this; simp at this
                    | ok z w3 =>
                      rw [hks] at this
                      simp only [Result.andThen_ok, Sem.run_pure, Result.ok.injEq, Prod.mk.injEq] at this ⊢
                      obtain ⟨⟨rfl, rfl⟩, rfl⟩ := this
                      exact hset _
            · cases hu
          · cases hu
        · cases hu
      · cases hu
  · cases hu

theorem makeMap_sound (s : Sat P i h w0 w) (t : TypeId) :
    ∃ i' v' w', (Instr.makeMap t none).run P w = .ok v' w' ∧ i.le i' h.n ∧ VRel i' (h.n + 1) (.map (some h.n)) v' ∧ Sat P i' (h.push (.map #[] 0)) w0 w' ∧ Keep h (h.push (.map #[] 0)) := by
  refine ⟨i.with h.n w.heap.size 0, .map (some w.heap.size), w.alloc (.map #[] 0), by simp [Instr.makeMap], i.with_le _ _ _, ?_, s.alloc 0 fun _ => ORel.map_flat rfl, Keep.push s.ro _⟩
  have := VRel.map (i := i.with h.n w.heap.size 0) (n := h.n + 1) h.n (by omega)
  simpa using this

/-! ### Ranges over maps and strings -/
def rangeA (P : Program) (h : AH) (t : TypeId) (x : Value) : Option (Value × AH) :=
  match undT P t, x with
  | some .string, .string s => some (.pointer (some ⟨h.n, 0, none⟩), h.push (.stringIter s 0))
  | some (.map _ _), .map none => some (.pointer (some ⟨h.n, 0, none⟩), h.push (.mapIter none 0 #[] 0))
  | some (.map _ _), .map (some m) => match h.obj m with
    | some (.map es ck) => if flatEntries es && decide (m < h.n) then some (.pointer (some ⟨h.n, 0, none⟩), h.push (.mapIter (some m) ck #[] ck)) else none
    | _ => none
  | _, _ => none

theorem new_ptr {g : Nat} : VRel (i.with h.n w.heap.size g) (h.n + 1) (.pointer (some ⟨h.n, 0, none⟩)) (.pointer (some ⟨w.heap.size, 0, none⟩)) := by
  have := VRel.ptr (i := i.with h.n w.heap.size g) (n := h.n + 1) ⟨h.n, 0, none⟩ (by simp)
  simpa [Ren.addr] using this

theorem rangeA_sound (s : Sat P i h w0 w) {t : TypeId} {x x' : Value} (hx : VRel i h.n x x') {v : Value} (hr : rangeA P h t x = some (v, h')) :
    ∃ i' v' w', (Instr.range t x').run P w = .ok v' w' ∧ i.le i' h.n ∧ VRel i' h'.n v v' ∧ Sat P i' h' w0 w' ∧ Keep h h' := by
  unfold rangeA at hr
  simp only [undT_eq, infoT_eq, funcT_eq] at hr
  split at hr
  · rename_i q hu
    injection hr with hr
    obtain ⟨rfl, rfl⟩ := Prod.mk.inj hr
    have he := VRel.eq_of_flat (rfl : flat (.string q) = true) hx
    subst he
    exact ⟨i.with h.n w.heap.size 0, _, w.alloc (.stringIter q 0), by simp [Instr.range, run_underlying hu], i.with_le _ _ _, new_ptr, s.alloc 0 fun _ => rfl, Keep.push s.ro _⟩
  · rename_i k e hu
    injection hr with hr
    obtain ⟨rfl, rfl⟩ := Prod.mk.inj hr
    have he := VRel.eq_of_flat (rfl : flat (.map none) = true) hx
    subst he
    exact ⟨i.with h.n w.heap.size 0, _, w.alloc (.mapIter none 0 #[] 0), by simp [Instr.range, run_underlying hu], i.with_le _ _ _, new_ptr, s.alloc 0 fun _ => ⟨rfl, fun r hr => by cases hr⟩, Keep.push s.ro _⟩
  · rename_i k e m hu
    cases hx with
    | one _ hv => simp [flat1] at hv
    | map _ hm =>
      split at hr
      · rename_i es ck hb
        split at hr
        · rename_i hf
          simp only [Bool.and_eq_true, decide_eq_true_eq] at hf
          injection hr with hr
          obtain ⟨rfl, rfl⟩ := Prod.mk.inj hr
          exact ⟨i.with h.n w.heap.size 0, _, w.alloc (.mapIter (some (i.blk m)) ck #[] ck), by simp [Instr.range, run_underlying hu, getMap (s.map hb hf.1)], i.with_le _ _ _, new_ptr,
            s.alloc 0 fun _ => ⟨by simp [(i.with_le h.n w.heap.size 0).blk m hm], fun r hr => by injection hr with hr; subst hr; omega⟩, Keep.push s.ro _⟩
        · cases hr
      · cases hr
  · cases hr

def overA : Value := .tuple #[.bool false]

def nextA (h : AH) (x : Value) (str : Bool) : Option (List (Value × AH)) :=
  match x with
  | .pointer (some ⟨r, 0, none⟩) =>
    if h.ro ≤ r then
      match h.obj r, str with
      | some (.stringIter s pos), true =>
        if pos < s.size then some [(.tuple #[.bool true, goInt pos, .int .i32 (Utf8.decode s pos).1], h.put r (.stringIter s (pos + (Utf8.decode s pos).2)))] else some [(overA, h)]
      | some (.mapIter none _ _ _), false => some [(overA, h)]
      | some (.mapIter (some m) since seen last), false => match h.obj m with
        | some (.map es ck) =>
          if flatEntries es && !(!seen.isEmpty && !es.isEmpty && es.all (·.born ≥ last)) then
            let left := es.filter fun e => !seen.contains e.born
            let old := left.filter (·.born < since)
            let new := left.filter (·.born ≥ since)
            let candidates := (if old.isEmpty then #[none] else #[]) ++ (old ++ new).map some
            some (candidates.toList.map fun
              | some e => (.tuple #[.bool true, e.key, e.val], h.put r (.mapIter (some m) since (seen.push e.born) ck))
              | none => (overA, h))
          else none
        | _ => none
      | _, _ => none
    else none
  | _ => none

theorem cands_size (o n : Array MapEntry) : 0 < ((if o.isEmpty then #[none] else #[]) ++ (o ++ n).map some : Array (Option MapEntry)).size := by
  obtain ⟨_ | ⟨a, l⟩⟩ := o <;> simp <;> omega

theorem nextA_sound (s : Sat P i h w0 w) {x x' : Value} (hx : VRel i h.n x x') {str : Bool} {l : List (Value × AH)} (hn : nextA h x str = some l) (ty : TypeId) :
    ∃ p ∈ l, ∃ w', (Instr.next x' str ty).run P w = .ok p.1 w' ∧ flat p.1 = true ∧ Sat P i p.2 w0 w' ∧ Keep h p.2 ∧ p.2.n = h.n := by
  unfold nextA at hn
  split at hn
  · rename_i r
    cases hx with
    | one _ hv => simp [flat1] at hv
    | ptr _ ha =>
      split at hn
      · rename_i hro
        split at hn
        · rename_i q pos hb
          obtain ⟨o', ho, rfl⟩ := s.objs hb rfl
          have hg := getObj_of (P := P) ho (fun _ _ _ h => by cases h)
          split at hn
          · rename_i hlt
            injection hn with hn
            subst hn
            refine ⟨_, List.mem_singleton.2 rfl, w.putObj (i.blk r) (.stringIter q (pos + (Utf8.decode q pos).2)), ?_, rfl, s.putObj hb rfl hro rfl, Keep.put hro _, rfl⟩
            simp [Instr.next, Ren.addr, hg, hlt, setObj_of (P := P) ho (fun _ _ _ h => by cases h)]
          · rename_i hlt
            injection hn with hn
            subst hn
            exact ⟨_, List.mem_singleton.2 rfl, w, by simp [Instr.next, Ren.addr, hg, hlt, overA], rfl, s, Keep.refl h, rfl⟩
        · rename_i since seen last hb
          obtain ⟨o', ho, rfl, _⟩ := s.objs hb rfl
          have hg := getObj_of (P := P) ho (fun _ _ _ h => by cases h)
          injection hn with hn
          subst hn
          exact ⟨_, List.mem_singleton.2 rfl, w, by simp [Instr.next, Ren.addr, hg, overA], rfl, s, Keep.refl h, rfl⟩
        · rename_i m since seen last hb
          obtain ⟨o', ho, rfl, hmn⟩ := s.objs hb rfl
          have hg := getObj_of (P := P) ho (fun _ _ _ h => by cases h)
          split at hn
          · rename_i es ck hm
            split at hn
            · rename_i hf
              simp only [Bool.and_eq_true, Bool.not_eq_true'] at hf
              injection hn with hn
              have hmap := getMap (P := P) (s.map hm hf.1)
              generalize hcand : ((if ((es.filter fun e => !seen.contains e.born).filter (·.born < since)).isEmpty then #[none] else #[]) ++
                (((es.filter fun e => !seen.contains e.born).filter (·.born < since)) ++ ((es.filter fun e => !seen.contains e.born).filter (·.born ≥ since))).map some : Array (Option MapEntry)) = cands at hn
              have hsz : 0 < cands.size := by rw [← hcand]; exact cands_size _ _
              have key : ∀ (k : Nat) (w1 : World), k < cands.size → Sat P i h w0 w1 → (∀ c : Nat, w1.heap[c]? = w.heap[c]?) → ∃ p ∈ l, ∃ w', ((match cands[k]? with
                  | some (some e) => do
                    setObj (i.blk r) (.mapIter (some (i.blk m)) since (seen.push e.born) ck)
                    pure (.tuple #[.bool true, e.key, e.val])
                  | some none => pure (.tuple #[.bool false])
                  | none => stuck "Next: no such candidate" : Sem Value)).run P w1 = .ok p.1 w' ∧ flat p.1 = true ∧ Sat P i p.2 w0 w' ∧ Keep h p.2 ∧ p.2.n = h.n := by
                intro k w1 hk s1 hw1
                have hck : cands[k]? = some cands[k] := by simp [hk]
                rw [hck]
                cases hc : cands[k] with
                | none =>
                  refine ⟨(overA, h), ?_, w1, rfl, rfl, s1, Keep.refl h, rfl⟩
                  rw [← hn]
                  exact List.mem_map.2 ⟨none, by rw [← hc]; simp, rfl⟩
                | some e =>
                  refine ⟨(.tuple #[.bool true, e.key, e.val], h.put r (.mapIter (some m) since (seen.push e.born) ck)), ?_, w1.putObj (i.blk r) (.mapIter (some (i.blk m)) since (seen.push e.born) ck), ?_, ?_, s1.putObj hb rfl hro ⟨rfl, hmn⟩, Keep.put hro _, rfl⟩
                  · rw [← hn]
                    exact List.mem_map.2 ⟨some e, by rw [← hc]; simp, rfl⟩
                  · simp [setObj_of (P := P) ((hw1 _).trans ho) (fun _ _ _ h => by cases h)]
                  · have hmem : e ∈ es := by
                      have : some e ∈ cands := by rw [← hc]; simp
                      rw [← hcand] at this
                      simp only [Array.mem_append, Array.mem_map, Array.mem_filter] at this
                      rcases this with this | ⟨e', he', h2⟩
                      · split at this <;> simp at this
                      · injection h2 with h2
                        subst h2
                        rcases he' with he' | he' <;> exact he'.1.1
                    have := List.all_eq_true.1 hf.1 e (by simpa using hmem)
                    simp only [Bool.and_eq_true] at this
                    simp only [flat, List.all_cons, List.all_nil, this.1, this.2]
                    rfl
              by_cases hfo : (Question.mapNext cands.size).forced = true
              · obtain ⟨p, hp, w', hrun, rest⟩ := key 0 w hsz s fun _ => rfl
                refine ⟨p, hp, w', ?_, rest⟩
                rw [← hrun]
                simp only [Instr.next, Ren.addr, Sem.run_bind, hg, Result.andThen_ok, Option.map_some, hmap, hf.2, Bool.false_eq_true, if_false, hcand, run_choose, hfo, if_true]
                rfl
              · obtain ⟨p, hp, w', hrun, rest⟩ := key ((Question.mapNext cands.size).cut (w.tape w.drawn (.mapNext cands.size))) w.drew (by simp only [Question.cut]; exact Nat.mod_lt _ hsz) s.drew fun _ => rfl
                refine ⟨p, hp, w', ?_, rest⟩
                rw [← hrun]
                simp only [Instr.next, Ren.addr, Sem.run_bind, hg, Result.andThen_ok, Option.map_some, hmap, hf.2, Bool.false_eq_true, if_false, hcand, run_choose, hfo]
                rfl
            · cases hn
          · cases hn
        · cases hn
      · cases hn
  · cases hn

/-! ### Maps whose order is left open: those of literals that hold functions -/
def ukeyIs (a : Int) (x : Deferred) : Bool := match x.args.toList with
  | [.int .i64 b, _] => a == b
  | _ => false
def uput (x : Deferred) (a : Int) : List Deferred → List Deferred
  | [] => [x]
  | y :: ys => match y.args.toList with
    | [.int .i64 b, _] => match decide (a < b) with
      | true => x :: y :: ys
      | false => y :: uput x a ys
    | _ => x :: y :: ys
theorem uput_mem {x : Deferred} {a : Int} : ∀ {l : List Deferred} {z : Deferred}, z ∈ uput x a l ↔ z = x ∨ z ∈ l
  | [], z => by simp [uput]
  | y :: ys, z => by
    unfold uput
    split
    · split
      · simp
      · simp only [List.mem_cons, uput_mem (l := ys)]
        constructor
        · rintro (h | h | h) <;> simp [h]
        · rintro (h | h | h) <;> simp [h]
    · simp
theorem uput_ne {x : Deferred} {a : Int} (l : List Deferred) : ∃ y ys, uput x a l = y :: ys := by
  cases h : uput x a l with
  | nil =>
    have : x ∈ uput x a l := uput_mem.2 (.inl rfl)
    rw [h] at this
    cases this
  | cons y ys => exact ⟨y, ys, rfl⟩
def insertU (P : Program) (h : AH) (t : TypeId) (m key value : Value) : Option AH :=
  match undT P t, m, key with
  | some (.map k _), .map (some r), .int .i64 a => match undT P k, Nat.ble h.ro r with
    | some (.int .i64), true => match h.obj r with
      | some (.map es _) => match es.toList with
        | [] => some (h.put r (.deferred (some [⟨.nil, #[.int .i64 a, value]⟩])))
        | _ => none
      | some (.deferred (some (d :: ds))) => match (d :: ds).any (ukeyIs a) with
        | true => none
        | false => some (h.put r (.deferred (some (uput ⟨.nil, #[.int .i64 a, value]⟩ a (d :: ds)))))
      | _ => none
    | _, _ => none
  | _, _, _ => none
def lookupU (P : Program) (h : AH) (t : TypeId) (x ix : Value) (ok : Bool) : Option Value :=
  match undT P t, x, ix with
  | some (.map k _), .map (some r), .int .i64 a => match undT P k with
    | some (.int .i64) => match h.obj r with
      | some (.deferred (some (d :: ds))) => match (d :: ds).filter (ukeyIs a) with
        | [y] => match y.args.toList with
          | [_, v] => match ok with
            | true => some (.tuple #[v, .bool true])
            | false => some v
          | _ => none
        | _ => none
      | _ => none
    | _ => none
  | _, _, _ => none

theorem findNow_miss {K : IntKind} {a : Int} : ∀ (l : List MapEntry) (j : Nat), (∀ e ∈ l, ∃ b, e.key = .int .i64 b ∧ b ≠ a) → Instr.findNow (.int K) (.int .i64 a) l j = some none
  | [], _, _ => rfl
  | e :: l, j, h => by
    obtain ⟨b, h1, h2⟩ := h e List.mem_cons_self
    unfold Instr.findNow
    have : Instr.sameNow (.int K) (.int .i64 a) e.key = some false := by rw [h1]; simp [Instr.sameNow, Ne.symm h2]
    rw [this]
    exact findNow_miss l (j + 1) fun e he => h e (List.mem_cons_of_mem _ he)
theorem findNow_hit {K : IntKind} {a : Int} : ∀ (l : List MapEntry) (j : Nat), (∀ e ∈ l, ∃ b, e.key = .int .i64 b) → (∃ e ∈ l, e.key = .int .i64 a) → ∃ (j' : Nat) (e : MapEntry), e ∈ l ∧ e.key = .int .i64 a ∧ Instr.findNow (.int K) (.int .i64 a) l j = some (some (j', e.val))
  | [], _, _, h => by obtain ⟨e, he, _⟩ := h; cases he
  | e :: l, j, h, hx => by
    obtain ⟨b, h1⟩ := h e List.mem_cons_self
    by_cases hb : b = a
    · subst hb
      exact ⟨j, e, List.mem_cons_self, h1, by unfold Instr.findNow; rw [show Instr.sameNow (.int K) (.int .i64 b) e.key = some true by rw [h1]; simp [Instr.sameNow]]⟩
    · obtain ⟨j', e', g1, g2, g3⟩ := findNow_hit (K := K) (a := a) l (j + 1) (fun e he => h e (List.mem_cons_of_mem _ he)) (by
        obtain ⟨e2, he2, hk⟩ := hx
        rcases List.mem_cons.1 he2 with rfl | he2
        · rw [h1] at hk
          simp only [Value.int.injEq, true_and] at hk
          exact absurd hk hb
        · exact ⟨e2, he2, hk⟩)
      refine ⟨j', e', List.mem_cons_of_mem _ g1, g2, ?_⟩
      unfold Instr.findNow
      rw [show Instr.sameNow (.int K) (.int .i64 a) e.key = some false by rw [h1]; simp [Instr.sameNow, Ne.symm hb]]
      exact g3
theorem run_checkKey_int {k : TypeId} {K : IntKind} (hk : P.underlying k = some (.int K)) (b : Bool) (v : Value) (w : World) : (Instr.checkKey b 10000 k v).run P w = .ok () w := by
  show (Instr.checkKey b (9999 + 1) k v).run P w = _
  unfold Instr.checkKey
  simp only [Sem.run_bind, run_underlying hk, Result.andThen_ok]
  rfl
theorem ukeyIs_iff {i : Ren} {n : Nat} {a : Int} {x : Deferred} {e : MapEntry} (h : UE i n x e) : ukeyIs a x = true ↔ e.key = .int .i64 a := by
  obtain ⟨b, v, h1, h2, h3⟩ := h
  unfold ukeyIs
  rw [h1, h2]
  simp only [Value.int.injEq, true_and, beq_iff_eq]
  exact eq_comm

theorem insertU_sound (s : Sat P i h w0 w) {t : TypeId} {m m' key key' value value' : Value} (hm : VRel i h.n m m') (hk : VRel i h.n key key') (hv : VRel i h.n value value') (hu : insertU P h t m key value = some h') :
    ∃ w', (Instr.mapUpdate t m' key' value').run P w = .ok () w' ∧ Sat P i h' w0 w' ∧ Keep h h' ∧ h'.n = h.n := by
  unfold insertU at hu
  simp only [undT_eq] at hu
  split at hu
  · rename_i k el r a hun
    cases hm with
    | one _ hv => simp [flat1] at hv
    | map _ hr =>
      obtain rfl := VRel.eq_of_flat (v := .int .i64 a) rfl hk
      split at hu
      · rename_i hkt hro
        have hro' : h.ro ≤ r := by simpa using hro
        have run : ∀ (fs : Array MapEntry) (ck : Nat), w.heap[i.blk r]? = some (.map fs ck) → Instr.findNow (.int .i64) (.int .i64 a) fs.toList 0 = some none →
            (Instr.mapUpdate t (.map (some (i.blk r))) (.int .i64 a) value').run P w = .ok () (w.putObj (i.blk r) (.map (fs.push { key := .int .i64 a, val := value', born := ck }) (ck + 1))) := fun fs ck hobj hfn => by
          have hset : ∀ o, (setObj (i.blk r) o).run P w = .ok () (w.putObj (i.blk r) o) := fun o => by simp [setObj, Sem.run, hobj, World.putObj]
          simp only [Instr.mapUpdate, Sem.run_bind, run_underlying hun, Result.andThen_ok, getMap hobj, run_checkKey_int hkt, Instr.findKey, run_underlying hkt, hfn, Sem.run_pure]
          exact hset _
        split at hu
        · rename_i es ck hb
          split at hu
          · rename_i hes
            injection hu with hu
            subst hu
            obtain ⟨o', ho, fs, rfl, h1, h2⟩ := s.objs hb rfl
            have hfs : fs = #[] := by
              have : es.size = 0 := by rw [← Array.length_toList, hes]; rfl
              exact Array.size_eq_zero_iff.1 (by omega)
            subst hfs
            refine ⟨_, run _ _ ho rfl, s.putObj hb rfl hro' ⟨_, _, rfl, fun e he => ?_, fun x hx => ?_⟩, Keep.put hro' _, rfl⟩
            · refine ⟨_, List.mem_singleton.2 rfl, a, value, rfl, ?_⟩
              have : e = { key := .int .i64 a, val := value', born := ck } := by simpa using he
              subst this
              exact ⟨rfl, hv⟩
            · obtain rfl := List.mem_singleton.1 hx
              exact ⟨{ key := .int .i64 a, val := value', born := ck }, by simp, a, value, rfl, rfl, hv⟩
          · cases hu
        · rename_i d ds hb
          split at hu
          · cases hu
          · rename_i hany
            injection hu with hu
            subst hu
            obtain ⟨o', ho, fs, ck, rfl, h1, h2⟩ := s.objs hb rfl
            have hmiss : Instr.findNow (.int .i64) (.int .i64 a) fs.toList 0 = some none := findNow_miss _ _ fun e he => by
              obtain ⟨x, hx, hue⟩ := h1 e he
              obtain ⟨b, v, q1, q2, q3⟩ := hue
              refine ⟨b, q2, fun hba => ?_⟩
              subst hba
              have := List.any_eq_false.1 hany x hx
              rw [(ukeyIs_iff ⟨b, v, q1, q2, q3⟩).2 q2] at this
              exact this rfl
            obtain ⟨y, ys, hy⟩ := uput_ne (x := ⟨.nil, #[.int .i64 a, value]⟩) (a := a) (d :: ds)
            refine ⟨_, run _ _ ho hmiss, s.putObj hb rfl hro' ?_, Keep.put hro' _, rfl⟩
            rw [hy]
            refine ⟨_, _, rfl, fun e he => ?_, fun x hx => ?_⟩
            · rw [← hy]
              rw [Array.toList_push, List.mem_append, List.mem_singleton] at he
              rcases he with he | rfl
              · obtain ⟨x, hx, hue⟩ := h1 e he
                exact ⟨x, uput_mem.2 (.inr hx), hue⟩
              · exact ⟨_, uput_mem.2 (.inl rfl), a, value, rfl, rfl, hv⟩
            · rw [← hy] at hx
              rcases uput_mem.1 hx with rfl | hx
              · exact ⟨{ key := .int .i64 a, val := value', born := ck }, by simp, a, value, rfl, rfl, hv⟩
              · obtain ⟨e, he, hue⟩ := h2 x hx
                exact ⟨e, by rw [Array.toList_push]; exact List.mem_append_left _ he, hue⟩
        · cases hu
      · cases hu
  · cases hu

theorem lookupU_sound (s : Sat P i h w0 w) {t : TypeId} {x x' ix ix' : Value} (hx : VRel i h.n x x') (hix : VRel i h.n ix ix') {ok : Bool} {v : Value} (hl : lookupU P h t x ix ok = some v) :
    ∃ v', (Instr.lookup t x' ix' ok).run P w = .ok v' w ∧ VRel i h.n v v' := by
  unfold lookupU at hl
  simp only [undT_eq] at hl
  split at hl
  · rename_i k el r a hun
    cases hx with
    | one _ hv => simp [flat1] at hv
    | map _ hr =>
      obtain rfl := VRel.eq_of_flat (v := .int .i64 a) rfl hix
      split at hl
      · rename_i hkt
        split at hl
        · rename_i d ds hb
          obtain ⟨o', ho, fs, ck, rfl, h1, h2⟩ := s.objs hb rfl
          split at hl
          · rename_i y hy
            have hym : y ∈ (d :: ds).filter (ukeyIs a) := by rw [hy]; exact List.mem_singleton.2 rfl
            obtain ⟨hyd, hyk⟩ := List.mem_filter.1 hym
            obtain ⟨e0, he0, hue0⟩ := h2 y hyd
            obtain ⟨j, e, g1, g2, g3⟩ := findNow_hit (K := .i64) (a := a) fs.toList 0 (fun e he => by obtain ⟨x, hx, b, v, q1, q2, q3⟩ := h1 e he; exact ⟨b, q2⟩) ⟨e0, he0, (ukeyIs_iff hue0).1 hyk⟩
            obtain ⟨z, hz, hue⟩ := h1 e g1
            have hzf : z ∈ (d :: ds).filter (ukeyIs a) := List.mem_filter.2 ⟨hz, (ukeyIs_iff hue).2 g2⟩
            rw [hy, List.mem_singleton] at hzf
            subst hzf
            obtain ⟨b, u, q1, q2, q3⟩ := hue
            rw [q1] at hl
            simp only at hl
            have run : (Instr.lookup t (.map (some (i.blk r))) (.int .i64 a) ok).run P w = .ok (if ok then .tuple #[e.val, .bool true] else e.val) w := by
              simp only [Instr.lookup, Sem.run_bind, run_underlying hun, Result.andThen_ok, getMap ho, run_checkKey_int hkt, Instr.findKey, run_underlying hkt, g3, Sem.run_pure]
            refine ⟨_, run, ?_⟩
            cases ok with
            | true =>
              simp only [Option.some.injEq] at hl
              subst hl
              exact .tuple _ _ rfl fun j hj => by
                match j, hj with
                | 0, _ => exact q3
                | 1, _ => exact .one _ rfl
            | false =>
              simp only [Option.some.injEq] at hl
              subst hl
              exact q3
          · cases hl
        · cases hl
      · cases hl
  · cases hl

end Go.Proofs.Ev
