/-
  AN EVALUATOR OF CLOSED CALLS, PART 6: copy, append, bytes and strings. It holds for every program; no statement is proved here.
-/
import Derived.Test.YtpjeaajjlkgekaaDoorEv5
noncomputable section
namespace Go.Proofs.Ev
set_option linter.unusedSimpArgs false
open Go.RowKit
set_option linter.unusedVariables false

variable {P : Program} {i : Ren} {h h' : AH} {w0 w : World}

/-! ### What is read of a slice or a string -/
def lenA : Value → Option Nat
  | .slice _ n _ => some n
  | .string s => some s.size
  | _ => none

def firstA (h : AH) (size n : Nat) : Value → Option (Array Value)
  | .slice (some a) _ _ => readA h a (n * size)
  | .slice none _ _ => some #[]
  | .string s => some ((s.extract 0 n).data.map fun b => .int .u8 b.toNat)
  | _ => none

theorem lenA_sound {n k : Nat} {x x' : Value} (hx : VRel i n x x') (hl : lenA x = some k) (w : World) : (Builtin.lenOf x').run P w = .ok k w := by
  cases hx with
  | one _ hv => cases x <;> simp [lenA] at hl <;> subst hl <;> rfl
  | slice a l c ha => simp [lenA] at hl; subst hl; rfl
  | _ => simp [lenA] at hl

theorem firstA_sound (s : Sat P i h w0 w) {size n : Nat} {x x' : Value} (hx : VRel i h.n x x') {cs : Array Value} (hf : firstA h size n x = some cs) : ∃ ds, (Builtin.firstCells size n x').run P w = .ok ds w ∧ ARel i h.n cs ds := by
  cases hx with
  | one _ hv =>
    cases x with
    | string q =>
      simp only [firstA, Option.some.injEq] at hf
      subst hf
      exact ⟨_, rfl, ARel.refl_of _ fun v hv => by
        simp only [Array.mem_map] at hv
        obtain ⟨b, _, rfl⟩ := hv
        exact .one _ rfl⟩
    | slice a l c =>
      cases a with
      | some a => simp [flat1] at hv
      | none =>
        simp only [firstA, Option.some.injEq] at hf
        subst hf
        exact ⟨_, rfl, ARel.refl_of _ fun v hv => by simp at hv⟩
    | _ => simp [firstA] at hf
  | slice a l c ha => exact readA_arel s hf
  | _ => simp [firstA] at hf

/-! ### copy -/
def copyA (P : Program) (h : AH) (t : TypeId) (dst src : Value) : Option (Value × AH) :=
  match undT P t, dst, lenA src with
  | some (.slice e), .slice base dl _, some sl => match sizeB P e with
    | some size => match firstA h size (Nat.min sl dl) src with
      | some cs => match base with
        | some a => if a.spot.isNone then (stA h a.block cs.toList a.off).map fun h' => (goInt (Nat.min sl dl), h') else none
        | none => some (goInt (Nat.min sl dl), h)
      | none => none
    | none => none
  | _, _, _ => none

theorem copyA_sound (s : Sat P i h w0 w) {ts : Array TypeId} {t : TypeId} (ht : ts[0]? = some t) {dst dst' src src' : Value} (hd : VRel i h.n dst dst') (hs : VRel i h.n src src') {v : Value} (hc : copyA P h t dst src = some (v, h')) (ty : TypeId) :
    ∃ w', (Builtin.copy_ ts ty #[dst', src']).run P w = .ok v w' ∧ flat v = true ∧ Sat P i h' w0 w' ∧ Keep h h' ∧ h'.n = h.n := by
  unfold copyA at hc
  simp only [undT_eq, infoT_eq, funcT_eq] at hc
  split at hc
  · rename_i e base dl c sl hu hlen
    split at hc
    · rename_i size hsz
      split at hc
      · rename_i cs hf
        obtain ⟨ds, hrun, hrel⟩ := firstA_sound s hs hf
        split at hc
        · rename_i a
          split at hc
          · rename_i hsp
            cases hst : stA h a.block cs.toList a.off with
            | none => simp [hst] at hc
            | some h1 =>
              simp only [hst, Option.map_some, Option.some.injEq, Prod.mk.injEq] at hc
              obtain ⟨rfl, rfl⟩ := hc
              obtain ⟨w', h2, h3, h4, h5⟩ := stA_sound (by simpa using hsp) cs.toList ds.toList 0 h h1 w s hrel.list (by simpa using hst)
              refine ⟨w', ?_, rfl, h3, h4, h5⟩
              cases hd with
              | one _ hv => simp [flat1] at hv
              | slice _ _ _ ha =>
                simp [Builtin.copy_, ht, run_underlying hu, lenA_sound hs hlen w, run_sizeB hsz, hrun, h2]
          · cases hc
        · injection hc with hc
          obtain ⟨rfl, rfl⟩ := Prod.mk.inj hc
          refine ⟨w, ?_, rfl, s, Keep.refl h, rfl⟩
          cases hd with
          | one _ hv => simp [Builtin.copy_, ht, run_underlying hu, lenA_sound hs hlen w, run_sizeB hsz, hrun]
      · cases hc
    · cases hc
  · cases hc

/-! ### append -/
/-- Values written one behind the other. -/
def wr (ds : Array Value) (j : Nat) : List Value → Array Value
  | [] => ds
  | v :: vs => wr (ds.setIfInBounds j v) (j + 1) vs

theorem wr_size : ∀ (vs : List Value) (ds : Array Value) (j : Nat), (wr ds j vs).size = ds.size
  | [], _, _ => rfl
  | v :: vs, ds, j => by simp [wr, wr_size vs]

theorem wr_get : ∀ (vs : List Value) (ds : Array Value) (j k : Nat), j + vs.length ≤ ds.size → (wr ds j vs).getD k undef = if k < j then ds.getD k undef else if k < j + vs.length then vs.getD (k - j) undef else ds.getD k undef
  | [], ds, j, k, _ => by
    simp only [wr, List.length_nil, Nat.add_zero]
    by_cases h1 : k < j
    · rw [if_pos h1]
    · rw [if_neg h1, if_neg h1]
  | v :: vs, ds, j, k, hl => by
    simp only [List.length_cons] at hl
    rw [wr, wr_get vs _ _ _ (by simp; omega)]
    by_cases h1 : k < j
    · rw [if_pos (by omega), if_pos h1]
      simp [Array.getElem?_setIfInBounds_ne (by omega : j ≠ k)]
    · rw [if_neg h1]
      by_cases h2 : k = j
      · subst h2
        have : k < ds.size := by omega
        simp [this]
      · rw [if_neg (by omega)]
        simp only [List.length_cons]
        by_cases h3 : k < j + 1 + vs.length
        · rw [if_pos h3, if_pos (by omega)]
          obtain ⟨m, rfl⟩ : ∃ m, k = j + 1 + m := ⟨k - (j + 1), by omega⟩
          rw [show j + 1 + m - (j + 1) = m by omega, show j + 1 + m - j = m + 1 by omega]
          simp
        · rw [if_neg h3, if_neg (by omega)]
          simp [Array.getElem?_setIfInBounds_ne (Ne.symm h2)]

theorem run_storeCells_wr (g : Nat) (e : TypeId) (fr : Nat × Nat) (a : Addr) (hab : a.block = g) (ha : a.spot = none) : ∀ (vs : List Value) (k : Nat) (ds : Array Value) (w : World), w.heap[g]? = some (.cells ds e fr) →
    a.off + k + vs.length ≤ ds.size → (∀ j, j < ds.size → ¬ (fr.1 ≤ j ∧ j < fr.2)) → (∀ v ∈ vs, v.oneCell' = true) →
    (storeCells a vs k).run P w = .ok () (w.putObj g (.cells (wr ds (a.off + k) vs) e fr))
  | [], k, ds, w, hg, _, _, _ => by
    have hh : w.heap.setIfInBounds g (.cells ds e fr) = w.heap := by
      apply Array.ext_getElem?
      intro j
      by_cases hj : g = j
      · subst hj
        exact (World.putObj_heap_same (w := w) (Array.getElem?_eq_some_iff.1 hg).1).trans hg.symm
      · exact World.putObj_heap_other (w := w) (Ne.symm hj)
    have : w.putObj g (.cells ds e fr) = w := by simp only [World.putObj, hh]
    simp [storeCells, wr, this]
  | v :: vs, k, ds, w, hg, hl, hfr, hv => by
    simp only [List.length_cons] at hl
    have hadd : a.add k = ⟨g, a.off + k, none⟩ := by
      obtain ⟨b, o, sp⟩ := a
      simp only at ha hab
      subst ha hab
      by_cases hk : k = 0 <;> simp [Addr.add, hk]
    have hlt : a.off + k < ds.size := by omega
    have hcell : w.cell? ⟨g, a.off + k, none⟩ = some ds[a.off + k] := by simp [World.cell?, hg, hlt]
    have hfz : w.frozen? ⟨g, a.off + k, none⟩ = false := by
      have := hfr _ hlt
      simp only [World.frozen?, hg, Bool.and_eq_false_iff, decide_eq_false_iff_not]
      omega
    have hset : w.setCell ⟨g, a.off + k, none⟩ v = w.putObj g (.cells (ds.setIfInBounds (a.off + k) v) e fr) := by
      have hgl : g < w.heap.size := (Array.getElem?_eq_some_iff.1 hg).1
      have hh : (w.setCell ⟨g, a.off + k, none⟩ v).heap = w.heap.setIfInBounds g (.cells (ds.setIfInBounds (a.off + k) v) e fr) := by
        apply Array.ext_getElem?
        intro j
        by_cases hj : g = j
        · subst hj
          refine Eq.trans ?_ (World.putObj_heap_same (w := w) hgl).symm
          simp [World.setCell, Array.getElem?_modify, hg]
        · exact (Below.heap_setCell w ⟨g, a.off + k, none⟩ v j (Ne.symm hj)).trans (World.putObj_heap_other (w := w) (Ne.symm hj)).symm
      show ({ w with heap := (w.setCell ⟨g, a.off + k, none⟩ v).heap } : World) = _
      rw [hh]
      rfl
    have ih := run_storeCells_wr g e fr a hab ha vs (k + 1) (ds.setIfInBounds (a.off + k) v) (w.putObj g (.cells (ds.setIfInBounds (a.off + k) v) e fr))
      (World.putObj_heap_same (Array.getElem?_eq_some_iff.1 hg).1) (by simp; omega) (by simpa using hfr) (fun u hu => hv u (by simp [hu]))
    simp only [storeCells, Sem.run_bind, hadd]
    rw [run_store P w _ v .plain (hv v (by simp)), hcell]
    simp only [hfz, Bool.false_eq_true, if_false, Result.andThen_ok, hset, ih]
    simp [World.putObj, wr, Nat.add_assoc]

/-- A block gets another number; the old one is empty. -/
theorem Sat.move (s : Sat P i h w0 w) {b : Nat} {o : Obj} (hb : h.obj b = some o) (hs : solid o = true) (hro : h.ro ≤ b) (e : TypeId) (fr : Nat × Nat) :
    Sat P (i.with h.n (i.blk b) (i.grow b)) ((h.put b (.cells #[] e fr)).push o) w0 w ∧ Keep h ((h.put b (.cells #[] e fr)).push o) := by
  have hle := i.with_le h.n (i.blk b) (i.grow b)
  obtain ⟨hbn, hb2, hb3, hb4⟩ := s.obj b o hb
  have look : ∀ c q, ((h.put b (.cells #[] e fr)).push o).obj c = some q → solid q = true → (c = h.n ∧ q = o) ∨ (c < h.n ∧ c ≠ b ∧ h.obj c = some q) := by
    intro c q hc hq
    rw [AH.obj_push, AH.obj_put] at hc
    by_cases e1 : c = (h.put b (.cells #[] e fr)).n
    · rw [if_pos e1] at hc
      injection hc with hc
      exact .inl ⟨e1, hc.symm⟩
    · rw [if_neg e1] at hc
      by_cases e2 : c = b
      · rw [if_pos e2] at hc
        injection hc with hc
        subst hc
        simp [solid] at hq
      · rw [if_neg e2] at hc
        exact .inr ⟨(s.obj c q hc).1, e2, hc⟩
  refine ⟨⟨s.below, by have := s.ro; simp [AH.push, AH.put]; omega, fun c q hc => ?_, fun c d q q' hc hd hq hq' he => ?_, s.glr, fun b hb => by rw [hle.blk b (by have := s.glr; have := s.ro; omega)]; exact s.idn b hb⟩, (Keep.put hro _).trans (Keep.push (h := h.put b _) s.ro _)⟩
  · have hc0 := hc
    rw [AH.obj_push, AH.obj_put] at hc
    by_cases e1 : c = (h.put b (.cells #[] e fr)).n
    · rw [if_pos e1] at hc
      injection hc with hc
      subst hc
      have e1 : c = h.n := e1
      subst e1
      refine ⟨by simp [AH.push, AH.put], fun _ => by simpa using hb2 (Nat.le_trans s.glr hro), by simpa using hb3, fun _ => ?_⟩
      obtain ⟨o', ho, hr⟩ := hb4 hs
      refine ⟨o', by simpa using ho, ?_⟩
      have hr' := hr.mono hle (Nat.le_succ h.n) hbn
      cases o with
      | cells cs e1 fr1 =>
        obtain ⟨ds, fr', rfl, a1, a2, a3, a4⟩ := hr'
        exact ⟨ds, fr', rfl, a1, a2, a3, fun hf => by have := a4 hf; rw [hle.grow b hbn] at this; simpa using this⟩
      | map es ck => exact hr'
      | stringIter q p => exact hr'
      | mapIter r since seen st => exact hr'
      | loop l => exact hr'
      | deferred c =>
        rcases c with _ | ⟨_ | ⟨d, ds⟩⟩
        · exact hr'
        · exact hr'
        · exact hr'
      | _ => exact hr'.elim
    · rw [if_neg e1] at hc
      by_cases e2 : c = b
      · rw [if_pos e2] at hc
        injection hc with hc
        subst hc e2
        refine ⟨by simp [AH.push, AH.put]; omega, by rw [hle.blk c hbn]; exact hb2, by rw [hle.blk c hbn]; exact hb3, fun hq => by simp [solid] at hq⟩
      · rw [if_neg e2] at hc
        obtain ⟨h1, h2, h3, h4⟩ := s.obj c q hc
        rw [hle.blk c h1]
        refine ⟨by simp [AH.push, AH.put]; omega, h2, h3, fun hq => ?_⟩
        obtain ⟨o', ho, hr⟩ := h4 hq
        exact ⟨o', ho, hr.mono hle (Nat.le_succ h.n) h1⟩
  · rcases look c q hc hq with ⟨rfl, rfl⟩ | ⟨c1, c2, c3⟩ <;> rcases look d q' hd hq' with ⟨rfl, rfl⟩ | ⟨d1, d2, d3⟩
    · rfl
    · rw [Ren.with_blk, hle.blk d d1] at he
      exact absurd (s.inj b d _ _ hb d3 hs hq' he).symm d2
    · rw [Ren.with_blk, hle.blk c c1] at he
      exact absurd (s.inj c b _ _ c3 hb hq hs he) c2
    · rw [hle.blk c c1, hle.blk d d1] at he
      exact s.inj c d _ _ c3 d3 hq hq' he

theorem growBy_le (newLen : Nat) : ∀ (r c M : Nat), c ≤ M → Builtin.growBy newLen r c ≤ 2 ^ r * (M + 192)
  | 0, c, M, hc => by simp [Builtin.growBy]; omega
  | r + 1, c, M, hc => by
    simp only [Builtin.growBy]
    have hp : 1 ≤ 2 ^ (r + 1) := Nat.one_le_two_pow
    split
    · have : 1 * (M + 192) ≤ 2 ^ (r + 1) * (M + 192) := Nat.mul_le_mul_right _ hp
      omega
    · refine Nat.le_trans (growBy_le newLen r _ (2 * M + 192) (by omega)) ?_
      have e : 2 ^ (r + 1) * (M + 192) = 2 ^ r * (2 * (M + 192)) := by rw [Nat.pow_succ, Nat.mul_assoc]
      rw [e]
      exact Nat.mul_le_mul_left _ (by omega)

theorem nextslicecap_le {need cap M : Nat} (h1 : need ≤ M) (h2 : cap ≤ M) : Builtin.nextslicecap need cap ≤ 16 * (M + 192) := by
  unfold Builtin.nextslicecap
  split
  · omega
  · split
    · omega
    · exact growBy_le need 4 cap M h2

/-- The new row, when there is no room. -/
theorem run_grow {t ty e : TypeId} {ts : Array TypeId} (ht : ts[0]? = some t) {t1 : TypeId} (ht1 : ts[1]? = some t1) (hd1 : (∃ e1, P.underlying t1 = some (.slice e1)) ∨ P.underlying t1 = some .string)
    (hu : P.underlying t = some (.slice e)) {size : Nat} (hs : sizeB P e = some size) {z : Array Value} (hz : zeroB P e = some z) (hzs : z.size = size) {ti : TypeInfo} (hi : P.info? e = some ti) (hby : ti.bytes ≤ 65536)
    {base : Option Addr} {l c n : Nat} {x : Value} (hlen : (Builtin.lenOf x).run P w = .ok n w) (hneed : l + n ≤ 65536) (hroom : c < l + n)
    {old new : Array Value} (hold : (Builtin.firstCells size l (.slice base l c)).run P w.drew = .ok old w.drew) (hnew : (Builtin.firstCells size n x).run P w.drew = .ok new w.drew) (ho : old.size = l * size) (hn : new.size = n * size) :
    ∃ cap rest, (Builtin.append_ ts ty #[.slice base l c, x]).run P w = .ok (.slice (some ⟨w.heap.size, 0, none⟩) (l + n) cap) (w.drew.alloc (.cells (old ++ new ++ rest) e)) ∧ (old ++ new ++ rest).size = cap * size ∧ l + n ≤ cap := by
  obtain ⟨zv, hzr, hzc, _⟩ := run_zeroB hz w.drew
  have hcut : (Question.appendCap (l + n) c e).cut (w.tape w.drawn (.appendCap (l + n) c e)) = l + n + w.tape w.drawn (.appendCap (l + n) c e) % (2 ^ 63 - (l + n)) := rfl
  generalize hcap : l + n + w.tape w.drawn (.appendCap (l + n) c e) % (2 ^ 63 - (l + n)) = cap at hcut
  refine ⟨cap, Builtin.zeroCells zv.cells (cap - (l + n)), ?_, ?_, by omega⟩
  · have hnc := nextslicecap_le (need := l + n) (cap := c) (M := 65536) hneed (by omega)
    have hbig : ¬ Builtin.nextslicecap (l + n) c * ti.bytes > 2 ^ 48 := by
      have : Builtin.nextslicecap (l + n) c * ti.bytes ≤ (16 * (65536 + 192)) * 65536 := Nat.mul_le_mul hnc hby
      have e48 : (2 : Nat) ^ 48 = 281474976710656 := by decide
      omega
    have hmax : ¬ ((l + n : Int) > IntKind.i64.max) := by
      have : IntKind.i64.max = 9223372036854775807 := by decide
      rw [this]; omega
    have hmax2 : ¬ (((l + n : Nat) : Int) > IntKind.i64.max) := by push_cast; exact hmax
    rcases hd1 with ⟨e1, hd1⟩ | hd1 <;> simp [Builtin.append_, ht, ht1, run_underlying hu, run_underlying hd1, run_sizeB hs, hlen, run_typeInfo w hi, hroom, Nat.not_le.2 hroom, hbig, hmax, Question.forced, hcut, hold, hnew, hzr, run_typeInfo w.drew hi, newRow] <;> (intro hb2; omega)
  · simp only [Array.size_append, ho, hn, Builtin.zeroCells, Array.size_map, Array.size_range, hzc, hzs]
    have : cap = l + n + (cap - (l + n)) := by omega
    conv => rhs; rw [this]
    rw [Nat.add_mul, Nat.add_mul]

/-- What an append needs to know of its types. -/
def rowTypes (P : Program) (t t1 : TypeId) : Option (TypeId × Nat) :=
  match undT P t, undT P t1 with
  | some (.slice e), some (.slice _) | some (.slice e), some .string => match sizeB P e, zeroB P e, infoT P e with
    | some size, some z, some ti => if z.size = size ∧ size ≠ 0 ∧ ti.bytes ≤ 65536 then some (e, size) else none
    | _, _, _ => none
  | _, _ => none

theorem rowTypes_spec {t t1 e : TypeId} {size : Nat} (hr : rowTypes P t t1 = some (e, size)) : P.underlying t = some (.slice e) ∧ ((∃ e1, P.underlying t1 = some (.slice e1)) ∨ P.underlying t1 = some .string) ∧ sizeB P e = some size ∧
    ∃ z ti, zeroB P e = some z ∧ P.info? e = some ti ∧ z.size = size ∧ size ≠ 0 ∧ ti.bytes ≤ 65536 := by
  unfold rowTypes at hr
  simp only [undT_eq, infoT_eq, funcT_eq] at hr
  split at hr
  · rename_i e' e1 hu hu1
    split at hr
    · rename_i size' z ti hs hz hi
      split at hr
      · rename_i hc
        injection hr with hr
        obtain ⟨rfl, rfl⟩ := Prod.mk.inj hr
        exact ⟨hu, .inl ⟨_, hu1⟩, hs, z, ti, hz, hi, hc⟩
      · cases hr
    · cases hr
  · rename_i e' hu hu1
    split at hr
    · rename_i size' z ti hs hz hi
      split at hr
      · rename_i hc
        injection hr with hr
        obtain ⟨rfl, rfl⟩ := Prod.mk.inj hr
        exact ⟨hu, .inr hu1, hs, z, ti, hz, hi, hc⟩
      · cases hr
    · cases hr
  · cases hr

def appendA (P : Program) (h : AH) (t t1 : TypeId) (s x : Value) : Option (Value × AH) :=
  match rowTypes P t t1, lenA x with
  | some (e, size), some n => match firstA h size n x with
    | some xs => if xs.size = n * size ∧ xs.toList.all Value.oneCell' = true then match s with
      | .slice none 0 0 => if n = 0 then some (.slice none 0 0, h) else if n ≤ 65536 then some (.slice (some ⟨h.n, 0, none⟩) n top, h.push (.cells xs e (1, 0))) else none
      | .slice (some a) l c =>
        if c < big then
          if l + n ≤ c then
            if a.spot.isNone then (stA h a.block xs.toList (a.off + l * size)).map fun h' => (.slice (some a) (l + n) c, h') else none
          else match readA h a (l * size) with
            | some old => if l + n ≤ 65536 then some (.slice (some ⟨h.n, 0, none⟩) (l + n) top, h.push (.cells (old ++ xs) e (1, 0))) else none
            | none => none
        else if c = top ∧ a.off = 0 ∧ a.spot = none ∧ h.ro ≤ a.block ∧ l + n ≤ 65536 ∧ l ≠ 0 then
          match h.obj a.block with
          | some (.cells cs e' (1, 0)) => if e' = e ∧ cs.size = l * size then
              if n = 0 then some (.slice (some a) l c, h) else some (.slice (some ⟨h.n, 0, none⟩) (l + n) top, (h.put a.block (.cells #[] e (1, 0))).push (.cells (cs ++ xs) e (1, 0)))
            else none
          | _ => none
        else none
      | _ => none
      else none
    | none => none
  | _, _ => none

theorem Ren.cap_top (i : Ren) (b : Nat) : i.cap b top = i.grow b := by
  unfold Ren.cap
  rw [if_pos (by unfold big top; omega)]
  omega

/-- A row that has grown: in the model it may be longer. -/
theorem grown_sat (s : Sat P i h w0 w) {e : TypeId} {size cap n : Nat} (hs : sizeB P e = some size) {cs ds rest : Array Value} (hc : ARel i h.n cs ds) (hsz : (ds ++ rest).size = cap * size) :
    Sat P (i.with h.n w.heap.size cap) (h.push (.cells cs e (1, 0))) w0 (w.alloc (.cells (ds ++ rest) e)) ∧ VRel (i.with h.n w.heap.size cap) (h.n + 1) (.slice (some ⟨h.n, 0, none⟩) n top) (.slice (some ⟨w.heap.size, 0, none⟩) n cap) := by
  constructor
  · refine s.alloc cap fun _ => ⟨ds ++ rest, (0, 0), rfl, by have := hc.1; simp; omega, fun j hj => ?_, Or.inl rfl, fun _ => by simpa [sizeB_cells hs] using hsz⟩
    have hlt : j < ds.size := by have := hc.1; omega
    have e1 : (ds ++ rest).getD j undef = ds.getD j undef := by simp [Array.getD_eq_getD_getElem?, Array.getElem?_append_left hlt]
    rw [e1]
    exact (hc.2 j).mono (i.with_le _ _ _) (Nat.le_succ _)
  · have := VRel.slice (i := i.with h.n w.heap.size cap) (n := h.n + 1) ⟨h.n, 0, none⟩ n top (by simp)
    simpa [Ren.addr, Ren.cap_top] using this

theorem LV.one {n : Nat} : ∀ {xs ys : List Value}, LV i n xs ys → (∀ v ∈ xs, v.oneCell' = true) → ∀ v ∈ ys, v.oneCell' = true
  | [], [], _, _ => fun v hv => by simp at hv
  | x :: xs, y :: ys, hl, ho => fun v hv => by
    simp only [List.mem_cons] at hv
    rcases hv with rfl | hv
    · exact hl.1.oneCell (ho x (by simp))
    · exact LV.one hl.2 (fun u hu => ho u (by simp [hu])) v hv
  | [], _ :: _, hl, _ => hl.elim
  | _ :: _, [], hl, _ => hl.elim

theorem Sat.congr (s : Sat P i h w0 w) (ho : ∀ b, h'.obj b = h.obj b) (hn : h'.n = h.n) (hr : h'.ro = h.ro) : Sat P i h' w0 w :=
  ⟨s.below, by rw [hr, hn]; exact s.ro, fun b o hb => by rw [hn]; exact s.obj b o ((ho b).symm.trans hb), fun b c o o' hb hc => s.inj b c o o' ((ho b).symm.trans hb) ((ho c).symm.trans hc), by rw [hr]; exact s.glr, s.idn⟩

theorem kill_sat (s : Sat P i h w0 w) {b : Nat} {o : Obj} (hb : h.obj b = some o) (hs : solid o = true) (e : TypeId) (fr : Nat × Nat) : Sat P i (h.put b (.cells #[] e fr)) w0 w :=
  s.put hb hs (Below.refl _ _) rfl (fun _ _ => rfl) fun hq => by simp [solid] at hq

theorem run_append_room {t ty e : TypeId} {ts : Array TypeId} (ht : ts[0]? = some t) {t1 : TypeId} (ht1 : ts[1]? = some t1) (hd1 : (∃ e1, P.underlying t1 = some (.slice e1)) ∨ P.underlying t1 = some .string)
    (hu : P.underlying t = some (.slice e)) {size : Nat} (hs : sizeB P e = some size) {a : Addr} {l c n : Nat} {x : Value} (hlen : (Builtin.lenOf x).run P w = .ok n w) (hroom : l + n ≤ c)
    {new : Array Value} (hnew : (Builtin.firstCells size n x).run P w = .ok new w) {w' : World} (hst : (storeCells (a.add (l * size)) new.toList).run P w = .ok () w') :
    (Builtin.append_ ts ty #[.slice (some a) l c, x]).run P w = .ok (.slice (some a) (l + n) c) w' := by
  rcases hd1 with ⟨e1, hd1⟩ | hd1 <;> simp [Builtin.append_, ht, ht1, run_underlying hu, run_underlying hd1, run_sizeB hs, hlen, hroom, hnew, hst]

theorem appendA_sound (s : Sat P i h w0 w) {ts : Array TypeId} {t t1 : TypeId} (ht : ts[0]? = some t) (ht1 : ts[1]? = some t1) {sl sl' x x' : Value} (hsl : VRel i h.n sl sl') (hx : VRel i h.n x x') {v : Value}
    (ha : appendA P h t t1 sl x = some (v, h')) (ty : TypeId) :
    ∃ i' v' w', (Builtin.append_ ts ty #[sl', x']).run P w = .ok v' w' ∧ i.le i' h.n ∧ VRel i' h'.n v v' ∧ Sat P i' h' w0 w' ∧ Keep h h' := by
  unfold appendA at ha
  split at ha
  · rename_i e size n hrt hlen
    obtain ⟨hu, hd1, hs, z, ti, hz, hi, hzs, hs0, hby⟩ := rowTypes_spec hrt
    split at ha
    · rename_i xs hf
      split at ha
      · rename_i hxc
        obtain ⟨hxn0, hone⟩ := hxc
        have hlr := lenA_sound hx hlen (P := P)
        obtain ⟨ys, hyr, hrel⟩ := firstA_sound s hx hf
        obtain ⟨ys2, hyr2, hrel2⟩ := firstA_sound s.drew hx hf
        have hys : ys2 = ys := ext_getD (by have := hrel.1; have := hrel2.1; omega) fun j _ => (hrel.2 j).unique _ (hrel2.2 j)
        subst hys
        have hxn : ys2.size = n * size := by rw [← hrel.1]; exact hxn0
        have hone2 : ∀ v ∈ ys2.toList, v.oneCell' = true := LV.one hrel.list fun v hv => List.all_eq_true.1 hone v hv
        have hws : w.drew.heap.size = w.heap.size := rfl
        split at ha
        · -- an empty slice
          cases hsl with
          | one _ _ =>
            split at ha
            · rename_i hn0
              injection ha with ha
              obtain ⟨rfl, rfl⟩ := Prod.mk.inj ha
              subst hn0
              refine ⟨i, _, w, ?_, Ren.le.refl _ _, .one _ rfl, s, Keep.refl h⟩
              rcases hd1 with ⟨e1, hd1⟩ | hd1 <;> simp [Builtin.append_, ht, ht1, run_underlying hu, run_underlying hd1, run_sizeB hs, hlr w, hyr]
            · split at ha
              · rename_i hn0 hnb
                injection ha with ha
                obtain ⟨rfl, rfl⟩ := Prod.mk.inj ha
                obtain ⟨cap, rest, hrun, hsz, hcap⟩ := run_grow (w := w) (ty := ty) (base := none) (l := 0) (c := 0) ht ht1 hd1 hu hs hz hzs hi hby (hlr w) (by omega) (by omega) (old := #[]) (new := ys2) (by simp [Builtin.firstCells]) hyr2 (by simp) hxn
                obtain ⟨h1, h2⟩ := grown_sat (n := n) (rest := rest) s.drew hs (cs := xs) (ds := ys2) hrel (by simpa using hsz)
                refine ⟨i.with h.n w.heap.size cap, .slice (some ⟨w.heap.size, 0, none⟩) n cap, w.drew.alloc (.cells (ys2 ++ rest) e), by simpa using hrun, i.with_le _ _ _, h2, h1, Keep.push s.ro _⟩
              · cases ha
        · rename_i a l c
          cases hsl with
          | one _ hv => simp [flat1] at hv
          | slice _ _ _ hab =>
            split at ha
            · -- a capacity that is known
              rename_i hcb
              rw [Ren.cap_small _ _ _ hcb]
              split at ha
              · rename_i hroom
                split at ha
                · rename_i hsp
                  cases hst : stA h a.block xs.toList (a.off + l * size) with
                  | none => simp [hst] at ha
                  | some h1 =>
                    simp only [hst, Option.map_some, Option.some.injEq, Prod.mk.injEq] at ha
                    obtain ⟨rfl, rfl⟩ := ha
                    have hsp' : a.spot = none := by simpa using hsp
                    have hadd : (a.add (l * size)).block = a.block ∧ (a.add (l * size)).off = a.off + l * size ∧ (a.add (l * size)).spot = none := by
                      unfold Addr.add
                      by_cases h0 : l * size = 0 <;> simp [h0, hsp']
                    obtain ⟨w', g1, g2, g3, g4⟩ := stA_sound hadd.2.2 xs.toList ys2.toList 0 h h1 w s hrel.list (by rw [hadd.1, hadd.2.1]; simpa using hst)
                    rw [Ren.addr_add] at g1
                    refine ⟨i, .slice (some (i.addr a)) (l + n) c, w', run_append_room ht ht1 hd1 hu hs (hlr w) hroom hyr g1, Ren.le.refl _ _, ?_, g2, g3⟩
                    have := VRel.slice (i := i) (n := h1.n) a (l + n) c (by rw [g4]; exact hab)
                    rwa [Ren.cap_small _ _ _ hcb] at this
                · cases ha
              · rename_i hroom
                split at ha
                · rename_i old hold
                  split at ha
                  · rename_i hnb
                    injection ha with ha
                    obtain ⟨rfl, rfl⟩ := Prod.mk.inj ha
                    obtain ⟨old2, g1, g2⟩ := readA_arel s.drew hold
                    have hosz : old2.size = l * size := by rw [← g2.1]; exact (readA_sound s hold).2.1
                    obtain ⟨cap, rest, hrun, hsz, hcap⟩ := run_grow (w := w) (ty := ty) (base := some (i.addr a)) (l := l) (c := c) ht ht1 hd1 hu hs hz hzs hi hby (hlr w) (by omega) (by omega) (old := old2) (new := ys2) (by simpa [Builtin.firstCells] using g1) hyr2 hosz hxn
                    obtain ⟨h1, h2⟩ := grown_sat (n := l + n) (rest := rest) s.drew hs (cs := old ++ xs) (ds := old2 ++ ys2) (g2.append hrel) hsz
                    exact ⟨i.with h.n w.heap.size cap, .slice (some ⟨w.heap.size, 0, none⟩) (l + n) cap, w.drew.alloc (.cells (old2 ++ ys2 ++ rest) e), hrun, i.with_le _ _ _, h2, h1, Keep.push s.ro _⟩
                  · cases ha
                · cases ha
            · split at ha
              · rename_i hcond
                obtain ⟨rfl, hoff, hspot, hro, hnb, hl0⟩ := hcond
                rw [Ren.cap_top]
                split at ha
                · rename_i cs e' hb
                  split at ha
                  · rename_i hce
                    obtain ⟨rfl, hcsz⟩ := hce
                    have hsol : solid (.cells cs e' (1, 0)) = true := by
                      have : 0 < l * size := Nat.mul_pos (by omega) (by omega)
                      simp only [solid, bne_iff_ne]; omega
                    obtain ⟨o', ho, ds, fr', rfl, a1, a2, a3, a4⟩ := s.objs hb hsol
                    have hdsz : ds.size = i.grow a.block * size := by rw [← sizeB_cells hs]; exact a4 rfl
                    have hlg : l ≤ i.grow a.block := by
                      have : l * size ≤ i.grow a.block * size := by omega
                      exact Nat.le_of_mul_le_mul_right this (by omega)
                    have hblk : (i.addr a).block = i.blk a.block := rfl
                    have hsp2 : (i.addr a).spot = none := hspot
                    split at ha
                    · rename_i hn0
                      injection ha with ha
                      obtain ⟨rfl, rfl⟩ := Prod.mk.inj ha
                      subst hn0
                      have hnil : ys2.toList = [] := by
                        have : ys2.size = 0 := by simpa using hxn
                        simpa using this
                      refine ⟨i, .slice (some (i.addr a)) (l + 0) (i.grow a.block), w, run_append_room ht ht1 hd1 hu hs (hlr w) (by omega) hyr (by rw [hnil]; rfl), Ren.le.refl _ _, ?_, s, Keep.refl h⟩
                      have := VRel.slice (i := i) (n := h.n) a l top hab
                      rwa [Ren.cap_top] at this
                    · rename_i hn0
                      injection ha with ha
                      obtain ⟨rfl, rfl⟩ := Prod.mk.inj ha
                      have hrel12 : ∀ (fs : Array Value), cs.size ≤ fs.size → True := fun _ _ => trivial
                      by_cases hroom : l + n ≤ i.grow a.block
                      · -- there is room in the model
                        have hle2 : (l + n) * size ≤ ds.size := by rw [hdsz]; exact Nat.mul_le_mul_right _ hroom
                        rw [Nat.add_mul] at hle2
                        have hadd : ((i.addr a).add (l * size)).block = i.blk a.block ∧ ((i.addr a).add (l * size)).off = l * size ∧ ((i.addr a).add (l * size)).spot = none := by
                          unfold Addr.add
                          by_cases h0 : l * size = 0 <;> simp [h0, hsp2, hblk, Ren.addr, hoff, hspot]
                        have hst := run_storeCells_wr (P := P) (i.blk a.block) e' fr' ((i.addr a).add (l * size)) hadd.1 hadd.2.2 ys2.toList 0 ds w ho (by rw [hadd.2.1]; simp; omega) a3.no hone2
                        rw [hadd.2.1, Nat.add_zero] at hst
                        have s1 : Sat P i (h.put a.block (.cells (cs ++ xs) e' (1, 0))) w0 (w.putObj (i.blk a.block) (.cells (wr ds (l * size) ys2.toList) e' fr')) := by
                          refine s.putObj hb hsol hro ⟨_, fr', rfl, by rw [wr_size]; simp; omega, fun j hj => ?_, by rw [wr_size]; exact a3, fun _ => by rw [wr_size]; exact a4 rfl⟩
                          have hj' : j < cs.size + xs.size := by simpa using hj
                          rw [wr_get _ _ _ _ (by simp; omega)]
                          by_cases hjc : j < cs.size
                          · rw [if_pos (by omega)]
                            have e1 : (cs ++ xs).getD j undef = cs.getD j undef := by simp [Array.getD_eq_getD_getElem?, Array.getElem?_append_left hjc]
                            rw [e1]
                            exact a2 j hjc
                          · rw [if_neg (by omega), if_pos (by simp; omega)]
                            have e1 : (cs ++ xs).getD j undef = xs.getD (j - cs.size) undef := by simp [Array.getD_eq_getD_getElem?, Array.getElem?_append_right (by omega : cs.size ≤ j)]
                            rw [e1, hcsz]
                            simpa [Array.getD_eq_getD_getElem?] using hrel.2 (j - l * size)
                        have hb1 : (h.put a.block (.cells (cs ++ xs) e' (1, 0))).obj a.block = some (.cells (cs ++ xs) e' (1, 0)) := by rw [AH.obj_put, if_pos rfl]
                        have hsol1 : solid (.cells (cs ++ xs) e' (1, 0)) = true := by
                          simp only [solid, bne_iff_ne, Array.size_append] at hsol ⊢; omega
                        obtain ⟨s2, k2⟩ := s1.move hb1 hsol1 hro e' (1, 0)
                        have hw' : (storeCells ((i.addr a).add (l * size)) ys2.toList).run P w = .ok () (w.putObj (i.blk a.block) (.cells (wr ds (l * size) ys2.toList) e' fr')) := hst
                        have haddr : i.addr a = ⟨i.blk a.block, 0, none⟩ := by
                          obtain ⟨b, o, sp⟩ := a
                          simp only at hoff hspot
                          simp [Ren.addr, hoff, hspot]
                        refine ⟨i.with h.n (i.blk a.block) (i.grow a.block), .slice (some (i.addr a)) (l + n) (i.grow a.block), _, run_append_room ht ht1 hd1 hu hs (hlr w) hroom hyr hw', i.with_le _ _ _, ?_, s2.congr (fun b => ?_) rfl rfl, (Keep.put hro _).trans (Keep.push (h := h.put a.block _) s.ro _)⟩
                        · have := VRel.slice (i := i.with h.n (i.blk a.block) (i.grow a.block)) (n := h.n + 1) ⟨h.n, 0, none⟩ (l + n) top (by simp)
                          rw [haddr]
                          simp only [Ren.addr, Ren.cap_top, Ren.with_blk, Ren.with_grow] at this
                          exact this
                        · simp only [AH.obj_push, AH.obj_put]
                          by_cases e1 : b = a.block
                          · have : a.block ≠ h.n := by omega
                            simp [e1, this, AH.put]
                          · simp [e1, AH.put]
                      · obtain ⟨old2, g1, g2⟩ := readA_arel (s.drew) (a := a) (n := l * size) (cs := ((cs.toList.drop a.off).take (l * size)).toArray) (by
                          unfold readA
                          rw [hspot, hb]
                          simp only
                          rw [if_pos (by simp; omega)])
                        have hex : ((cs.toList.drop a.off).take (l * size)).toArray = cs := by
                          rw [hoff, ← hcsz]
                          apply Array.ext'
                          simp [List.take_of_length_le]
                        rw [hex] at g2
                        have hosz : old2.size = l * size := by rw [← g2.1]; exact hcsz
                        obtain ⟨cap, rest, hrun, hsz, hcap⟩ := run_grow (w := w) (ty := ty) (base := some (i.addr a)) (l := l) (c := i.grow a.block) ht ht1 hd1 hu hs hz hzs hi hby (hlr w) (by omega) (by omega) (old := old2) (new := ys2) (by simpa [Builtin.firstCells] using g1) hyr2 hosz hxn
                        have s1 := kill_sat s.drew hb hsol e' (1, 0)
                        obtain ⟨h1, h2⟩ := grown_sat (n := l + n) (rest := rest) s1 hs (cs := cs ++ xs) (ds := old2 ++ ys2) (g2.append hrel) hsz
                        exact ⟨i.with h.n w.heap.size cap, .slice (some ⟨w.heap.size, 0, none⟩) (l + n) cap, w.drew.alloc (.cells (old2 ++ ys2 ++ rest) e'), hrun, i.with_le _ _ _, h2, h1, (Keep.put hro _).trans (Keep.push (h := h.put a.block _) s.ro _)⟩
                  · cases ha
                · cases ha
              · cases ha
        · cases ha
      · cases ha
    · cases ha
  · cases ha

end Go.Proofs.Ev
