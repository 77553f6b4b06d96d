/-
  AN EVALUATOR OF CLOSED CALLS, PART 4: parts of structs, slices, literals, maps, strings and bytes. It holds for every program; no statement is proved here.
-/
import Derived.Test.YtpjeaajjlkgekaaDoorEv3
noncomputable section
namespace Go.Proofs.Ev
set_option linter.unusedSimpArgs false
open Go.RowKit
set_option linter.unusedVariables false

variable {P : Program} {i : Ren} {h h' : AH} {w0 w : World}

/-! ### Literals -/
theorem fill_fold {i : Ren} {n : Nat} (off : Nat) : ∀ (xs ys : List Value) (k : Nat) (cs ds : Array Value), LV i n xs ys → ARel i n cs ds →
    ARel i n ((xs.zipIdx k).foldl (fun cs (c, j) => cs.setIfInBounds (off + j) c) cs) ((ys.zipIdx k).foldl (fun cs (c, j) => cs.setIfInBounds (off + j) c) ds)
  | [], [], _, _, _, _, hc => hc
  | x :: xs, y :: ys, k, cs, ds, hx, hc => by
    simp only [List.zipIdx_cons, List.foldl_cons]
    exact fill_fold off xs ys (k + 1) _ _ hx.2 (hc.set (off + k) hx.1)
  | [], _ :: _, _, _, _, hx, _ => hx.elim
  | _ :: _, [], _, _, _, hx, _ => hx.elim

/-- Parts of a literal: their places are the same. -/
def PRel (i : Ren) (n : Nat) : List (Nat × Value) → List (Nat × Value) → Prop
  | [], [] => True
  | (a, v) :: ps, (b, w) :: qs => b = a ∧ VRel i n v w ∧ PRel i n ps qs
  | _, _ => False

theorem fill_rel {i : Ren} {n : Nat} (place : Nat → Option (Nat × Nat)) : ∀ (ps qs : List (Nat × Value)) (cs ds rs : Array Value), PRel i n ps qs → ARel i n cs ds → Instr.fill place cs ps = some rs →
    ∃ ts, Instr.fill place ds qs = some ts ∧ ARel i n rs ts
  | [], [], cs, ds, rs, _, hc, hf => by
    simp only [Instr.fill, Option.some.injEq] at hf
    subst hf
    exact ⟨ds, rfl, hc⟩
  | (a, v) :: ps, (b, w) :: qs, cs, ds, rs, hp, hc, hf => by
    obtain ⟨rfl, hv, hp⟩ := hp
    have hsz := hv.cells.1
    have hcs := hc.1
    simp only [Instr.fill] at hf ⊢
    cases hpl : place b with
    | none => simp [hpl] at hf
    | some x =>
      obtain ⟨off, size⟩ := x
      simp only [hpl] at hf ⊢
      rw [← hsz, ← hcs]
      split at hf
      · cases hf
      · rename_i hno
        rw [if_neg hno]
        refine fill_rel place ps qs _ _ rs hp ?_ hf
        have := fill_fold off v.cells.toList w.cells.toList 0 cs ds hv.cells.list hc
        have e : ∀ (u : Value) (zs : Array Value), u.cells.zipIdx.foldl (fun cs (c, j) => cs.setIfInBounds (off + j) c) zs = (u.cells.toList.zipIdx 0).foldl (fun cs (c, j) => cs.setIfInBounds (off + j) c) zs := fun u zs => by
          rw [← Array.foldl_toList, Array.toList_zipIdx]
        rw [e, e]
        exact this
  | [], _ :: _, _, _, _, hp, _, _ => hp.elim
  | _ :: _, [], _, _, _, hp, _, _ => hp.elim

theorem PRel.of {i : Ren} {n : Nat} {ρ ρ' : Operand → Value} : ∀ (ps : List (Nat × Operand)), (∀ p ∈ ps, VRel i n (ρ p.2) (ρ' p.2)) → PRel i n (ps.map fun (k, x) => (k, ρ x)) (ps.map fun (k, x) => (k, ρ' x))
  | [], _ => trivial
  | (k, x) :: ps, h => ⟨rfl, h (k, x) (by simp), PRel.of ps fun p hp => h p (by simp [hp])⟩

def placesA (P : Program) (fs : Array Field) : Option (Array (Nat × Nat)) := fs.mapM fun f => (sizeB P f.type).map fun n => (f.offset, n)

def buildA (P : Program) (t : TypeId) (parts : List (Nat × Value)) : Option Value :=
  match zeroB P t, undT P t with
  | some z, some (.struct fs) => match placesA P fs with
    | some pl => (Instr.fill (pl[·]?) z parts).map .agg
    | none => none
  | some z, some (.array _ e) => match sizeB P e with
    | some n => (Instr.fill (fun k => some (k * n, n)) z parts).map .agg
    | none => none
  | _, _ => none

theorem run_mapM_list {α β : Type} (f : α → Sem β) (g : α → Option β) (hfg : ∀ a b, g a = some b → ∀ w, (f a).run P w = .ok b w) : ∀ (l : List α) (bs : List β), l.mapM g = some bs → ∀ w, (l.mapM f).run P w = .ok bs w
  | [], bs, h, w => by simp at h; subst h; simp
  | a :: l, bs, h, w => by
    simp only [List.mapM_cons, Option.bind_eq_bind, Option.pure_def] at h
    cases hg : g a with
    | none => simp [hg] at h
    | some b =>
      cases hl : l.mapM g with
      | none => simp [hg, hl] at h
      | some cs =>
        simp only [hg, hl, Option.bind_some, Option.some.injEq] at h
        subst h
        simp [List.mapM_cons, hfg a b hg w, run_mapM_list f g hfg l cs hl w]

theorem run_placesA {fs : Array Field} {pl : Array (Nat × Nat)} (hp : placesA P fs = some pl) (w : World) :
    (fs.mapM fun f => (do pure (f.offset, ← sizeOf f.type) : Sem (Nat × Nat))).run P w = .ok pl w := by
  unfold placesA at hp
  rw [Array.mapM_eq_mapM_toList] at hp ⊢
  cases hl : fs.toList.mapM fun f => (sizeB P f.type).map fun n => (f.offset, n) with
  | none => rw [hl] at hp; cases hp
  | some l =>
    rw [hl] at hp
    injection hp with hp
    subst hp
    have := run_mapM_list (P := P) (fun f : Field => (do pure (f.offset, ← sizeOf f.type) : Sem (Nat × Nat))) (fun f => (sizeB P f.type).map fun n => (f.offset, n)) (fun f b hb w => by
      cases hs : sizeB P f.type with
      | none => simp [hs] at hb
      | some n =>
        simp only [hs, Option.map_some, Option.some.injEq] at hb
        subst hb
        simp [run_sizeB hs]) fs.toList l hl w
    rw [Sem.run_map, this]
    rfl

theorem buildA_sound {t : TypeId} {ps qs : List (Nat × Value)} (hp : PRel i h.n ps qs) {v : Value} (hb : buildA P t ps = some v) (w : World) :
    ∃ v', (Instr.build t qs.toArray).run P w = .ok v' w ∧ VRel i h.n v v' := by
  unfold buildA at hb
  simp only [undT_eq, infoT_eq, funcT_eq] at hb
  split at hb
  · rename_i z fs hz hu
    obtain ⟨zv, hzr, rfl, hzf⟩ := run_zeroB hz w
    cases hpl : placesA P fs with
    | none => simp [hpl] at hb
    | some pl =>
      simp only [hpl] at hb
      cases hf : Instr.fill (pl[·]?) zv.cells ps with
      | none => simp [hf] at hb
      | some rs =>
        simp only [hf, Option.map_some, Option.some.injEq] at hb
        subst hb
        obtain ⟨ts, h1, h2⟩ := fill_rel _ ps qs _ _ rs hp (ARel.flat1s (i := i) (n := h.n) hzf) hf
        have := run_placesA hpl w
        exact ⟨.agg ts, by simp only [Instr.build, Sem.run_bind, hzr, Result.andThen_ok, run_underlying hu, this]; simp [h1], VRel.agg' h2⟩
  · rename_i z n e hz hu
    obtain ⟨zv, hzr, rfl, hzf⟩ := run_zeroB hz w
    cases hs : sizeB P e with
    | none => simp [hs] at hb
    | some n =>
      simp only [hs] at hb
      cases hf : Instr.fill (fun k => some (k * n, n)) zv.cells ps with
      | none => simp [hf] at hb
      | some rs =>
        simp only [hf, Option.map_some, Option.some.injEq] at hb
        subst hb
        obtain ⟨ts, h1, h2⟩ := fill_rel _ ps qs _ _ rs hp (ARel.flat1s (i := i) (n := h.n) hzf) hf
        exact ⟨.agg ts, by simp only [Instr.build, Sem.run_bind, hzr, Result.andThen_ok, run_underlying hu, run_sizeB hs]; simp [h1], VRel.agg' h2⟩
  · cases hb

theorem map_range_zero (f : Nat → Value) : Array.map f (Array.range 0) = #[] := Array.ext' (by simp [Array.toList_range])

/-- As many zero values as asked for, cell by cell. -/
def zeros (z : Array Value) (n : Nat) : Array Value := (Array.range n).map (z[· % z.size]!)

theorem zeros_rel {n m : Nat} {z : Array Value} (hz : z.toList.all flat1 = true) (hs : z.size = 0 → m = 0) : ARel i n (zeros z m) (zeros z m) := by
  refine ARel.refl_of _ fun v hv => ?_
  simp only [zeros, Array.mem_map, Array.mem_range] at hv
  obtain ⟨k, hk, rfl⟩ := hv
  have hz0 : 0 < z.size := by
    rcases Nat.eq_zero_or_pos z.size with h0 | h0
    · have := hs h0; omega
    · exact h0
  have hlt : k % z.size < z.size := Nat.mod_lt _ hz0
  rw [getElem!_pos z (k % z.size) hlt]
  exact .one _ (List.all_eq_true.1 hz _ (by simp))

def buildSliceA (P : Program) (h : AH) (t : TypeId) (len : Nat) (parts : List (Nat × Value)) : Option (Value × AH) :=
  match undT P t with
  | some (.slice e) => match sizeB P e, zeroB P e with
    | some size, some z =>
      if len * size ≤ 65536 ∧ z.size = size ∧ size ≠ 0 then
        (Instr.fill (fun k => some (k * size, size)) (zeros z (len * size)) parts).map fun cs => (.slice (some ⟨h.n, 0, none⟩) len len, h.push (.cells cs e))
      else none
    | _, _ => none
  | _ => none

theorem Ren.cap_small (i : Ren) (b c : Nat) (hc : c < big) : i.cap b c = c := by unfold Ren.cap; rw [if_neg (by omega)]

theorem buildSliceA_sound (s : Sat P i h w0 w) {t : TypeId} {len : Nat} {ps qs : List (Nat × Value)} (hp : PRel i h.n ps qs) {v : Value} (hb : buildSliceA P h t len ps = some (v, h')) :
    ∃ i' v' w', (Instr.buildSlice t len qs.toArray).run P w = .ok v' w' ∧ i.le i' h.n ∧ VRel i' h'.n v v' ∧ Sat P i' h' w0 w' ∧ Keep h h' := by
  unfold buildSliceA at hb
  simp only [undT_eq, infoT_eq, funcT_eq] at hb
  split at hb
  · rename_i e hu
    split at hb
    · rename_i size z hs hz
      split at hb
      · rename_i hc
        obtain ⟨hc1, hc2, hc3⟩ := hc
        obtain ⟨zv, hzr, rfl, hzf⟩ := run_zeroB hz w
        cases hf : Instr.fill (fun k => some (k * size, size)) (zeros zv.cells (len * size)) ps with
        | none => simp [hf] at hb
        | some rs =>
          simp only [hf, Option.map_some, Option.some.injEq, Prod.mk.injEq] at hb
          obtain ⟨rfl, rfl⟩ := hb
          obtain ⟨ts, h1, h2⟩ := fill_rel _ ps qs _ _ rs hp (zeros_rel (i := i) (n := h.n) hzf (by omega)) hf
          refine ⟨i.with h.n w.heap.size 0, .slice (some ⟨w.heap.size, 0, none⟩) len len, w.alloc (.cells ts e), ?_, i.with_le _ _ _, ?_, newRow_sat s e 0 h2, Keep.push s.ro _⟩
          · simp only [Instr.buildSlice, Sem.run_bind, run_underlying hu, Result.andThen_ok, run_sizeB hs]
            rw [if_neg (by omega)]
            by_cases h0 : len * size = 0
            · have hr : zeros zv.cells (len * size) = #[] := by simp [zeros, h0]
              rw [hr] at h1
              simp only [h0, if_true] at h1 ⊢
              simp [map_range_zero, h1, newRow]
            · simp only [h0, if_false, Sem.run_bind, hzr, Result.andThen_ok]
              have h1' : Instr.fill (fun k => some (k * size, size)) (Array.map (fun x => zv.cells[x % zv.cells.size]!) (Array.range (len * size))) qs = some ts := h1
              simp [h1', newRow]
          · have hlen : len < big := by
              have : len ≤ len * size := Nat.le_mul_of_pos_right len (by omega)
              unfold big
              omega
            have := VRel.slice (i := i.with h.n w.heap.size 0) (n := h.n + 1) ⟨h.n, 0, none⟩ len len (by simp)
            rw [Ren.cap_small _ _ _ hlen] at this
            simpa [Ren.addr, AH.push] using this
      · cases hb
    · cases hb
  · cases hb

def makeSliceA (P : Program) (h : AH) (t : TypeId) (len cap : Value) : Option (Value × AH) :=
  match undT P t, len, cap with
  | some (.slice e), .int _ l, .int _ c => match sizeB P e, zeroB P e, infoT P e with
    | some size, some z, some ti =>
      if 0 ≤ l ∧ l ≤ c ∧ c ≤ 65536 ∧ ti.bytes ≤ 65536 ∧ z.size = size ∧ size ≠ 0 then
        some (.slice (some ⟨h.n, 0, none⟩) l.toNat c.toNat, h.push (.cells (zeros z (c.toNat * size)) e))
      else none
    | _, _, _ => none
  | _, _, _ => none

theorem makeSliceA_sound (s : Sat P i h w0 w) {t : TypeId} {len cap : Value} {v : Value} (hb : makeSliceA P h t len cap = some (v, h')) :
    ∃ i' v' w', (Instr.makeSlice t len cap).run P w = .ok v' w' ∧ i.le i' h.n ∧ VRel i' h'.n v v' ∧ Sat P i' h' w0 w' ∧ Keep h h' := by
  unfold makeSliceA at hb
  simp only [undT_eq, infoT_eq, funcT_eq] at hb
  split at hb
  · rename_i e kl l kc c hu
    split at hb
    · rename_i size z ti hs hz hi
      split at hb
      · rename_i hc
        obtain ⟨h1, h2, h3, h4, h5, h6⟩ := hc
        obtain ⟨zv, hzr, rfl, hzf⟩ := run_zeroB hz w
        simp only [Option.some.injEq, Prod.mk.injEq] at hb
        obtain ⟨rfl, rfl⟩ := hb
        refine ⟨i.with h.n w.heap.size 0, .slice (some ⟨w.heap.size, 0, none⟩) l.toNat c.toNat, w.alloc (.cells (zeros zv.cells (c.toNat * size)) e), ?_, i.with_le _ _ _, ?_, newRow_sat s e 0 (zeros_rel hzf (by omega)), Keep.push s.ro _⟩
        · have wl : IntKind.i64.wrap l = l := by rw [IntKind.wrap_i64]; omega
          have wc : IntKind.i64.wrap c = c := by rw [IntKind.wrap_i64]; omega
          have hbound : (ti.bytes : Int) * c ≤ 4294967296 := by
            have : (ti.bytes : Int) * c ≤ 65536 * 65536 := Int.mul_le_mul (by omega) h3 (by omega) (by omega)
            omega
          have hbound0 : 0 ≤ (ti.bytes : Int) * c := Int.mul_nonneg (by omega) (by omega)
          simp only [Instr.makeSlice, Sem.run_bind, run_underlying hu, Result.andThen_ok, asInt, asIntOf, Sem.run_pure, run_typeInfo w hi, wl, wc]
          have n1 : (decide (c < 0) || decide ((ti.bytes : Int) * c > 2 ^ 48) || decide (l < 0) || decide (l > c)) = false := by
            simp only [Bool.or_eq_false_iff, decide_eq_false_iff_not]
            refine ⟨⟨⟨by omega, ?_⟩, by omega⟩, by omega⟩
            have : (2 : Int) ^ 48 = 281474976710656 := by decide
            omega
          simp only [n1, Bool.false_eq_true, if_false]
          by_cases h0 : c.toNat * size = 0
          · simp [run_sizeB hs, h0, newRow, zeros, map_range_zero]
          · simp [run_sizeB hs, h0, newRow, zeros, hzr]
        · have hlen : c.toNat < big := by unfold big; omega
          have := VRel.slice (i := i.with h.n w.heap.size 0) (n := h.n + 1) ⟨h.n, 0, none⟩ l.toNat c.toNat (by simp)
          rw [Ren.cap_small _ _ _ hlen] at this
          simpa [Ren.addr, AH.push] using this
      · cases hb
    · cases hb
  · cases hb

/-! ### Addresses of parts -/
def fieldAtA (P : Program) (s : TypeId) (a : Addr) (k : Nat) : Option Addr :=
  match undT P s with
  | some (.struct fs) => match fs[k]? with
    | some f => match sizeB P f.type with
      | some n => if n ≠ 0 then some (a.add f.offset) else none
      | none => none
    | none => none
  | _ => none

theorem Ren.addr_add (i : Ren) (a : Addr) (n : Nat) : i.addr (a.add n) = (i.addr a).add n := by
  unfold Addr.add Ren.addr
  by_cases hn : n = 0 <;> simp [hn]

theorem add_block (a : Addr) (n : Nat) : (a.add n).block = a.block := by unfold Addr.add; split <;> rfl

theorem fieldAtA_sound {s : TypeId} {a b : Addr} {k : Nat} (hb : fieldAtA P s a k = some b) (w : World) : (Instr.fieldAt s (.pointer (some (i.addr a))) k).run P w = .ok (.pointer (some (i.addr b))) w ∧ b.block = a.block := by
  unfold fieldAtA at hb
  simp only [undT_eq, infoT_eq, funcT_eq] at hb
  split at hb
  · rename_i fs hu
    cases hf : fs[k]? with
    | none => simp [hf] at hb
    | some f =>
      simp only [hf] at hb
      cases hs : sizeB P f.type with
      | none => simp [hs] at hb
      | some n =>
        simp only [hs] at hb
        split at hb
        · rename_i hn
          injection hb with hb
          subst hb
          exact ⟨by simp [Instr.fieldAt, run_underlying hu, hf, Instr.sureAddr, fieldPlace, run_sizeB hs, hn, Ren.addr_add], add_block _ _⟩
        · cases hb
  · cases hb

def indexAtA (P : Program) (t : TypeId) (x ix : Value) : Option Addr :=
  match undT P t, x, ix with
  | some (.slice e), .slice (some a) len _, .int _ k => match sizeB P e with
    | some n => if 0 ≤ k ∧ k < len then some (a.add (k.toNat * n)) else none
    | none => none
  | some (.array len e), .pointer (some a), .int _ k => match sizeB P e with
    | some n => if 0 ≤ k ∧ k < len then some (a.add (k.toNat * n)) else none
    | none => none
  | _, _, _ => none

theorem indexAtA_sound {n : Nat} {t : TypeId} {x x' ix : Value} (hx : VRel i n x x') {b : Addr} (hb : indexAtA P t x ix = some b) (w : World) :
    (Instr.indexAt t x' ix).run P w = .ok (.pointer (some (i.addr b))) w ∧ b.block < n := by
  unfold indexAtA at hb
  simp only [undT_eq, infoT_eq, funcT_eq] at hb
  split at hb
  · rename_i e a len c kk k hu
    cases hx with
    | one _ hv => simp [flat1] at hv
    | slice _ _ _ ha =>
      cases hs : sizeB P e with
      | none => simp [hs] at hb
      | some m =>
        simp only [hs] at hb
        split at hb
        · rename_i hk
          injection hb with hb
          subst hb
          exact ⟨by simp [Instr.indexAt, run_underlying hu, asIntOf, hk, run_sizeB hs, Ren.addr_add], by rw [add_block]; exact ha⟩
        · cases hb
  · rename_i len e a kk k hu
    cases hx with
    | one _ hv => simp [flat1] at hv
    | ptr _ ha =>
      cases hs : sizeB P e with
      | none => simp [hs] at hb
      | some m =>
        simp only [hs] at hb
        split at hb
        · rename_i hk
          injection hb with hb
          subst hb
          exact ⟨by simp [Instr.indexAt, run_underlying hu, asIntOf, Instr.sureAddr, hk, run_sizeB hs, Ren.addr_add], by rw [add_block]; exact ha⟩
        · cases hb
  · cases hb

/-! ### Slices of slices -/
/-- The bound: a number, not above y. -/
def boundA (v : Option Value) (y : Nat) (none_ : Nat) : Option Nat :=
  match v with
  | none => some none_
  | some (.int _ k) => if 0 ≤ k ∧ k ≤ y then some k.toNat else none
  | some _ => none

/-- s[lo:hi] and s[lo:hi:max] of a slice whose capacity is known (c below 'big'), or of one that has grown, up to what it holds. -/
def sliceA (P : Program) (t : TypeId) (x : Value) (lo hi mx : Option Value) : Option Value :=
  match undT P t, x with
  | some (.slice e), .slice (some a) len c =>
    match sizeB P e with
    | some n =>
      if c < big then
        match boundA mx c c with
        | some m => match boundA hi m len with
          | some hh => match boundA lo hh 0 with
            | some l => if mx.isSome ∧ hi.isNone then none else if len ≤ c ∨ hi.isSome then some (.slice (some (if m = l then a else a.add (l * n))) (hh - l) (m - l)) else none
            | none => none
          | none => none
        | none => none
      else none
    | none => none
  | some (.slice e), .slice none 0 0 =>
    match boundA mx 0 0, boundA hi 0 0, boundA lo 0 0, sizeB P e with
    | some _, some _, some _, some _ => if mx.isSome ∧ hi.isNone then none else some (.slice none 0 0)
    | _, _, _, _ => none
  | _, _ => none

theorem run_sliceBound {v : Value} {y m d : Nat} (code : BoundsCode) (hb : boundA (some v) y d = some m) (w : World) : (Instr.sliceBound v y code).run P w = .ok m w := by
  unfold boundA at hb
  split at hb
  · rename_i h0; cases h0
  · rename_i k kk h0
    injection h0 with h0
    subst h0
    split at hb
    · rename_i hk
      injection hb with hb
      subst hb
      simp [Instr.sliceBound, asIntOf, hk]
    · cases hb
  · cases hb

theorem boundA_le {v : Option Value} {y d m : Nat} (hd : v = none → d ≤ y) (hb : boundA v y d = some m) : m ≤ y := by
  unfold boundA at hb
  split at hb
  · injection hb with hb
    subst hb
    exact hd rfl
  · split at hb
    · rename_i hk
      injection hb with hb
      omega
    · cases hb
  · cases hb

theorem run_sliceBounds {len c m hh l : Nat} {lo hi mx : Option Value} (h1 : boundA mx c c = some m) (h2 : boundA hi m len = some hh) (h3 : boundA lo hh 0 = some l) (h4 : ¬ (mx.isSome ∧ hi.isNone)) (w : World) :
    (Instr.sliceBounds true len c lo hi mx).run P w = .ok (l, hh, m) w := by
  unfold Instr.sliceBounds
  have g := fun (v : Value) (y d k : Nat) (code : BoundsCode) (hb : boundA (some v) y d = some k) => run_sliceBound (P := P) code hb w
  cases mx with
  | none =>
    simp only [boundA, Option.some.injEq] at h1
    subst h1
    cases hi with
    | none =>
      simp only [boundA, Option.some.injEq] at h2
      subst h2
      cases lo with
      | none => simp only [boundA, Option.some.injEq] at h3; subst h3; simp
      | some u => simp [g u _ _ _ _ h3]
    | some v =>
      cases lo with
      | none => simp only [boundA, Option.some.injEq] at h3; subst h3; simp [g v _ _ _ _ h2]
      | some u => simp [g v _ _ _ _ h2, g u _ _ _ _ h3]
  | some z =>
    cases hi with
    | none => simp at h4
    | some v =>
      cases lo with
      | none => simp only [boundA, Option.some.injEq] at h3; subst h3; simp [g z _ _ _ _ h1, g v _ _ _ _ h2]
      | some u => simp [g z _ _ _ _ h1, g v _ _ _ _ h2, g u _ _ _ _ h3]

theorem sliceA_sound {n : Nat} {t : TypeId} {x x' : Value} {lo hi mx : Option Value} (hx : VRel i n x x') {v : Value} (hb : sliceA P t x lo hi mx = some v) (w : World) :
    ∃ v', (Instr.sliceAt t x' lo hi mx).run P w = .ok v' w ∧ VRel i n v v' := by
  unfold sliceA at hb
  simp only [undT_eq, infoT_eq, funcT_eq] at hb
  split at hb
  · rename_i e a len c hu
    cases hx with
    | one _ hv => simp [flat1] at hv
    | slice _ _ _ ha =>
      cases hs : sizeB P e with
      | none => simp [hs] at hb
      | some m =>
        simp only [hs] at hb
        split at hb
        · rename_i hc
          split at hb
          · rename_i mm h1
            split at hb
            · rename_i hh h2
              split at hb
              · rename_i l h3
                split at hb
                · cases hb
                · rename_i h4
                  split at hb
                  · injection hb with hb
                    subst hb
                    have hm := boundA_le (fun _ => Nat.le_refl _) h1
                    refine ⟨.slice (some (if mm = l then i.addr a else (i.addr a).add (l * m))) (hh - l) (mm - l), ?_, ?_⟩
                    · simp only [Instr.sliceAt, Sem.run_bind, run_underlying hu, Result.andThen_ok, Instr.slice, Ren.cap_small i a.block c hc, run_sliceBounds (P := P) h1 h2 h3 h4 w, run_sizeB hs]
                      split <;> simp_all
                    · have := VRel.slice (i := i) (n := n) (if mm = l then a else a.add (l * m)) (hh - l) (mm - l) (by split <;> simp [add_block, ha])
                      rw [Ren.cap_small _ _ _ (by omega)] at this
                      by_cases hl : mm = l
                      · simpa [hl] using this
                      · simpa [hl, Ren.addr_add] using this
                  · cases hb
              · cases hb
            · cases hb
          · cases hb
        · cases hb
  · rename_i e hu
    cases hx with
    | one _ hv =>
      split at hb
      · rename_i m hh l sz h1 h2 h3 hs
        split at hb
        · cases hb
        · rename_i h4
          injection hb with hb
          subst hb
          have hm := boundA_le (fun _ => Nat.le_refl _) h1
          have hhm := boundA_le (fun _ => Nat.le_refl _) h2
          have hl := boundA_le (fun _ => Nat.le_refl _) h3
          obtain rfl : m = 0 := by omega
          obtain rfl : hh = 0 := by omega
          obtain rfl : l = 0 := by omega
          refine ⟨.slice none 0 0, ?_, .one _ rfl⟩
          simp only [Instr.sliceAt, Sem.run_bind, run_underlying hu, Result.andThen_ok, Instr.slice, run_sliceBounds (P := P) h1 h2 h3 h4 w, run_sizeB hs]
          simp
      · cases hb
  · cases hb

end Go.Proofs.Ev
