/-
  AN EVALUATOR OF CLOSED CALLS, PART 7: bytes and strings, calls, and every operation together. It holds for every program; no statement is proved here.
-/
import Derived.Test.YtpjeaajjlkgekaaDoorEv6
noncomputable section
namespace Go.Proofs.Ev
set_option linter.unusedSimpArgs false
open Go.RowKit
set_option linter.unusedVariables false

variable {P : Program} {i : Ren} {h h' : AH} {w0 w : World} {ρ ρ' : Operand → Value}

/-! ### Bytes and strings -/
def toBytesA (P : Program) (h : AH) (src dst : TypeId) (x : Value) : Option (Value × AH) :=
  match undT P src, undT P dst, x with
  | some _, some (.slice e), .string s => match undT P e, sizeB P e with
    | some (.int .u8), some 1 => some (.slice (some ⟨h.n, 0, none⟩) s.size top, h.push (.cells (s.data.map fun b => .int .u8 b.toNat) e (1, 0)))
    | _, _ => none
  | _, _, _ => none

theorem modify_push (a : Array Obj) (x : Obj) (f : Obj → Obj) : (a.push x).modify a.size f = a.push (f x) := by
  apply Array.ext_getElem?
  intro j
  rw [Array.getElem?_modify, Array.getElem?_push, Array.getElem?_push]
  by_cases hj : j = a.size
  · subst hj; simp
  · simp [hj, Ne.symm hj]

theorem freeze_new (w : World) (C : Array Value) (e : TypeId) : (w.alloc (.cells C e)).freeze ⟨w.heap.size, C.size, none⟩ 1 = w.alloc (.cells C e (C.size, C.size + 1)) := by
  unfold World.freeze
  rw [if_neg (by omega)]
  have : (w.heap.push (.cells C e)).modify w.heap.size (fun
      | .cells c elem (lo, hi) => .cells c elem (if lo == hi then (C.size, C.size + 1) else (min lo C.size, max hi (C.size + 1)))
      | o => o) = w.heap.push (.cells C e (C.size, C.size + 1)) := (modify_push _ _ _).trans (by simp)
  exact congrArg (fun hp => ({ w with heap := hp } : World)) this

theorem toBytesA_sound (s : Sat P i h w0 w) {src dst : TypeId} {x x' : Value} (hx : VRel i h.n x x') {v : Value} (hb : toBytesA P h src dst x = some (v, h')) :
    ∃ i' v' w', (convert src dst x').run P w = .ok v' w' ∧ i.le i' h.n ∧ VRel i' h'.n v v' ∧ Sat P i' h' w0 w' ∧ Keep h h' := by
  unfold toBytesA at hb
  simp only [undT_eq, infoT_eq, funcT_eq] at hb
  split at hb
  · rename_i d e q hs hd
    have he := VRel.eq_of_flat (rfl : flat (.string q) = true) hx
    subst he
    split at hb
    · rename_i hu hsz
      injection hb with hb
      obtain ⟨rfl, rfl⟩ := Prod.mk.inj hb
      have hcut : (Question.appendCap q.size 0 e).cut (w.tape w.drawn (.appendCap q.size 0 e)) = q.size + w.tape w.drawn (.appendCap q.size 0 e) % (2 ^ 63 - q.size) := rfl
      generalize hcap : q.size + w.tape w.drawn (.appendCap q.size 0 e) % (2 ^ 63 - q.size) = cap at hcut
      generalize hC : (q.data.map fun b => (Value.int .u8 b.toNat)) ++ Array.replicate (cap - q.size) (Value.int .u8 0) = C
      have hCs : C.size = cap := by
        rw [← hC]
        have : q.data.size = q.size := rfl
        simp [this]
        omega
      refine ⟨i.with h.n w.heap.size cap, .slice (some ⟨w.heap.size, 0, none⟩) q.size cap, w.drew.alloc (.cells C e (C.size, C.size + 1)), ?_, i.with_le _ _ _, ?_, ?_, Keep.push s.ro _⟩
      · have hfr : (w.drew.alloc (.cells C e)).freeze ⟨w.heap.size, C.size, none⟩ 1 = w.drew.alloc (.cells C e (C.size, C.size + 1)) := freeze_new w.drew C e
        have hsh : (w.drew.alloc (.cells C e)).shape? w.heap.size = some (e, C.size) := by
          have := heap_alloc_new w.drew (.cells C e)
          simp only [World.shape?]
          rw [show w.heap.size = w.drew.heap.size from rfl, this]
        simp only [convert, Sem.run_bind, run_underlying hs, run_underlying hd, Result.andThen_ok]
        have hgo : (Conv.stringToBytes e q).run P w = .ok (.slice (some ⟨w.heap.size, 0, none⟩) q.size cap) (w.drew.alloc (.cells C e (C.size, C.size + 1))) := by
          simp [Conv.stringToBytes, Question.forced, hcut, newRow, hC, markStringish, hsh, hfr]
        cases d <;> simp [run_underlying hu, hgo]
      · have := VRel.slice (i := i.with h.n w.heap.size cap) (n := h.n + 1) ⟨h.n, 0, none⟩ q.size top (by simp)
        simpa [Ren.addr, Ren.cap_top, AH.push] using this
      · refine s.drew.alloc cap fun _ => ⟨C, _, rfl, ?_, fun j hj => ?_, Or.inr (Nat.le_refl _), fun _ => by rw [sizeB_cells hsz, hCs]; simp⟩
        · rw [← hC]; simp
        · have hj' : j < q.data.size := by simpa using hj
          have e1 : C.getD j undef = (q.data.map fun b => (Value.int .u8 b.toNat)).getD j undef := by
            rw [← hC]
            rw [Array.getD_eq_getD_getElem?, Array.getD_eq_getD_getElem?, Array.getElem?_append_left (by simpa using hj')]
          rw [e1]
          have e2 : (q.data.map fun b => (Value.int .u8 b.toNat)).getD j undef = .int .u8 q.data[j].toNat := by rw [Array.getD_eq_getD_getElem?, Array.getElem?_map, Array.getElem?_eq_getElem hj']; rfl
          rw [e2]
          exact .one _ rfl
    · cases hb
  · cases hb

def strRest (cs : Array Value) : Sem Value := do
  let mut s := ByteArray.empty
  for c in cs do
    let .int .u8 n := c | stuck "bytesToString: byte expected"
    s := s.push (UInt8.ofNat n.toNat)
  pure (.string s)

def toStringA (P : Program) (h : AH) (src dst : TypeId) (x : Value) : Option Value :=
  match undT P src, undT P dst, x with
  | some (.slice e), some .string, .slice (some a) len _ => match undT P e, readA h a len with
    | some (.int .u8), some cs => if cs.toList.all flat1 then match runP P (strRest cs) with
        | some v => if flat v then some v else none
        | none => none
      else none
    | _, _ => none
  | some (.slice e), some .string, .slice none _ _ => match undT P e with
    | some (.int .u8) => some (.string .empty)
    | _ => none
  | _, _, _ => none

theorem toStringA_sound (s : Sat P i h w0 w) {src dst : TypeId} {x x' : Value} (hx : VRel i h.n x x') {v : Value} (hb : toStringA P h src dst x = some v) : (convert src dst x').run P w = .ok v w ∧ flat v = true := by
  unfold toStringA at hb
  simp only [undT_eq, infoT_eq, funcT_eq] at hb
  split at hb
  · rename_i e a len c hs hd
    split at hb
    · rename_i cs hu hr
      split at hb
      · rename_i hf
        split at hb
        · rename_i u hrun
          split at hb
          · rename_i hfv
            injection hb with hb
            subst hb
            cases hx with
            | one _ hv => simp [flat1] at hv
            | slice _ _ _ ha =>
              obtain ⟨ds, g1, g2⟩ := readA_arel s hr
              have hds : ds = cs := ext_getD g2.1.symm fun j hj => by
                have hj' : j < cs.size := by rw [g2.1]; exact hj
                refine VRel.eq_of_flat (flat_of2 ?_) (g2.2 j)
                have : flat1 (cs.getD j undef) = true := List.all_eq_true.1 hf _ (by simp [hj'])
                cases hc : cs.getD j undef <;> rw [hc] at this <;> first | exact this | simp [flat1] at this
              subst hds
              refine ⟨?_, hfv⟩
              have := runP_sound P _ _ hrun w
              simp only [convert, Sem.run_bind, run_underlying hs, run_underlying hd, Result.andThen_ok, run_underlying hu, Conv.bytesToString, g1]
              unfold strRest at this
              simp only [Sem.run_bind] at this
              exact this
          · cases hb
        · cases hb
      · cases hb
    · cases hb
  · rename_i e l c hs hd
    split at hb
    · rename_i hu
      injection hb with hb
      subst hb
      have he : x' = .slice none l c := by cases hx <;> rfl
      subst he
      exact ⟨by simp [convert, run_underlying hs, run_underlying hd, run_underlying hu, Conv.bytesToString], rfl⟩
    · cases hb
  · cases hb

/-- A conversion of bytes to their own type. -/
def sameBytesA (P : Program) (h : AH) (src dst : TypeId) (x : Value) : Bool :=
  src == dst && (match undT P dst, x with
    | some (.slice e), .slice (some a) _ _ => (match undT P e with | some (.int .u8) => true | _ => false) && (match h.obj a.block with | some (.cells cs _ _) => cs.size != 0 && Nat.ble GL a.block | _ => false)
    | _, _ => false)

theorem sameBytesA_sound (s : Sat P i h w0 w) {src dst : TypeId} {x x' : Value} (hx : VRel i h.n x x') (hb : sameBytesA P h src dst x = true) : ∃ w', (convert src dst x').run P w = .ok x' w' ∧ Sat P i h w0 w' := by
  unfold sameBytesA at hb
  simp only [undT_eq, Bool.and_eq_true, beq_iff_eq] at hb
  obtain ⟨rfl, hb⟩ := hb
  split at hb
  · rename_i e a l c hd
    simp only [Bool.and_eq_true] at hb
    obtain ⟨hu, hc⟩ := hb
    split at hu
    · rename_i hu'
      split at hc
      · rename_i cs e2 fr hobj
        cases hx with
        | one _ hv => simp [flat1] at hv
        | slice _ _ _ ha =>
          rw [Bool.and_eq_true] at hc
          obtain ⟨ds, fr', h1, h2⟩ := s.freeze hobj (by simpa using hc.1) (Nat.le_of_ble_eq_true hc.2)
          have hsh : w.shape? (i.blk a.block) = some (e2, ds.size) := by simp [World.shape?, h1]
          refine ⟨_, ?_, h2⟩
          simp [convert, run_underlying hd, run_underlying hu', markStringish, Ren.addr, hsh]
      · cases hc
    · cases hu
  · cases hb

/-! ### Parts of values -/
def fieldA (P : Program) (t : TypeId) (x : Value) (k : Nat) : Option Value :=
  match undT P t, x with
  | some (.struct fs), .agg cs => match fs[k]? with
    | some f => match aggB P f.type, sizeB P f.type with
      | some true, some n => some (.agg (cs.extract f.offset (f.offset + n)))
      | some false, some _ => if f.offset < cs.size then some (cs.getD f.offset undef) else none
      | _, _ => none
    | none => none
  | _, _ => none

theorem fieldA_sound {n : Nat} {t : TypeId} {x x' : Value} (hx : VRel i n x x') {k : Nat} {v : Value} (hf : fieldA P t x k = some v) (w : World) : ∃ v', (Instr.field t x' k).run P w = .ok v' w ∧ VRel i n v v' := by
  unfold fieldA at hf
  simp only [undT_eq, infoT_eq, funcT_eq] at hf
  split at hf
  · rename_i fs cs hu
    have hc := hx.cells
    obtain ⟨ds, rfl⟩ : ∃ ds, x' = .agg ds := by cases hx <;> exact ⟨_, rfl⟩
    have hc : ARel i n cs ds := hc
    split at hf
    · rename_i f hk
      split at hf
      · rename_i m ha hs
        injection hf with hf
        subst hf
        exact ⟨.agg (ds.extract f.offset (f.offset + m)), by simp [Instr.field, run_underlying hu, hk, asAgg, part, run_aggB ha, run_sizeB hs], VRel.agg' (hc.extract _ _)⟩
      · rename_i m ha hs
        by_cases hlt : f.offset < cs.size
        · rw [if_pos hlt, Option.some.injEq] at hf
          obtain ⟨u, hu', hr⟩ : ∃ u, ds[f.offset]? = some u ∧ VRel i n (cs.getD f.offset undef) u := by
            have hlt' : f.offset < ds.size := by rw [← hc.1]; exact hlt
            exact ⟨ds.getD f.offset undef, by rw [Array.getD_eq_getD_getElem?, Array.getElem?_eq_getElem hlt']; rfl, hc.2 _⟩
          rw [← hf]
          exact ⟨u, by simp [Instr.field, run_underlying hu, hk, asAgg, part, run_aggB ha, hu'], hr⟩
        · rw [if_neg hlt] at hf
          cases hf
      · cases hf
    · cases hf
  · cases hf

def entryA (h : AH) (x : Value) : Option Value :=
  match x with
  | .pointer (some ⟨r, 0, none⟩) => match h.obj r with
    | some (.mapIter (some m) _ seen stepped) => match seen.back?, h.obj m with
      | some stamp, some (.map es ck) => if ck = stepped && flatEntries es then match es.find? (·.born == stamp) with
          | some e => some (.tuple #[e.key, e.val])
          | none => none
        else none
      | _, _ => none
    | _ => none
  | _ => none

theorem entryA_sound (s : Sat P i h w0 w) {x x' : Value} (hx : VRel i h.n x x') {v : Value} (he : entryA h x = some v) : (Instr.entry x').run P w = .ok v w ∧ flat v = true := by
  unfold entryA at he
  split at he
  · rename_i r
    cases hx with
    | one _ hv => simp [flat1] at hv
    | ptr _ ha =>
      split at he
      · rename_i m since seen stepped hb
        obtain ⟨o', ho, rfl, _⟩ := s.objs hb rfl
        split at he
        · rename_i stamp es ck hst hm
          split at he
          · rename_i hc
            simp only [Bool.and_eq_true, decide_eq_true_eq] at hc
            obtain ⟨rfl, hf⟩ := hc
            split at he
            · rename_i e hfind
              injection he with he
              subst he
              have hfl := List.all_eq_true.1 hf e (by simpa using Array.mem_of_find?_eq_some hfind)
              simp only [Bool.and_eq_true] at hfl
              refine ⟨?_, ?_⟩
              · simp [Instr.entry, Ren.addr, getObj_of (P := P) ho (fun _ _ _ h => by cases h), hst, getMap (P := P) (s.map hm hf), hfind]
              · simp only [flat, List.all_cons, List.all_nil, hfl.1, hfl.2]
                rfl
            · cases he
          · cases he
        · cases he
      · cases he
  · cases he

/-! ### Calls -/
def lenArgA (P : Program) (h : AH) (t : TypeId) (x : Value) : Option Value :=
  match undT P t, x with
  | some .string, .string s => some (goInt s.size)
  | some (.array n _), _ => some (goInt n)
  | some (.slice _), .slice _ n _ => some (goInt n)
  | some (.map _ _), .map none => some (goInt 0)
  | some (.map _ _), .map (some r) => match h.obj r with
    | some (.map es _) => some (goInt es.size)
    | _ => none
  | _, _ => none

theorem lenArgA_sound (s : Sat P i h w0 w) {ts : Array TypeId} {t : TypeId} (ht : ts[0]? = some t) {x x' : Value} (hx : VRel i h.n x x') {v : Value} (hl : lenArgA P h t x = some v) (ty : TypeId) : (Builtin.len_ ts ty #[x']).run P w = .ok v w ∧ flat v = true := by
  unfold lenArgA at hl
  simp only [undT_eq, infoT_eq, funcT_eq] at hl
  split at hl
  · rename_i q hu
    injection hl with hl
    subst hl
    have he := VRel.eq_of_flat (rfl : flat (.string q) = true) hx
    subst he
    exact ⟨by simp [Builtin.len_, ht, run_underlying hu], rfl⟩
  · rename_i n e hu
    injection hl with hl
    subst hl
    exact ⟨by simp [Builtin.len_, ht, run_underlying hu], rfl⟩
  · rename_i e a n c hu
    injection hl with hl
    subst hl
    refine ⟨?_, rfl⟩
    cases hx <;> simp [Builtin.len_, ht, run_underlying hu]
  · rename_i k e hu
    injection hl with hl
    subst hl
    have he := VRel.eq_of_flat (rfl : flat (.map none) = true) hx
    subst he
    exact ⟨by simp [Builtin.len_, ht, run_underlying hu], rfl⟩
  · rename_i k e r hu
    cases hx with
    | one _ hv => simp [flat1] at hv
    | map _ hr =>
      split at hl
      · rename_i es ck hb
        injection hl with hl
        subst hl
        obtain ⟨o', ho, fs, rfl, h1, _⟩ := s.objs hb rfl
        exact ⟨by simp [Builtin.len_, ht, run_underlying hu, getMap (P := P) ho, h1], rfl⟩
      · cases hl
  · cases hl

/-- An operation whose operands bear no address, and which touches no memory. -/
def flatOp (P : Program) (ρ : Operand → Value) (o : Oper) (h : AH) : OpA :=
  if o.op.operands.toList.all (fun x => flat (ρ x)) then match o.op with
    | .select _ _ => .no
    | _ => match runP P (execOp ρ o) with
      | some (.value v) => if flat v then .val v h else .no
      | _ => .no
  else .no

def optVal (h : AH) : Option Value → OpA
  | some v => .val v h
  | none => .no
def optNew : Option (Value × AH) → OpA
  | some (v, h) => .val v h
  | none => .no

def builtinA (P : Program) (ρ : Operand → Value) (o : Oper) (b : Builtin) (ts : Array TypeId) (args : List Operand) (h : AH) : OpA :=
  match b, args with
  | .len, [x] => match ts[0]? with
    | some t => optVal h (lenArgA P h t (ρ x))
    | none => .no
  | .copy, [d, x] => match ts[0]? with
    | some t => optNew (copyA P h t (ρ d) (ρ x))
    | none => .no
  | .append, [d, x] => match ts[0]?, ts[1]? with
    | some t, some t1 => optNew (appendA P h t t1 (ρ d) (ρ x))
    | _, _ => .no
  | _, _ => flatOp P ρ o h

def callFn (P : Program) (k : Nat) (args : Array Value) (h : AH) : OpA := match funcT P k with
  | some fn => match fn.body with
    | some _ => .enter k args h
    | none => .no
  | none => .no
def callYield (l : Nat) (args : Array Value) (h : AH) : OpA := match h.obj l with
  | some (.loop r) => if args.size = r.params.size then .round l r.fn ((r.params.toList.zip args.toList).foldl (fun tmps (t, a) => tmps.setIfInBounds t a) r.tmps) r.assign r.body h else .no
  | _ => .no
def callVal (P : Program) (f : Value) (args : Array Value) (h : AH) : OpA := match f with
  | .func (.func k) first captured => callFn P k (first ++ args ++ captured) h
  | .func (.yield l) first _ => callYield l (first ++ args) h
  | _ => .no
def callA (P : Program) (ρ : Operand → Value) (o : Oper) (c : Call) (h : AH) : OpA :=
  match c.callee with
  | .value f => callVal P (ρ f) (c.args.map ρ) h
  | .builtin b => builtinA P ρ o b c.argTypes c.args.toList h
  | .invoke _ _ => .no

/-- Arithmetic and comparisons of the type int. -/
def wrapF (n : Int) : Int := if -9223372036854775808 ≤ n ∧ n ≤ 9223372036854775807 then n else IntKind.i64.wrap n
def fastInt : BinOp → Int → Int → Option Value
  | .add, a, b => some (.int .i64 (wrapF (a + b)))
  | .sub, a, b => some (.int .i64 (wrapF (a - b)))
  | .mul, a, b => some (.int .i64 (wrapF (a * b)))
  | .eql, a, b => some (.bool (a == b))
  | .neq, a, b => some (.bool (a != b))
  | .lss, a, b => some (.bool (decide (a < b)))
  | .leq, a, b => some (.bool (decide (a ≤ b)))
  | .gtr, a, b => some (.bool (decide (a > b)))
  | .geq, a, b => some (.bool (decide (a ≥ b)))
  | .quo, a, b => if b = 0 then none else some (.int .i64 (wrapF (a.tdiv b)))
  | .rem, a, b => if b = 0 then none else some (.int .i64 (a.tmod b))
  | _, _, _ => none

theorem wrapF_eq (n : Int) : wrapF n = IntKind.i64.wrap n := by
  unfold wrapF
  split
  · rw [IntKind.wrap_i64]; omega
  · rfl

theorem fastInt_sound {op : BinOp} {a b : Int} {v : Value} (hf : fastInt op a b = some v) (t : TypeId) (x y : Operand) (w : World) :
    (do eqGuard op t x y (.int .i64 a) (.int .i64 b); binOp op t (.int .i64 a) (.int .i64 b) : Sem Value).run P w = .ok v w ∧ flat v = true := by
  unfold fastInt at hf
  split at hf
  all_goals first
    | (injection hf with hf; subst hf; exact ⟨by simp [eqGuard, binOp, Op.intArith, Op.intCmp, wrapF_eq], rfl⟩)
    | (split at hf
       · cases hf
       · rename_i hb
         injection hf with hf
         subst hf
         exact ⟨by simp [eqGuard, binOp, Op.intDiv, hb, wrapF_eq], rfl⟩)
    | cases hf

def opPick (c a b : Value) (h : AH) : OpA := match c with
  | .bool true => .val a h
  | .bool false => .val b h
  | _ => .no
def opAlloc (P : Program) (e : TypeId) (h : AH) : OpA := match zeroB P e with
  | some z => .val (.pointer (some ⟨h.n, 0, none⟩)) (h.push (.cells z e))
  | none => .no
def opBox (e : TypeId) (x : Value) (h : AH) : OpA := .val (.pointer (some ⟨h.n, 0, none⟩)) (h.push (.cells x.cells e))
def opLoad (P : Program) (t : TypeId) (a : Value) (h : AH) : OpA := match a with
  | .pointer (some a) => optVal h (loadA P h t a)
  | _ => .no
def opSkip : Option AH → OpA
  | some h => .skip h
  | none => .no
def opStore (P : Program) (t : TypeId) (a x : Value) (h : AH) : OpA := match a with
  | .pointer (some a) => opSkip (storeA P h t a x)
  | _ => .no
def opPtr (h : AH) : Option Addr → OpA
  | some b => .val (.pointer (some b)) h
  | none => .no
def opFieldAddr (P : Program) (t : TypeId) (x : Value) (k : Nat) (h : AH) : OpA := match x with
  | .pointer (some a) => opPtr h (fieldAtA P t a k)
  | _ => .no
def opIndexAddr (P : Program) (t : TypeId) (x ix : Value) (h : AH) : OpA := match ix with
  | .int _ _ => opPtr h (indexAtA P t x ix)
  | _ => .no
/-- How many elements a grown slice holds for sure. -/
def heldA (h : AH) (e : TypeId) (n : Nat) (a : Addr) (c : Nat) : Nat := match h.obj a.block with
  | some (.cells cs e' (1, 0)) => match Nat.beq e' e with
    | true => Nat.sub (Nat.div cs.size n) (Nat.sub top c)
    | false => 0
  | _ => 0
/-- s[lo:hi] of a slice that has grown: its capacity is open, but it has room behind lo. -/
def sliceG (P : Program) (h : AH) (t : TypeId) (x : Value) (lo hi mx : Option Value) : Option Value :=
  match undT P t, x, mx with
  | some (.slice e), .slice (some a) len c, none =>
    match sizeB P e with
    | some n => match boundA hi (heldA h e n a c) len with
      | some hh => match boundA lo hh 0 with
        | some l => if 0 < n ∧ c ≤ top ∧ big ≤ c ∧ big ≤ c - l ∧ l < heldA h e n a c then some (.slice (some (a.add (l * n))) (hh - l) (c - l)) else none
        | none => none
      | none => none
    | none => none
  | _, _, _ => none
theorem heldA_sound (s : Sat P i h w0 w) {e : TypeId} {n : Nat} (hs : sizeB P e = some n) (hn : 0 < n) {a : Addr} {c l : Nat} (hc : c ≤ top) (hl : l < heldA h e n a c) : heldA h e n a c + (top - c) ≤ i.grow a.block := by
  unfold heldA at hl ⊢
  split at hl
  · rename_i cs e' ho
    split at hl
    · rename_i he
      have hee : e' = e := Nat.eq_of_beq_eq_true he
      subst hee
      have hl' : l < cs.size / n - (top - c) := hl
      have hsz : cs.size ≠ 0 := by
        intro h0
        rw [h0] at hl'
        simp at hl'
      obtain ⟨o', _, ds, fr', rfl, h1, _, _, h4⟩ := s.objs ho (by simp only [solid, bne_iff_ne]; intro h0; apply hsz; simp_all)
      have h5 := h4 rfl
      rw [sizeB_cells hs] at h5
      have h6 : cs.size / n ≤ i.grow a.block := by
        rw [h5] at h1
        exact Nat.div_le_of_le_mul (by rw [Nat.mul_comm]; exact h1)
      show cs.size / n - (top - c) + (top - c) ≤ _
      omega
    · cases hl
  · cases hl
theorem sliceG_sound (s : Sat P i h w0 w) {t : TypeId} {x x' : Value} {lo hi mx : Option Value} (hx : VRel i h.n x x') {v : Value} (hb : sliceG P h t x lo hi mx = some v) :
    ∃ v', (Instr.sliceAt t x' lo hi mx).run P w = .ok v' w ∧ VRel i h.n v v' := by
  unfold sliceG at hb
  simp only [undT_eq] at hb
  split at hb
  · rename_i e a len c hu
    cases hx with
    | one _ hv => simp [flat1] at hv
    | slice _ _ _ ha =>
      cases hs : sizeB P e with
      | none => simp [hs] at hb
      | some m =>
        simp only [hs] at hb
        split at hb
        · rename_i hh h2
          split at hb
          · rename_i l h3
            split at hb
            · rename_i hq
              obtain ⟨q1, q2, q3, q4, q5⟩ := hq
              injection hb with hb
              subst hb
              have hg := heldA_sound s hs q1 q2 q5
              generalize hR : i.cap a.block c = R
              have hR' : i.grow a.block - (top - c) = R := by rw [← hR]; unfold Ren.cap; rw [if_pos q3]
              have h2' : boundA hi R len = some hh := by
                cases hi with
                | none => exact h2
                | some z =>
                  unfold boundA at h2 ⊢
                  split at h2
                  · exact h2
                  · rename_i k kk hz
                    split at h2
                    · rename_i hk
                      rw [if_pos (by omega)]
                      exact h2
                    · cases h2
                  · cases h2
              refine ⟨.slice (some ((i.addr a).add (l * m))) (hh - l) (R - l), ?_, ?_⟩
              · simp only [Instr.sliceAt, Sem.run_bind, run_underlying hu, Result.andThen_ok, Instr.slice, run_sliceBounds (P := P) (mx := none) (c := R) rfl h2' h3 (by simp) w, run_sizeB hs]
                have hne : R ≠ l := by omega
                simp [hne]
              · have := VRel.slice (i := i) (n := h.n) (a.add (l * m)) (hh - l) (c - l) (by simpa [add_block] using ha)
                have e2 : i.cap (a.add (l * m)).block (c - l) = R - l := by
                  rw [add_block]
                  unfold Ren.cap
                  rw [if_pos q4]
                  have hb0 : 0 < big := by decide
                  omega
                rw [e2] at this
                simpa [Ren.addr_add] using this
            · cases hb
          · cases hb
        · cases hb
  · cases hb
def opSlice (P : Program) (ρ : Operand → Value) (o : Oper) (t : TypeId) (x : Value) (lo hi mx : Option Operand) (h : AH) : OpA :=
  if (lo.toList ++ hi.toList ++ mx.toList).all (fun y => flat (ρ y)) then match x with
    | .slice _ _ _ => optVal h ((sliceA P t x (lo.map ρ) (hi.map ρ) (mx.map ρ)).or (sliceG P h t x (lo.map ρ) (hi.map ρ) (mx.map ρ)))
    | _ => flatOp P ρ o h
  else .no
def opExtract (x : Value) (k : Nat) (h : AH) : OpA := match x with
  | .tuple vs => match vs.toList[k]? with
    | some v => .val v h
    | none => .no
  | _ => .no
def opMakeSlice (P : Program) (t : TypeId) (l c : Value) (h : AH) : OpA := match l, c with
  | .int _ _, .int _ _ => optNew (makeSliceA P h t l c)
  | _, _ => .no
def opMany : Option (List (Value × AH)) → OpA
  | some l => .many l
  | none => .no
def opConvert (P : Program) (ρ : Operand → Value) (o : Oper) (src dst : TypeId) (x : Value) (h : AH) : OpA := match x with
  | .string _ => match undT P dst with
    | some (.slice _) => optNew (toBytesA P h src dst x)
    | _ => flatOp P ρ o h
  | .slice _ _ _ => if sameBytesA P h src dst x then .val x h else optVal h (toStringA P h src dst x)
  | _ => flatOp P ρ o h
def opNilCheck (x : Value) (h : AH) : OpA := match x with
  | .pointer (some a) => .val (.pointer (some a)) h
  | .func (.func f) first captured => .val (.func (.func f) first captured) h
  | _ => .no
def opFast (P : Program) (ρ : Operand → Value) (o : Oper) (h : AH) : Option Value → OpA
  | some v => .val v h
  | none => flatOp P ρ o h
/-- A slice that is not nil, and nil. -/
def sliceNil (P : Program) (t : TypeId) : BinOp → Option Value
  | .eql => match undT P t with
    | some (.slice _) => some (.bool false)
    | _ => none
  | .neq => match undT P t with
    | some (.slice _) => some (.bool true)
    | _ => none
  | _ => none
/-- A value of an interface type against nil. -/
def ifaceNil (P : Program) (t : TypeId) : BinOp → Option Value
  | .eql => match undT P t with
    | some (.interface _) => some (.bool false)
    | _ => none
  | .neq => match undT P t with
    | some (.interface _) => some (.bool true)
    | _ => none
  | _ => none
theorem run_equal_iface_nil {t : TypeId} {ms : Array (String × TypeId)} (h : P.underlying t = some (.interface ms)) (u : TypeId) (v : Value) (w : World) : (Op.equal t (.iface u v) .nilIface).run P w = .ok false w := by
  unfold Op.equal
  rw [show Op.maxDepth = (Op.maxDepth - 1) + 1 by rfl]
  unfold Op.equalIn
  simp only [Sem.run_bind, run_underlying h, Result.andThen_ok, Sem.run_pure]
theorem ifaceNil_sound {t : TypeId} {op : BinOp} {v : Value} (hv : ifaceNil P t op = some v) (x y : Operand) (u : TypeId) (z : Value) (w : World) :
    (do eqGuard op t x y (.iface u z) .nilIface; binOp op t (.iface u z) .nilIface : Sem Value).run P w = .ok v w ∧ flat v = true := by
  unfold ifaceNil at hv
  simp only [undT_eq] at hv
  split at hv
  · split at hv
    · rename_i ms h
      injection hv with hv
      subst hv
      exact ⟨by simp [eqGuard, binOp, run_equal_iface_nil h, Sem.run_bind], rfl⟩
    · cases hv
  · split at hv
    · rename_i ms h
      injection hv with hv
      subst hv
      exact ⟨by simp [eqGuard, binOp, run_equal_iface_nil h, Sem.run_bind], rfl⟩
    · cases hv
  · cases hv
def opMkIface (P : Program) (t : TypeId) (x : Value) (h : AH) : OpA := match undT P t with
  | some (.interface _) => .no
  | some _ => .val (.iface t x) h
  | none => .no
def opBin (P : Program) (ρ : Operand → Value) (o : Oper) (op : BinOp) (t : TypeId) (x y : Value) (h : AH) : OpA := match x, y with
  | .int .i64 a, .int .i64 b => opFast P ρ o h (fastInt op a b)
  | .slice (some _) _ _, .slice none 0 0 => optVal h (sliceNil P t op)
  | .iface _ _, .nilIface => optVal h (ifaceNil P t op)
  | _, _ => flatOp P ρ o h
def opUn (P : Program) (ρ : Operand → Value) (o : Oper) (op : UnOp) (x : Value) (h : AH) : OpA := match op, x with
  | .not, .bool true => .val (.bool false) h
  | .not, .bool false => .val (.bool true) h
  | _, _ => flatOp P ρ o h

def opA (P : Program) (ρ : Operand → Value) (o : Oper) (h : AH) : OpA :=
  match o.op with
  | .move x => .val (ρ x) h
  | .assign x => .val (ρ x) h
  | .pick c a b => opPick (ρ c) (ρ a) (ρ b) h
  | .alloc e => opAlloc P e h
  | .box e x => opBox e (ρ x) h
  | .load t a => opLoad P t (ρ a) h
  | .store t a x => opStore P t (ρ a) (ρ x) h
  | .build t ps => optVal h (buildA P t (ps.toList.map fun (k, x) => (k, ρ x)))
  | .buildSlice t n ps => optNew (buildSliceA P h t n (ps.toList.map fun (k, x) => (k, ρ x)))
  | .fieldAddr s x k => opFieldAddr P s (ρ x) k h
  | .field t x k => optVal h (fieldA P t (ρ x) k)
  | .indexAddr t x ix => opIndexAddr P t (ρ x) (ρ ix) h
  | .slice t x lo hi mx => opSlice P ρ o t (ρ x) lo hi mx h
  | .extract x k => opExtract (ρ x) k h
  | .makeFunc (.func f) first captured => .val (.func (.func f) (first.map ρ) (captured.map ρ)) h
  | .makeMap t none => .val (.map (some h.n)) (h.push (.map #[] 0))
  | .makeSlice t l c => opMakeSlice P t (ρ l) (ρ c) h
  | .lookup t x ix ok => optVal h ((lookupA P h t (ρ x) (ρ ix) ok).or (lookupU P h t (ρ x) (ρ ix) ok))
  | .mapUpdate t m k x => opSkip (mapUpdateA P h t (ρ m) (ρ k) (ρ x))
  | .insert t m k x => opSkip ((mapUpdateA P h t (ρ m) (ρ k) (ρ x)).or (insertU P h t (ρ m) (ρ k) (ρ x)))
  | .range t x => optNew (rangeA P h t (ρ x))
  | .next x str => opMany (nextA h (ρ x) str)
  | .entry x => optVal h (entryA h (ρ x))
  | .convert src dst x => opConvert P ρ o src dst (ρ x) h
  | .binOp op t x y _ => opBin P ρ o op t (ρ x) (ρ y) h
  | .unOp op _ x => opUn P ρ o op (ρ x) h
  | .call c => callA P ρ o c h
  | .nilCheck x => opNilCheck (ρ x) h
  | .makeInterface t x => opMkIface P t (ρ x) h
  | _ => flatOp P ρ o h

end Go.Proofs.Ev
