/-
  AN EVALUATOR OF CLOSED CALLS, PART 9: frames, and the steps of the evaluator but those of a region whose order is drawn. It holds for every program; no statement is proved here.
-/
import Derived.Test.YtpjeaajjlkgekaaDoorEv8
noncomputable section
namespace Go.Proofs.Ev
set_option linter.unusedSimpArgs false
open Go.RowKit
set_option linter.unusedVariables false

/-- What stays of a frame: its function, how many temporaries it has, the loop of which it is a round, whether it is a deferred call; and the panic by which it ends, and whether this is recovered. -/
structure AS where
  fn : Nat
  size : Nat
  round : Option Nat
  dfr : Bool
  pan : Option (Value × Bool)

/-- A deferred call: the mark of a range over a function, or the call of a function without arguments. -/
inductive AD where
  | mk (r : Nat)
  | call (f : Nat) (first captured : Array Value)

/-- A frame of the evaluator: 'defers': what is done at the end; 'ret': it ends (it panics where 'pan' says so). -/
structure AF where
  st : AS
  tmps : Tr Value
  todo : List Item
  defers : List AD
  ret : Bool

structure St where
  f : AF
  cs : List AF
  h : AH

inductive R1 where
  | next (s : St)
  | done (k : Nat) (v : Value) (h : AH)
  | many (l : List St)
  | no

def val (t : Tr Value) (k : Nat) : Value := match t.get k with
  | some v => v
  | none => undef

def evT (tmps : Tr Value) : Operand → Value
  | .tmp t => val tmps t
  | .const v => v
  | .global g => .pointer (some ⟨g, 0, none⟩)
  | .func f => .func (.func f) #[] #[]

def okX : Operand → Bool
  | .const v => flat v
  | .global g => Nat.blt g GL
  | _ => true
def okD : Op → Bool
  | .defer _ => false
  | .panic _ => false
  | .call c => match c.callee with
    | .builtin .recover => false
    | _ => true
  | _ => true
def okOp (o : Oper) : Bool := o.op.operands.toList.all okX && okD o.op

def noDefer (ops : Array Oper) : Bool := ops.toList.all okOp

def noBody : Code := .refuse "unsupported: a function without a Go body is entered"
def AF.enter (P : Program) (f : Nat) (args : Array Value) : AF :=
  match funcT P f with
  | some fn => ⟨⟨f, max args.size fn.ntmps, none, false, none⟩, Tr.lay args.toList 0 .e, [.code (fn.body.getD noBody)], [], false⟩
  | none => ⟨⟨f, args.size, none, false, none⟩, Tr.lay args.toList 0 .e, [.code noBody], [], false⟩

def setT (size : Nat) (dst : Option Nat) (v : Value) (t : Tr Value) : Tr Value :=
  match dst with
  | some d => match Nat.blt d size with
    | true => t.put d v
    | false => t
  | none => t

def arrayT (size : Nat) (t : Tr Value) : Array Value := ((List.range size).map (val t)).toArray

def dstAt (ops : Array Oper) (j : Nat) : Option Nat := match ops.toList[j]? with
  | some o => o.dst
  | none => none

def AF.finish : AF → Value → Option AF
  | ⟨st, tmps, .inRegion ops (j :: rest) :: k, defers, ret⟩, v => some ⟨st, setT st.size (dstAt ops j) v tmps, .inRegion ops rest :: k, defers, ret⟩
  | ⟨st, tmps, .inRangeFunc l :: k, defers, ret⟩, _ => some ⟨st, tmps, .endRangeFunc l :: k, defers, ret⟩
  | _, _ => none

def yieldT (ops : Array Oper) (tmps : Tr Value) (j : Nat) : Option Bool :=
  match dstAt ops j with
  | some d => match val tmps d with
    | .bool b => some b
    | _ => none
  | none => none

def wantedT (o : Oper) (ops : Array Oper) (tmps : Tr Value) : Bool := match o.guard with
  | none => true
  | some (j, want) => match yieldT ops tmps j with
    | some b => b == want
    | none => false

def retVarA (P : Program) (h : AH) (tmps : Tr Value) : ResultVar → Option Value
  | .tmp t => some (val tmps t)
  | .cell a t => match val tmps a with
    | .pointer (some ad) => loadA P h t ad
    | _ => none

def retList (P : Program) (h : AH) (tmps : Tr Value) : List ResultVar → Option (List Value)
  | [] => some []
  | r :: rs => match retVarA P h tmps r, retList P h tmps rs with
    | some v, some vs => some (v :: vs)
    | _, _ => none

def resultsA (P : Program) (h : AH) (fn : Func) (tmps : Tr Value) : Option Value :=
  match retList P h tmps fn.results.toList with
  | some [v] => some v
  | some vs => some (.tuple vs.toArray)
  | none => none

/-- A frame hands a value back. -/
def back (k : Nat) (cs : List AF) (v : Value) (h : AH) : R1 :=
  match cs with
  | [] => .done k v h
  | c :: cs => match c.finish v with
    | some c' => .next ⟨c', cs, h⟩
    | none => .no

def leaveRound (l : Nat) (cs : List AF) (h : AH) (jump : Option Code) : R1 :=
  match h.obj l, Nat.ble h.ro l, cs with
  | some (.loop r), true, _ :: _ => back 0 cs (.bool jump.isNone) (h.put l (.loop { r with state := if jump.isNone then .ready else .done, pending := jump }))
  | _, _, _ => .no

def leave (st : AS) (tmps : Tr Value) (todo : List Item) (defers : List AD) (cs : List AF) (h : AH) (jump : Option Code) : R1 :=
  match st.round with
  | none => match jump with
    | none => .next ⟨⟨{ st with pan := none }, tmps, todo, defers, true⟩, cs, h⟩
    | some .ret => .next ⟨⟨{ st with pan := none }, tmps, todo, defers, true⟩, cs, h⟩
    | _ => .no
  | some l => match st.dfr with
    | false => leaveRound l cs h jump
    | true => .no

def nx (st : AS) (tmps : Tr Value) (todo : List Item) (defers : List AD) (cs : List AF) (h : AH) : R1 := .next ⟨⟨st, tmps, todo, defers, false⟩, cs, h⟩

/-- What a recovered panic leaves of a frame. -/
def settleA (c : AF) : AF := match c.st.pan with
  | some (_, true) => { c with st := { c.st with pan := none } }
  | _ => c
/-- A deferred call is done. -/
def backD (cs : List AF) (h : AH) : R1 := match cs with
  | c :: cs => match c.ret with
    | true => .next ⟨settleA c, cs, h⟩
    | false => .no
  | [] => .no
/-- A panic goes on to the caller. -/
def raiseA (cs : List AF) (h : AH) (v : Value) : R1 := match cs with
  | c :: cs => match c.ret with
    | false => .next ⟨{ c with st := { c.st with pan := some (v, false) }, ret := true }, cs, h⟩
    | true => .no
  | [] => .no
def retVal (st : AS) (cs : List AF) (h : AH) : Option Value → R1
  | some v => match st.dfr with
    | false => back st.fn cs v h
    | true => backD cs h
  | none => .no
def retDone (P : Program) (st : AS) (tmps : Tr Value) (cs : List AF) (h : AH) : R1 :=
  match funcT P st.fn with
  | some fn => match st.pan with
    | none => retVal st cs h (resultsA P h fn tmps)
    | some (v, false) => raiseA cs h v
    | some (_, true) => .no
  | none => .no

def AF.asD (a : AF) : AF := { a with st := { a.st with dfr := true } }
def callDef (P : Program) (st : AS) (tmps : Tr Value) (todo : List Item) (ds : List AD) (cs : List AF) (h : AH) (f : Nat) (first captured : Array Value) : R1 :=
  match funcT P f with
  | some fn => match fn.body with
    | some _ => .next ⟨(AF.enter P f (first ++ captured)).asD, ⟨st, tmps, todo, ds, true⟩ :: cs, h⟩
    | none => .no
  | none => .no
def takeMark (st : AS) (tmps : Tr Value) (todo : List Item) (ds : List AD) (cs : List AF) (h : AH) (r : Nat) : R1 :=
  match h.obj r, Nat.ble h.ro r with
  | some (.deferred (some [])), true => .next ⟨⟨st, tmps, todo, ds, true⟩, cs, h.put r (.deferred none)⟩
  | _, _ => .no
def endsInA (P : Program) (st : AS) (tmps : Tr Value) (cs : List AF) (h : AH) : R1 :=
  match st.round with
  | none => retDone P st tmps cs h
  | some _ => match st.pan with
    | some _ => retDone P st tmps cs h
    | none => .no
def retStep (P : Program) (st : AS) (tmps : Tr Value) (todo : List Item) (defers : List AD) (cs : List AF) (h : AH) : R1 :=
  match defers with
  | .mk r :: ds => takeMark st tmps todo ds cs h r
  | .call f first captured :: ds => callDef P st tmps todo ds cs h f first captured
  | [] => endsInA P st tmps cs h

def rangeIn (P : Program) (st : AS) (tmps : Tr Value) (defers : List AD) (cs : List AF) (h : AH) (kf : Nat) (first captured : Array Value) (params : Array Tmp) (assign body : Code) (k : List Item) (block : Nat) : R1 :=
  .next ⟨AF.enter P kf (first ++ #[.func (.yield h.n) #[] #[]] ++ captured), ⟨st, tmps, .inRangeFunc h.n :: k, defers, false⟩ :: cs,
    h.push (.loop { state := .ready, pending := none, fn := st.fn, tmps := arrayT st.size tmps, params, assign, body, defers := block })⟩

def rangeFn (P : Program) (st : AS) (tmps : Tr Value) (defers : List AD) (cs : List AF) (h : AH) (kf : Nat) (first captured : Array Value) (params : Array Tmp) (assign body : Code) (k : List Item) : R1 :=
  match st.round with
  | none => rangeIn P st tmps (.mk h.n :: defers) cs (h.push (.deferred (some []))) kf first captured params assign body k h.n
  | some l0 => match h.obj l0 with
    | some (.loop r0) => rangeIn P st tmps defers cs h kf first captured params assign body k r0.defers
    | _ => .no

def rangeStep (P : Program) (st : AS) (tmps : Tr Value) (defers : List AD) (cs : List AF) (h : AH) (f : Operand) (params : Array Tmp) (assign body : Code) (k : List Item) : R1 :=
  match evT tmps f, okX f with
  | .func (.func kf) first captured, true => match funcT P kf with
    | some fn => match fn.body with
      | some _ => rangeFn P st tmps defers cs h kf first captured params assign body k
      | none => .no
    | none => .no
  | _, _ => .no

def operDone (st : AS) (tmps : Tr Value) (defers : List AD) (cs : List AF) (ops : Array Oper) (rest : List Nat) (k : List Item) (dst : Option Nat) : OpA → R1
  | .val v h => nx st (setT st.size dst v tmps) (.inRegion ops rest :: k) defers cs h
  | .skip h => nx st (setT st.size dst undef tmps) (.inRegion ops rest :: k) defers cs h
  | _ => .no

def operGo (P : Program) (st : AS) (tmps : Tr Value) (defers : List AD) (cs : List AF) (ops : Array Oper) (j : Nat) (rest : List Nat) (k : List Item) (dst : Option Nat) (r : OpA) : R1 :=
  match r with
  | .val _ _ => operDone st tmps defers cs ops rest k dst r
  | .skip _ => operDone st tmps defers cs ops rest k dst r
  | .enter f args h => .next ⟨AF.enter P f args, ⟨st, tmps, .inRegion ops (j :: rest) :: k, defers, false⟩ :: cs, h⟩
  | .round l f vs assign body h => .next ⟨⟨⟨f, vs.size, some l, false, none⟩, Tr.lay vs.toList 0 .e, [.code assign, .beginRound, .code body], [], false⟩, ⟨st, tmps, .inRegion ops (j :: rest) :: k, defers, false⟩ :: cs, h⟩
  | .many xs => .many (xs.map fun (v, h) => ⟨⟨st, setT st.size dst v tmps, .inRegion ops rest :: k, defers, false⟩, cs, h⟩)
  | .no => .no

/-- A call is deferred: that of a function value without arguments. -/
def deferStep (st : AS) (tmps : Tr Value) (defers : List AD) (cs : List AF) (h : AH) (k : List Item) (ops : Array Oper) (rest : List Nat) (dst : Option Nat) (c : Call) : R1 :=
  match st.round, c.callee, c.args.toList with
  | none, .value f, [] => match evT tmps f, okX f with
    | .func (.func kf) first captured, true => nx st (setT st.size dst undef tmps) (.inRegion ops rest :: k) (.call kf first captured :: defers) cs h
    | _, _ => .no
  | _, _, _ => .no
def panicStep (st : AS) (tmps : Tr Value) (todo : List Item) (defers : List AD) (cs : List AF) (h : AH) (x : Operand) : R1 :=
  match evT tmps x, okX x with
  | .iface t v, true => .next ⟨⟨{ st with pan := some (.iface t v, false) }, tmps, todo, defers, true⟩, cs, h⟩
  | _, _ => .no
def recStep (st : AS) (tmps : Tr Value) (defers : List AD) (cs : List AF) (h : AH) (k : List Item) (ops : Array Oper) (rest : List Nat) (dst : Option Nat) : R1 :=
  match st.dfr, st.round, cs with
  | true, none, c :: cs => match c.ret, c.st.pan with
    | true, some (v, false) => nx st (setT st.size dst v tmps) (.inRegion ops rest :: k) defers ({ c with st := { c.st with pan := some (v, true) } } :: cs) h
    | true, some (_, true) => .no
    | true, none => nx st (setT st.size dst .nilIface tmps) (.inRegion ops rest :: k) defers (c :: cs) h
    | false, _ => .no
  | _, _, _ => .no
/-- Operations that change how a frame ends, and those that stand beside them. -/
def specStep (P : Program) (st : AS) (tmps : Tr Value) (defers : List AD) (cs : List AF) (h : AH) (k : List Item) (ops : Array Oper) (j : Nat) (rest : List Nat) (o : Oper) : Bool → R1
  | true => operGo P st tmps defers cs ops j rest k o.dst (opA P (evT tmps) o h)
  | false => match o.op with
    | .defer c => deferStep st tmps defers cs h k ops rest o.dst c
    | .panic x => panicStep st tmps (.inRegion ops (j :: rest) :: k) defers cs h x
    | .call c => match c.callee with
      | .builtin .recover => recStep st tmps defers cs h k ops rest o.dst
      | _ => .no
    | _ => .no

def operStep (P : Program) (st : AS) (tmps : Tr Value) (defers : List AD) (cs : List AF) (h : AH) (k : List Item) (ops : Array Oper) (j : Nat) (rest : List Nat) (o : Oper) : R1 :=
  match wantedT o ops tmps, noDefer ops with
  | true, true => operGo P st tmps defers cs ops j rest k o.dst (opA P (evT tmps) o h)
  | true, false => specStep P st tmps defers cs h k ops j rest o (okOp o)
  | false, _ => nx st (setT st.size o.dst undef tmps) (.inRegion ops rest :: k) defers cs h

def regStep (P : Program) (st : AS) (tmps : Tr Value) (defers : List AD) (cs : List AF) (h : AH) (k : List Item) (ops : Array Oper) : List Nat → R1
  | [] => nx st tmps k defers cs h
  | j :: rest => match ops.toList[j]? with
    | some o => operStep P st tmps defers cs h k ops j rest o
    | none => .no

def condStep (st : AS) (tmps : Tr Value) (defers : List AD) (cs : List AF) (h : AH) (k : List Item) (c : Operand) (a b : Code) : R1 :=
  match evT tmps c, okX c with
  | .bool true, true => nx st tmps (.code a :: k) defers cs h
  | .bool false, true => nx st tmps (.code b :: k) defers cs h
  | _, _ => .no

def exitStep (st : AS) (tmps : Tr Value) (todo : List Item) (defers : List AD) (cs : List AF) (h : AH) (jump : Code) : Option (List Item) → R1
  | some k => nx st tmps k defers cs h
  | none => leave st tmps todo defers cs h (some jump)

def codeStep (P : Program) (draw : AS → Tr Value → List AD → List AF → AH → List Item → Array Oper → R1) (st : AS) (tmps : Tr Value) (defers : List AD) (cs : List AF) (h : AH) (k : List Item) (c : Code) : R1 :=
  match c with
  | .skip => nx st tmps k defers cs h
  | .label _ => nx st tmps k defers cs h
  | .seq a b => nx st tmps (.code a :: .code b :: k) defers cs h
  | .cond c a b => condStep st tmps defers cs h k c a b
  | .block id body => nx st tmps (.code body :: .inBlock id :: k) defers cs h
  | .loop body => nx st tmps (.code body :: .inLoop body :: k) defers cs h
  | .scope body => nx st tmps (.code body :: .inScope body :: k) defers cs h
  | .ret => leave st tmps (.code .ret :: k) defers cs h (some .ret)
  | .exit id => exitStep st tmps (.code (.exit id) :: k) defers cs h (.exit id) (exitTo id k)
  | .goto l => exitStep st tmps (.code (.goto l) :: k) defers cs h (.goto l) (gotoIn l k)
  | .rangeFunc f params assign body => rangeStep P st tmps defers cs h f params assign body k
  | .region _ ops false => nx st tmps (.inRegion ops (List.range ops.size) :: k) defers cs h
  | .region _ ops true => draw st tmps defers cs h k ops
  | .refuse _ => .no

def beginStep (st : AS) (tmps : Tr Value) (defers : List AD) (cs : List AF) (h : AH) (k : List Item) : R1 :=
  match st.round with
  | some l => match h.obj l, Nat.ble h.ro l with
    | some (.loop r), true => match r.state with
      | .ready => nx st tmps k defers cs (h.put l (.loop { r with state := .busy }))
      | _ => .no
    | _, _ => .no
  | none => .no

def endRangeStep (st : AS) (tmps : Tr Value) (defers : List AD) (cs : List AF) (h : AH) (k : List Item) (l : Nat) : R1 :=
  match h.obj l, Nat.ble h.ro l with
  | some (.loop r), true => match r.state with
    | .busy => .no
    | _ => nx st tmps ((r.pending.map Item.code).toList ++ k) defers cs (h.put l (.loop { r with state := .exhausted }))
  | _, _ => .no

def itemStep (P : Program) (draw : AS → Tr Value → List AD → List AF → AH → List Item → Array Oper → R1) (st : AS) (tmps : Tr Value) (defers : List AD) (cs : List AF) (h : AH) (k : List Item) (it : Item) : R1 :=
  match it with
  | .code c => codeStep P draw st tmps defers cs h k c
  | .inBlock _ => nx st tmps k defers cs h
  | .inScope _ => nx st tmps k defers cs h
  | .inLoop body => nx st tmps (.code body :: .inLoop body :: k) defers cs h
  | .inRegion ops l => regStep P st tmps defers cs h k ops l
  | .beginRound => beginStep st tmps defers cs h k
  | .endRangeFunc l => endRangeStep st tmps defers cs h k l
  | _ => .no

/-- One step; 'draw' says what a region does whose order is drawn. -/
def step1 (P : Program) (draw : AS → Tr Value → List AD → List AF → AH → List Item → Array Oper → R1) : St → R1
  | ⟨⟨st, tmps, todo, defers, true⟩, cs, h⟩ => retStep P st tmps todo defers cs h
  | ⟨⟨st, tmps, [], defers, false⟩, cs, h⟩ => leave st tmps [] defers cs h none
  | ⟨⟨st, tmps, it :: k, defers, false⟩, cs, h⟩ => itemStep P draw st tmps defers cs h k it

/-! ### What a frame stands for -/
def IRel (i : Ren) (n : Nat) : Item → Item → Prop
  | .inRangeFunc l, x => x = .inRangeFunc (i.blk l) ∧ l < n
  | .endRangeFunc l, x => x = .endRangeFunc (i.blk l) ∧ l < n
  | .call .., _ => False
  | .extern .., _ => False
  | it, x => x = it

def TRel (i : Ren) (n : Nat) : List Item → List Item → Prop
  | [], [] => True
  | a :: as, b :: bs => IRel i n a b ∧ TRel i n as bs
  | _, _ => False

def mark (i : Ren) (r : Nat) : Deferred := { target := .collected (i.blk r), args := #[] }

/-- What temporaries stand for. -/
def XRel (i : Ren) (n size : Nat) (t : Tr Value) (ys : Array Value) : Prop := ys.size = size ∧ ∀ j, VRel i n (val t j) (ys.getD j undef)

theorem XRel.mono {i i' : Ren} {n m size : Nat} (hle : i.le i' n) (hm : n ≤ m) {t : Tr Value} {ys : Array Value} (h : XRel i n size t ys) : XRel i' m size t ys := ⟨h.1, fun j => (h.2 j).mono hle hm⟩

/-- What is done at the end. -/
def DRel (i : Ren) (n : Nat) : AD → Deferred → Prop
  | .mk r, d => d = mark i r ∧ r < n
  | .call f xs ys, d => ∃ xs' ys', d = ⟨.fn (.func f) ys', xs'⟩ ∧ ARel i n xs xs' ∧ ARel i n ys ys'
def DsRel (i : Ren) (n : Nat) : List AD → List Deferred → Prop
  | [], [] => True
  | a :: as, b :: bs => DRel i n a b ∧ DsRel i n as bs
  | _, _ => False
/-- How a frame that ends does. -/
def EndRel (i : Ren) (n : Nat) : Option (Value × Bool) → FrameMode → Prop
  | none, m => m = .returning
  | some (v, r), m => ∃ v', m = .panicking [{ v := v', recovered := r }] ∧ VRel i n v v'
def MRel (i : Ren) (n : Nat) (pan : Option (Value × Bool)) : Bool → FrameMode → Prop
  | false, m => m = .run
  | true, m => EndRel i n pan m
def kindOf : Bool → CallKind
  | true => .deferred
  | false => .normal

theorem DRel.mono {i i' : Ren} {n m : Nat} (hle : i.le i' n) (hm : n ≤ m) : ∀ {a : AD} {d : Deferred}, DRel i n a d → DRel i' m a d
  | .mk r, d, h => ⟨by rw [h.1]; simp [mark, hle.blk r h.2], by have := h.2; omega⟩
  | .call f xs ys, d, h => let ⟨xs', ys', h1, h2, h3⟩ := h; ⟨xs', ys', h1, h2.mono hle hm, h3.mono hle hm⟩
theorem DsRel.mono {i i' : Ren} {n m : Nat} (hle : i.le i' n) (hm : n ≤ m) : ∀ {a : List AD} {b : List Deferred}, DsRel i n a b → DsRel i' m a b
  | [], [], _ => trivial
  | _ :: _, _ :: _, h => ⟨h.1.mono hle hm, DsRel.mono hle hm h.2⟩
  | [], _ :: _, h => h.elim
  | _ :: _, [], h => h.elim
theorem EndRel.mono {i i' : Ren} {n m : Nat} (hle : i.le i' n) (hm : n ≤ m) : ∀ {p : Option (Value × Bool)} {x : FrameMode}, EndRel i n p x → EndRel i' m p x
  | none, _, h => h
  | some (v, r), _, h => let ⟨v', h1, h2⟩ := h; ⟨v', h1, h2.mono hle hm⟩
theorem MRel.mono {i i' : Ren} {n m : Nat} (hle : i.le i' n) (hm : n ≤ m) {p : Option (Value × Bool)} : ∀ {r : Bool} {x : FrameMode}, MRel i n p r x → MRel i' m p r x
  | false, _, h => h
  | true, _, h => EndRel.mono hle hm h
theorem EndRel.ne_run {i : Ren} {n : Nat} : ∀ {p : Option (Value × Bool)} {x : FrameMode}, EndRel i n p x → x ≠ .run
  | none, _, h => by rw [show _ = FrameMode.returning from h]; simp
  | some (v, r), _, h => by obtain ⟨v', rfl, _⟩ := h; simp

structure FRel (i : Ren) (n : Nat) (a : AF) (f : Frame) : Prop where
  fn : f.fn = a.st.fn
  tmps : XRel i n a.st.size a.tmps f.tmps
  todo : TRel i n a.todo f.todo
  defers : DsRel i n a.defers f.defers
  dlt : True
  mode : MRel i n a.st.pan a.ret f.mode
  kind : f.kind = kindOf a.st.dfr
  round : f.roundOf = a.st.round.map i.blk
  rlt : ∀ l, a.st.round = some l → l < n

def CRel (i : Ren) (n : Nat) : List AF → List Frame → List Frame → Prop
  | [], fs, cs => fs = cs
  | a :: as, f :: fs, cs => FRel i n a f ∧ CRel i n as fs cs
  | _ :: _, [], _ => False

theorem IRel.mono {i i' : Ren} {n m : Nat} (hle : i.le i' n) (hm : n ≤ m) {a b : Item} (h : IRel i n a b) : IRel i' m a b := by
  cases a with
  | inRangeFunc l => exact ⟨by rw [hle.blk l h.2]; exact h.1, by have := h.2; omega⟩
  | endRangeFunc l => exact ⟨by rw [hle.blk l h.2]; exact h.1, by have := h.2; omega⟩
  | _ => exact h

theorem TRel.mono {i i' : Ren} {n m : Nat} (hle : i.le i' n) (hm : n ≤ m) : ∀ {a b : List Item}, TRel i n a b → TRel i' m a b
  | [], [], _ => trivial
  | _ :: _, _ :: _, h => ⟨h.1.mono hle hm, TRel.mono hle hm h.2⟩
  | [], _ :: _, h => h.elim
  | _ :: _, [], h => h.elim

theorem FRel.mono {i i' : Ren} {n m : Nat} (hle : i.le i' n) (hm : n ≤ m) {a : AF} {f : Frame} (h : FRel i n a f) : FRel i' m a f :=
  ⟨h.fn, h.tmps.mono hle hm, h.todo.mono hle hm, h.defers.mono hle hm, trivial, h.mode.mono hle hm, h.kind,
    by rw [h.round]; cases hr : a.st.round with
      | none => rfl
      | some l => simp [hle.blk l (h.rlt l hr)],
    fun l hl => by have := h.rlt l hl; omega⟩

theorem CRel.mono {i i' : Ren} {n m : Nat} (hle : i.le i' n) (hm : n ≤ m) : ∀ {a : List AF} {b cs : List Frame}, CRel i n a b cs → CRel i' m a b cs
  | [], _, _, h => h
  | _ :: _, _ :: _, _, h => ⟨h.1.mono hle hm, CRel.mono hle hm h.2⟩
  | _ :: _, [], _, h => h.elim

/-- What a state stands for. -/
structure SRel (P : Program) (i : Ren) (w0 : World) (cs : List Frame) (s : St) (fr : Frame) (fs : List Frame) (w : World) : Prop where
  f : FRel i s.h.n s.f fr
  c : CRel i s.h.n s.cs fs cs
  sat : Sat P i s.h w0 w

/-- What a step says of the model. -/
def RRel (P : Program) (i : Ren) (w0 : World) (cs : List Frame) (h0 : AH) (m : Machine) : R1 → Prop
  | .next s => ∃ i' fr fs w, Steps P m (lone fr fs w) ∧ SRel P i' w0 cs s fr fs w ∧ i.le i' h0.n ∧ Keep h0 s.h
  | .done k v h => ∃ i' fr w v', Steps P m (lone fr cs w) ∧ fr.fn = k ∧ fr.leaving P w (.returned v') ∧ VRel i' h.n v v' ∧ Sat P i' h w0 w ∧ i.le i' h0.n ∧ Keep h0 h
  | .many l => ∃ s ∈ l, ∃ i' fr fs w, Steps P m (lone fr fs w) ∧ SRel P i' w0 cs s fr fs w ∧ i.le i' h0.n ∧ Keep h0 s.h
  | .no => True

theorem TRel.append {i : Ren} {n : Nat} : ∀ {as bs cs ds : List Item}, TRel i n as bs → TRel i n cs ds → TRel i n (as ++ cs) (bs ++ ds)
  | [], [], _, _, _, k => k
  | _ :: _, _ :: _, _, _, h, k => ⟨h.1, TRel.append h.2 k⟩
  | [], _ :: _, _, _, h, _ => h.elim
  | _ :: _, [], _, _, h, _ => h.elim

theorem exitTo_rel {i : Ren} {n id : Nat} : ∀ {as bs : List Item}, TRel i n as bs → (∀ k, exitTo id as = some k → ∃ k', exitTo id bs = some k' ∧ TRel i n k k') ∧ (exitTo id as = none → exitTo id bs = none)
  | [], [], _ => ⟨fun k h => by simp [exitTo] at h, fun _ => rfl⟩
  | a :: as, b :: bs, h => by
    have ih := exitTo_rel (id := id) h.2
    have h1 := h.1
    cases a with
    | inBlock id' =>
      obtain rfl : b = .inBlock id' := h1
      simp only [exitTo]
      by_cases he : (id' == id) = true
      · simp only [he, if_true]
        exact ⟨fun k hk => by injection hk with hk; subst hk; exact ⟨bs, rfl, h.2⟩, fun hk => by cases hk⟩
      · simp only [he, Bool.false_eq_true, if_false]
        exact ih
    | inRangeFunc l => obtain ⟨rfl, _⟩ := h1; simpa only [exitTo] using ih
    | endRangeFunc l => obtain ⟨rfl, _⟩ := h1; simpa only [exitTo] using ih
    | call d a b c => exact h1.elim
    | extern a b => exact h1.elim
    | code c => obtain rfl : b = .code c := h1; simpa only [exitTo] using ih
    | inLoop c => obtain rfl : b = .inLoop c := h1; simpa only [exitTo] using ih
    | inScope c => obtain rfl : b = .inScope c := h1; simpa only [exitTo] using ih
    | inRegion o l => obtain rfl : b = .inRegion o l := h1; simpa only [exitTo] using ih
    | beginRound => obtain rfl : b = .beginRound := h1; simpa only [exitTo] using ih
  | [], _ :: _, h => h.elim
  | _ :: _, [], h => h.elim

theorem gotoIn_rel {i : Ren} {n id : Nat} : ∀ {as bs : List Item}, TRel i n as bs → (∀ k, gotoIn id as = some k → ∃ k', gotoIn id bs = some k' ∧ TRel i n k k') ∧ (gotoIn id as = none → gotoIn id bs = none)
  | [], [], _ => ⟨fun k h => by simp [gotoIn] at h, fun _ => rfl⟩
  | a :: as, b :: bs, h => by
    have ih := gotoIn_rel (id := id) h.2
    have h1 := h.1
    cases a with
    | inScope c =>
      obtain rfl : b = .inScope c := h1
      simp only [gotoIn]
      cases hf : findLabel c id with
      | none => simpa using ih
      | some r => exact ⟨fun k hk => by injection hk with hk; subst hk; exact ⟨_, rfl, ⟨rfl, rfl, h.2⟩⟩, fun hk => by cases hk⟩
    | inRangeFunc l => obtain ⟨rfl, _⟩ := h1; simpa only [gotoIn] using ih
    | endRangeFunc l => obtain ⟨rfl, _⟩ := h1; simpa only [gotoIn] using ih
    | call d a b c => exact h1.elim
    | extern a b => exact h1.elim
    | code c => obtain rfl : b = .code c := h1; simpa only [gotoIn] using ih
    | inLoop c => obtain rfl : b = .inLoop c := h1; simpa only [gotoIn] using ih
    | inBlock c => obtain rfl : b = .inBlock c := h1; simpa only [gotoIn] using ih
    | inRegion o l => obtain rfl : b = .inRegion o l := h1; simpa only [gotoIn] using ih
    | beginRound => obtain rfl : b = .beginRound := h1; simpa only [gotoIn] using ih
  | [], _ :: _, h => h.elim
  | _ :: _, [], h => h.elim

theorem evT_rel {i : Ren} {n size : Nat} {t : Tr Value} {a : Act} (h : XRel i n size t a.tmps) (gi : Idn i n) {x : Operand} (hx : okX x = true) : VRel i n (evT t x) (a.eval x) := by
  cases x with
  | tmp t => exact h.2 t
  | const v => exact VRel.of_flat i n v hx
  | global g =>
    have hg : g < GL := by simpa [okX, Nat.blt_eq] using hx
    have h1 : VRel i n (.pointer (some ⟨g, 0, none⟩)) (.pointer (some (i.addr ⟨g, 0, none⟩))) := .ptr _ (by show g < n; have := gi.1; omega)
    have h2 : i.addr ⟨g, 0, none⟩ = ⟨g, 0, none⟩ := by unfold Ren.addr; rw [gi.2 g hg]
    rw [h2] at h1
    exact h1
  | func f => exact .func (.func f) #[] #[] #[] #[] trivial rfl (fun j => by simpa using VRel.undef i n) rfl (fun j => by simpa using VRel.undef i n)

/-- A running frame, written as the library's steps want it. -/
theorem frame_atR {f : Frame} (h : f.mode = .run) : f = f.atR ⟨f.tmps, f.defers⟩ f.todo := by
  obtain ⟨a, b, c, d, e, g, r⟩ := f
  simp only at h
  subst h
  rfl

end Go.Proofs.Ev
