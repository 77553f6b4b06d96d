/-
  AN EVALUATOR OF CLOSED CALLS, PART 1: a heap of its own (a tree of objects), renamings of blocks, and when a value of the evaluator stands for a value of the model. It holds for every program; no statement is proved here.
-/
import Derived.AtR
import Derived.Below
import Derived.Laws.Entries
import Derived.Laws.Cells
import Derived.MapKept
import Derived.ChangeKeysEq
import Derived.RangeFuncRecord
noncomputable section
namespace Go.Proofs.Ev
set_option linter.unusedVariables false
set_option linter.unusedSimpArgs false
open Go.RowKit

/-- A tree, read by a number: 0 is the root, odd numbers go left, even ones right. -/
inductive Tr (α : Type) where
  | e
  | nd (o : Option α) (l r : Tr α)

section
variable {α : Type}
def Tr.get (t : Tr α) : Nat → Option α :=
  Tr.rec (motive := fun _ => Nat → Option α) (fun _ => none)
    (fun o _ _ gl gr k => Nat.rec (motive := fun _ => Option α) o (fun k _ => Nat.rec (motive := fun _ => Option α) (gl (Nat.div k 2)) (fun _ _ => gr (Nat.div k 2)) (Nat.mod k 2)) k) t

def Tr.root : Tr α → Option α
  | .e => none
  | .nd o _ _ => o
def Tr.left : Tr α → Tr α
  | .e => .e
  | .nd _ l _ => l
def Tr.right : Tr α → Tr α
  | .e => .e
  | .nd _ _ r => r

/-- The first number bounds the depth. -/
def Tr.set (x : α) (f : Nat) : Tr α → Nat → Tr α :=
  Nat.rec (motive := fun _ => Tr α → Nat → Tr α) (fun t _ => t)
    (fun _ ih t k => Nat.rec (motive := fun _ => Tr α) (.nd (some x) t.left t.right)
      (fun k _ => Nat.rec (motive := fun _ => Tr α) (.nd t.root (ih t.left (Nat.div k 2)) t.right) (fun _ _ => .nd t.root t.left (ih t.right (Nat.div k 2))) (Nat.mod k 2)) k) f

theorem Tr.root_nd (o : Option α) (l r : Tr α) : (Tr.nd o l r).root = o := rfl
theorem Tr.left_nd (o : Option α) (l r : Tr α) : (Tr.nd o l r).left = l := rfl
theorem Tr.right_nd (o : Option α) (l r : Tr α) : (Tr.nd o l r).right = r := rfl

theorem parity {β : Type} (k : Nat) (a b : β) : (Nat.rec (motive := fun _ => β) a (fun _ _ => b) (Nat.mod k 2)) = if k % 2 = 0 then a else b := by
  show (Nat.rec (motive := fun _ => β) a (fun _ _ => b) (k % 2)) = _
  rcases Nat.mod_two_eq_zero_or_one k with h | h <;> rw [h] <;> rfl

theorem Tr.get_parts (t : Tr α) (k : Nat) : t.get k = match k with
    | 0 => t.root
    | k + 1 => if k % 2 = 0 then t.left.get (k / 2) else t.right.get (k / 2) := by
  cases t with
  | e => cases k <;> simp [Tr.get, Tr.root, Tr.left, Tr.right]
  | nd o l r =>
    cases k with
    | zero => rfl
    | succ k => exact parity k (l.get (k / 2)) (r.get (k / 2))

theorem Tr.set_zero (x : α) (f : Nat) (t : Tr α) : Tr.set x (f + 1) t 0 = .nd (some x) t.left t.right := rfl
theorem Tr.set_succ (x : α) (f : Nat) (t : Tr α) (k : Nat) : Tr.set x (f + 1) t (k + 1) = if k % 2 = 0 then .nd t.root (Tr.set x f t.left (k / 2)) t.right else .nd t.root t.left (Tr.set x f t.right (k / 2)) :=
  parity k _ _

theorem Tr.get_set (x : α) : ∀ (f : Nat) (t : Tr α) (k j : Nat), k < f → (Tr.set x f t k).get j = if j = k then some x else t.get j
  | 0, _, _, _, h => by omega
  | f + 1, t, 0, j, _ => by
    rw [Tr.set_zero, Tr.get_parts]
    cases j with
    | zero => simp [Tr.root]
    | succ j => rw [Tr.get_parts t]; simp [Tr.left, Tr.right]
  | f + 1, t, k + 1, j, h => by
    rw [Tr.set_succ]
    have hk : k / 2 < f := by omega
    have ihl := fun j => Tr.get_set x f t.left (k / 2) j hk
    have ihr := fun j => Tr.get_set x f t.right (k / 2) j hk
    by_cases hp : k % 2 = 0
    · rw [if_pos hp, Tr.get_parts, Tr.get_parts t]
      cases j with
      | zero => simp [Tr.root]
      | succ j =>
        simp only [Tr.left_nd, Tr.right_nd]
        by_cases hj : j % 2 = 0
        · rw [if_pos hj, if_pos hj, ihl]
          by_cases e : j = k
          · subst e; simp
          · have : j / 2 ≠ k / 2 := by omega
            simp [e, this]
        · rw [if_neg hj, if_neg hj, if_neg (by omega)]
    · rw [if_neg hp, Tr.get_parts, Tr.get_parts t]
      cases j with
      | zero => simp [Tr.root]
      | succ j =>
        simp only [Tr.left_nd, Tr.right_nd]
        by_cases hj : j % 2 = 0
        · rw [if_pos hj, if_pos hj, if_neg (by omega)]
        · rw [if_neg hj, if_neg hj, ihr]
          by_cases e : j = k
          · subst e; simp
          · have : j / 2 ≠ k / 2 := by omega
            simp [e, this]

def Tr.put (t : Tr α) (k : Nat) (x : α) : Tr α := Tr.set x (k + 1) t k
theorem Tr.get_put (t : Tr α) (k j : Nat) (x : α) : (t.put k x).get j = if j = k then some x else t.get j := Tr.get_set x (k + 1) t k j (by omega)

/-- A list laid into a tree, from a number on. -/
def Tr.lay : List α → Nat → Tr α → Tr α
  | [], _, t => t
  | x :: xs, k, t => Tr.lay xs (k + 1) (t.put k x)

theorem Tr.get_lay : ∀ (xs : List α) (k j : Nat) (t : Tr α), (Tr.lay xs k t).get j = if k ≤ j ∧ j < k + xs.length then xs[j - k]? else t.get j
  | [], k, j, t => by simp [Tr.lay]; omega
  | x :: xs, k, j, t => by
    rw [Tr.lay, Tr.get_lay xs, Tr.get_put]
    simp only [List.length_cons]
    by_cases h1 : k + 1 ≤ j ∧ j < k + 1 + xs.length
    · rw [if_pos h1, if_pos (by omega)]
      obtain ⟨m, rfl⟩ : ∃ m, j = k + 1 + m := ⟨j - (k + 1), by omega⟩
      rw [show k + 1 + m - (k + 1) = m by omega, show k + 1 + m - k = m + 1 by omega]
      simp
    · rw [if_neg h1]
      by_cases h2 : j = k
      · subst h2; rw [if_pos rfl, if_pos (by omega)]; simp
      · rw [if_neg h2, if_neg (by omega)]
end

/-! ### The program's tables, as trees -/
def typesT (P : Program) : Tr TypeInfo := Tr.lay P.types.toList 0 .e
def funcsT (P : Program) : Tr Func := Tr.lay P.funcs.toList 0 .e

theorem lay_array {α : Type} (xs : Array α) (j : Nat) : (Tr.lay xs.toList 0 .e).get j = xs[j]? := by
  rw [Tr.get_lay]
  by_cases h : j < xs.size
  · rw [if_pos (by simpa using h)]; simp
  · rw [if_neg (by simpa using h)]; simp [Tr.get, Array.getElem?_eq_none (by omega : xs.size ≤ j)]

def infoT (P : Program) (t : TypeId) : Option TypeInfo := match (typesT P).get t with
  | some i => some i
  | none => P.info? t
theorem infoT_eq (P : Program) (t : TypeId) : infoT P t = P.info? t := by
  unfold infoT
  have : (typesT P).get t = P.types[t]? := lay_array P.types t
  rw [this]
  split
  · rename_i i hi
    obtain ⟨hlt, rfl⟩ := Array.getElem?_eq_some_iff.1 hi
    simp [Tables.info?, hlt]
  · rfl
def undT (P : Program) (t : TypeId) : Option TypeDesc :=
  match infoT P t with
  | some { desc := .named _ u, .. } => (infoT P u).map (·.desc)
  | some i => some i.desc
  | none => none
theorem undT_eq (P : Program) (t : TypeId) : undT P t = P.underlying t := by
  unfold undT Program.underlying
  rw [infoT_eq]
  split <;> simp_all [infoT_eq]
def funcT (P : Program) (k : Nat) : Option Func := (funcsT P).get k
theorem funcT_eq (P : Program) (k : Nat) : funcT P k = P.funcs[k]? := lay_array P.funcs k

/-- The first blocks are those of the package's variables, under their own numbers. -/
def GL : Nat := 32

/-- The evaluator's heap: how many blocks there are, the blocks, and below which number nothing may be written. -/
structure AH where
  n : Nat
  t : Tr Obj
  ro : Nat

def AH.obj (h : AH) (b : Nat) : Option Obj := h.t.get b
def AH.put (h : AH) (b : Nat) (o : Obj) : AH := { h with t := h.t.put b o }
def AH.push (h : AH) (o : Obj) : AH := { n := h.n + 1, t := h.t.put h.n o, ro := h.ro }

theorem AH.obj_put (h : AH) (b j : Nat) (o : Obj) : (h.put b o).obj j = if j = b then some o else h.obj j := Tr.get_put h.t b j o
theorem AH.obj_push (h : AH) (j : Nat) (o : Obj) : (h.push o).obj j = if j = h.n then some o else h.obj j := Tr.get_put h.t h.n j o

/-- A capacity from here on means 'to the end of a row that may have been made longer than was asked for': it is the top, less the elements in front. -/
def top : Nat := 4722366482869645213696
def big : Nat := 2361183241434822606848

/-- A renaming: where the evaluator's blocks lie, and how many elements those have that have grown. -/
structure Ren where
  blk : Nat → Nat
  grow : Nat → Nat

def Ren.addr (i : Ren) (a : Addr) : Addr := { a with block := i.blk a.block }
def Ren.cap (i : Ren) (b c : Nat) : Nat := if big ≤ c then i.grow b - (top - c) else c
def Ren.fn (i : Ren) : Fn → Fn
  | .yield l => .yield (i.blk l)
  | f => f

/-- Values that bear no address: single ones. -/
def flat1 : Value → Bool
  | .bool _ | .int _ _ | .float _ _ | .complex _ _ _ | .string _ | .pointer none | .slice none _ _ | .map none | .chan none | .nilFunc | .nilIface => true
  | _ => false
def flat2 : Value → Bool
  | .agg cs => cs.toList.all flat1
  | v => flat1 v
/-- Values that bear no address. -/
def flat : Value → Bool
  | .tuple vs => vs.toList.all flat2
  | v => flat2 v

def fnIn (n : Nat) : Fn → Prop
  | .yield l => l < n
  | _ => True

/-- A value of the evaluator, whose blocks are below n, stands for a value of the model. -/
inductive VRel (i : Ren) (n : Nat) : Value → Value → Prop
  | one (v : Value) : flat1 v = true → VRel i n v v
  | ptr (a : Addr) : a.block < n → VRel i n (.pointer (some a)) (.pointer (some (i.addr a)))
  | slice (a : Addr) (l c : Nat) : a.block < n → VRel i n (.slice (some a) l c) (.slice (some (i.addr a)) l (i.cap a.block c))
  | map (r : Nat) : r < n → VRel i n (.map (some r)) (.map (some (i.blk r)))
  | func (fn : Fn) (xs ys cs ds : Array Value) : fnIn n fn → xs.size = ys.size → (∀ j, VRel i n (xs.getD j undef) (ys.getD j undef)) → cs.size = ds.size →
      (∀ j, VRel i n (cs.getD j undef) (ds.getD j undef)) → VRel i n (.func fn xs cs) (.func (i.fn fn) ys ds)
  | iface (t : TypeId) (v w : Value) : VRel i n v w → VRel i n (.iface t v) (.iface t w)
  | agg (xs ys : Array Value) : xs.size = ys.size → (∀ j, VRel i n (xs.getD j undef) (ys.getD j undef)) → VRel i n (.agg xs) (.agg ys)
  | tuple (xs ys : Array Value) : xs.size = ys.size → (∀ j, j < xs.size → VRel i n (xs.getD j undef) (ys.getD j undef)) → VRel i n (.tuple xs) (.tuple ys)

def ARel (i : Ren) (n : Nat) (xs ys : Array Value) : Prop := xs.size = ys.size ∧ ∀ j, VRel i n (xs.getD j undef) (ys.getD j undef)

theorem VRel.undef (i : Ren) (n : Nat) : VRel i n undef undef := .tuple #[] #[] rfl (fun j h => by simp at h)

theorem ARel.of_lt {i : Ren} {n : Nat} {xs ys : Array Value} (hs : xs.size = ys.size) (h : ∀ j, j < xs.size → VRel i n (xs.getD j undef) (ys.getD j undef)) : ARel i n xs ys := by
  refine ⟨hs, fun j => ?_⟩
  by_cases hj : j < xs.size
  · exact h j hj
  · have h1 : xs.getD j undef = undef := by simp [Array.getElem?_eq_none (by omega : xs.size ≤ j)]
    have h2 : ys.getD j undef = undef := by simp [Array.getElem?_eq_none (by omega : ys.size ≤ j)]
    rw [h1, h2]
    exact VRel.undef i n

theorem ARel.refl_of {i : Ren} {n : Nat} (xs : Array Value) (h : ∀ v ∈ xs, VRel i n v v) : ARel i n xs xs :=
  ARel.of_lt rfl fun j hj => by
    have : xs.getD j Go.undef = xs[j] := by simp [hj]
    rw [this]
    exact h _ (Array.getElem_mem hj)

theorem VRel.of_flat2 (i : Ren) (n : Nat) : ∀ v, flat2 v = true → VRel i n v v := by
  intro v h
  cases v with
  | agg cs =>
    have := ARel.refl_of (i := i) (n := n) cs fun v hv => .one v (List.all_eq_true.1 h v (by simpa using hv))
    exact .agg _ _ this.1 this.2
  | tuple vs => simp [flat2, flat1] at h
  | _ => exact .one _ h

theorem VRel.of_flat (i : Ren) (n : Nat) : ∀ v, flat v = true → VRel i n v v := by
  intro v h
  cases v with
  | tuple vs =>
    have := ARel.refl_of (i := i) (n := n) vs fun v hv => VRel.of_flat2 i n v (List.all_eq_true.1 h v (by simpa using hv))
    exact .tuple _ _ this.1 fun j _ => this.2 j
  | agg cs => exact VRel.of_flat2 i n _ h
  | _ => exact .one _ h

theorem ext_getD {xs ys : Array Value} (hs : xs.size = ys.size) (h : ∀ j, j < xs.size → xs.getD j undef = ys.getD j undef) : xs = ys := by
  apply Array.ext hs
  intro j h1 h2
  have := h j h1
  simpa [h1, h2] using this

/-- The value that is stood for is one alone. -/
theorem VRel.unique {i : Ren} {n : Nat} {v a : Value} (h : VRel i n v a) : ∀ b, VRel i n v b → b = a := by
  induction h with
  | one v hv =>
    intro b hb
    cases hb <;> first | rfl | (simp [flat1] at hv)
  | ptr a ha => intro b hb; cases hb <;> first | rfl | (rename_i hv; simp [flat1] at hv)
  | slice a l c ha => intro b hb; cases hb <;> first | rfl | (rename_i hv; simp [flat1] at hv)
  | map r hr => intro b hb; cases hb <;> first | rfl | (rename_i hv; simp [flat1] at hv)
  | func fn xs ys cs ds hf hs hx hs' hc ihx ihc =>
    intro b hb
    cases hb with
    | one _ hv => simp [flat1] at hv
    | func _ _ ys' _ ds' _ hs2 hx2 hs2' hc2 =>
      have e1 : ys' = ys := ext_getD (by omega) fun j _ => ihx j _ (hx2 j)
      have e2 : ds' = ds := ext_getD (by omega) fun j _ => ihc j _ (hc2 j)
      rw [e1, e2]
  | iface t v w hv ih =>
    intro b hb
    cases hb with
    | one _ hv => simp [flat1] at hv
    | iface _ _ w' hw => rw [ih _ hw]
  | agg xs ys hs hx ih =>
    intro b hb
    cases hb with
    | one _ hv => simp [flat1] at hv
    | agg _ ys' hs2 hx2 => rw [ext_getD (by omega) fun j _ => ih j _ (hx2 j)]
  | tuple xs ys hs hx ih =>
    intro b hb
    cases hb with
    | one _ hv => simp [flat1] at hv
    | tuple _ ys' hs2 hx2 => rw [ext_getD (by omega) fun j hj => ih j (by omega) _ (hx2 j (by omega))]

theorem VRel.eq_of_flat {i : Ren} {n : Nat} {v a : Value} (hf : flat v = true) (h : VRel i n v a) : a = v := (VRel.of_flat i n v hf).unique _ h

/-- A later renaming, which agrees with the one before below n. -/
structure Ren.le (i i' : Ren) (n : Nat) : Prop where
  blk : ∀ b, b < n → i'.blk b = i.blk b
  grow : ∀ b, b < n → i'.grow b = i.grow b

theorem Ren.le.refl (i : Ren) (n : Nat) : i.le i n := ⟨fun _ _ => rfl, fun _ _ => rfl⟩
theorem Ren.le.trans {i j k : Ren} {n m : Nat} (h : i.le j n) (h' : j.le k m) (hm : n ≤ m) : i.le k n :=
  ⟨fun b hb => (h'.blk b (by omega)).trans (h.blk b hb), fun b hb => (h'.grow b (by omega)).trans (h.grow b hb)⟩

theorem Ren.le.addr {i i' : Ren} {n : Nat} (h : i.le i' n) {a : Addr} (ha : a.block < n) : i'.addr a = i.addr a := by simp [Ren.addr, h.blk _ ha]
theorem Ren.le.cap {i i' : Ren} {n : Nat} (h : i.le i' n) {b c : Nat} (hb : b < n) : i'.cap b c = i.cap b c := by simp [Ren.cap, h.grow _ hb]
theorem Ren.le.fn {i i' : Ren} {n : Nat} (h : i.le i' n) {f : Fn} (hf : fnIn n f) : i'.fn f = i.fn f := by
  cases f with
  | yield l => simp only [Ren.fn]; rw [h.blk l hf]
  | _ => rfl

theorem VRel.mono {i i' : Ren} {n m : Nat} (h : i.le i' n) (hm : n ≤ m) {v a : Value} (hv : VRel i n v a) : VRel i' m v a := by
  induction hv with
  | one v hv => exact .one v hv
  | ptr a ha => rw [← h.addr ha]; exact .ptr a (by omega)
  | slice a l c ha => rw [← h.addr ha, ← h.cap ha]; exact .slice a l c (by omega)
  | map r hr => rw [← h.blk r hr]; exact .map r (by omega)
  | func fn xs ys cs ds hf hs hx hs' hc ihx ihc =>
    rw [← h.fn hf]
    refine .func fn xs ys cs ds ?_ hs ihx hs' ihc
    cases fn <;> simp_all [fnIn]
    omega
  | iface t v w _ ih => exact .iface t v w ih
  | agg xs ys hs _ ih => exact .agg xs ys hs ih
  | tuple xs ys hs _ ih => exact .tuple xs ys hs ih

theorem ARel.mono {i i' : Ren} {n m : Nat} (h : i.le i' n) (hm : n ≤ m) {xs ys : Array Value} (hv : ARel i n xs ys) : ARel i' m xs ys := ⟨hv.1, fun j => (hv.2 j).mono h hm⟩

theorem ARel.set {i : Ren} {n : Nat} {xs ys : Array Value} (h : ARel i n xs ys) (d : Nat) {v a : Value} (hv : VRel i n v a) : ARel i n (xs.setIfInBounds d v) (ys.setIfInBounds d a) := by
  refine ARel.of_lt (by simp [h.1]) fun j hj => ?_
  have hj' : j < xs.size := by simpa using hj
  by_cases e : d = j
  · subst e
    have h1 : (xs.setIfInBounds d v).getD d undef = v := by simp [hj']
    have h2 : (ys.setIfInBounds d a).getD d undef = a := by simp [h.1 ▸ hj']
    rw [h1, h2]; exact hv
  · have h1 : (xs.setIfInBounds d v).getD j undef = xs.getD j undef := by simp [Array.getElem?_setIfInBounds_ne e]
    have h2 : (ys.setIfInBounds d a).getD j undef = ys.getD j undef := by simp [Array.getElem?_setIfInBounds_ne e]
    rw [h1, h2]; exact h.2 j

end Go.Proofs.Ev
