/-
  AN EVALUATOR OF CLOSED CALLS, PART 3: what an operation of the evaluator stands for: loads, stores, new variables, parts of values. It holds for every program; no statement is proved here.
-/
import Derived.Test.YtpjeaajjlkgekaaDoorEv2
noncomputable section
namespace Go.Proofs.Ev
set_option linter.unusedSimpArgs false
open Go.RowKit
set_option linter.unusedVariables false

inductive OpA where
  | val (v : Value) (h : AH)
  | skip (h : AH)
  | enter (f : FuncId) (args : Array Value) (h : AH)
  | round (l : Nat) (f : FuncId) (tmps : Array Value) (assign body : Code) (h : AH)
  | many (xs : List (Value × AH))
  | no

section
variable (P : Program) (i : Ren) (h : AH) (w0 : World)
def Val (v : Value) (h' : AH) (x : Result Next) : Prop :=
  ∃ i' v' w', x = .ok (.value v') w' ∧ i.le i' h.n ∧ VRel i' h'.n v v' ∧ Sat P i' h' w0 w' ∧ Keep h h'
/-- What an answer of the evaluator says of the model's. -/
def Rep : OpA → Result Next → Prop
  | .val v h', x => Val P i h w0 v h' x
  | .skip h', x => ∃ i' w', x = .ok .skip w' ∧ i.le i' h.n ∧ Sat P i' h' w0 w' ∧ Keep h h'
  | .enter f args h', x => ∃ i' args' w', x = .ok (.enter f args') w' ∧ i.le i' h.n ∧ ARel i' h'.n args args' ∧ Sat P i' h' w0 w' ∧ Keep h h'
  | .round l f tmps assign body h', x => ∃ i' tmps' w', x = .ok (.round (i'.blk l) f tmps' assign body) w' ∧ i.le i' h.n ∧ l < h'.n ∧ ARel i' h'.n tmps tmps' ∧ Sat P i' h' w0 w' ∧ Keep h h'
  | .many xs, x => ∃ p ∈ xs, Val P i h w0 p.1 p.2 x
  | .no, _ => True
end

/-! ### What touches no memory -/
def runP {α : Type} (P : Program) : Sem α → Option α
  | .pure a => some a
  | .program k => runP P (k P)
  | .mark _ k => runP P k
  | .choose q k => if q.forced then runP P (k 0) else none
  | _ => none

theorem runP_sound {α : Type} (P : Program) (s : Sem α) : ∀ a, runP P s = some a → ∀ w, s.run P w = .ok a w := by
  induction s with
  | pure a => intro b hb w; simp [runP] at hb; subst hb; rfl
  | program k ih => intro b hb w; exact ih P b hb w
  | mark m k ih => intro b hb w; exact ih b hb w
  | choose q k ih =>
    intro b hb w
    simp only [runP] at hb
    split at hb
    · rename_i hq; simp only [Sem.run, hq, if_true]; exact ih 0 b hb w
    · cases hb
  | _ => intro b hb w; simp [runP] at hb

/-! ### Lists of values -/
def LV (i : Ren) (n : Nat) : List Value → List Value → Prop
  | [], [] => True
  | v :: vs, w :: ws => VRel i n v w ∧ LV i n vs ws
  | _, _ => False

theorem LV.length {i : Ren} {n : Nat} : ∀ {xs ys : List Value}, LV i n xs ys → ys.length = xs.length
  | [], [], _ => rfl
  | _ :: _, _ :: _, h => by simp [LV.length h.2]
  | [], _ :: _, h => h.elim
  | _ :: _, [], h => h.elim

theorem LV.get {i : Ren} {n : Nat} : ∀ {xs ys : List Value}, LV i n xs ys → ∀ j : Nat, VRel i n (xs.getD j undef) (ys.getD j undef)
  | [], [], _, j => by simp; exact VRel.undef i n
  | v :: vs, w :: ws, h, 0 => by simpa using h.1
  | v :: vs, w :: ws, h, j + 1 => by simpa using LV.get h.2 j
  | [], _ :: _, h, _ => h.elim
  | _ :: _, [], h, _ => h.elim

theorem LV.of {i : Ren} {n : Nat} : ∀ {xs ys : List Value}, ys.length = xs.length → (∀ j : Nat, j < xs.length → VRel i n (xs.getD j undef) (ys.getD j undef)) → LV i n xs ys
  | [], [], _, _ => trivial
  | v :: vs, w :: ws, hl, h => ⟨by simpa using h 0 (by simp), LV.of (by simpa using hl) fun j hj => by simpa using h (j + 1) (by simpa using hj)⟩
  | [], _ :: _, hl, _ => by simp at hl
  | _ :: _, [], hl, _ => by simp at hl

theorem ARel.list {i : Ren} {n : Nat} {xs ys : Array Value} (h : ARel i n xs ys) : LV i n xs.toList ys.toList :=
  LV.of (by simpa using h.1.symm) fun j _ => by simpa [Array.getD_eq_getD_getElem?] using h.2 j

theorem LV.array {i : Ren} {n : Nat} {xs ys : List Value} (h : LV i n xs ys) : ARel i n xs.toArray ys.toArray :=
  ⟨by simpa using h.length.symm, fun j => by simpa [Array.getD_eq_getD_getElem?] using h.get j⟩

theorem LV.append {i : Ren} {n : Nat} : ∀ {xs ys as bs : List Value}, LV i n xs ys → LV i n as bs → LV i n (xs ++ as) (ys ++ bs)
  | [], [], _, _, _, k => k
  | _ :: _, _ :: _, _, _, h, k => ⟨h.1, LV.append h.2 k⟩
  | [], _ :: _, _, _, h, _ => h.elim
  | _ :: _, [], _, _, h, _ => h.elim

theorem LV.mono {i i' : Ren} {n m : Nat} (hle : i.le i' n) (hm : n ≤ m) : ∀ {xs ys : List Value}, LV i n xs ys → LV i' m xs ys
  | [], [], _ => trivial
  | _ :: _, _ :: _, h => ⟨h.1.mono hle hm, LV.mono hle hm h.2⟩
  | [], _ :: _, h => h.elim
  | _ :: _, [], h => h.elim

theorem LV.drop {i : Ren} {n : Nat} : ∀ {xs ys : List Value} (k : Nat), LV i n xs ys → LV i n (xs.drop k) (ys.drop k)
  | [], [], k, _ => by simp [LV]
  | _ :: _, _ :: _, 0, h => h
  | _ :: _, _ :: _, k + 1, h => by simpa using LV.drop k h.2
  | [], _ :: _, _, h => h.elim
  | _ :: _, [], _, h => h.elim

theorem LV.take {i : Ren} {n : Nat} : ∀ {xs ys : List Value} (k : Nat), LV i n xs ys → LV i n (xs.take k) (ys.take k)
  | [], [], k, _ => by simp [LV]
  | _ :: _, _ :: _, 0, h => by simp [LV]
  | _ :: _, _ :: _, k + 1, h => by simpa using ⟨h.1, LV.take k h.2⟩
  | [], _ :: _, _, h => h.elim
  | _ :: _, [], _, h => h.elim

theorem ARel.extract {i : Ren} {n : Nat} {xs ys : Array Value} (h : ARel i n xs ys) (a b : Nat) : ARel i n (xs.extract a b) (ys.extract a b) := by
  have := (h.list.drop a).take (b - a)
  have e : ∀ zs : Array Value, zs.extract a b = ((zs.toList.drop a).take (b - a)).toArray := fun zs => by apply Array.ext'; simp [List.extract_eq_take_drop]
  rw [e xs, e ys]
  exact this.array

theorem ARel.push {i : Ren} {n : Nat} {xs ys : Array Value} (h : ARel i n xs ys) {v w : Value} (hv : VRel i n v w) : ARel i n (xs.push v) (ys.push w) := by
  have e : ∀ (zs : Array Value) (z : Value), zs.push z = (zs.toList ++ [z]).toArray := fun zs z => by apply Array.ext'; simp
  rw [e xs, e ys]
  exact (h.list.append (as := [v]) (bs := [w]) ⟨hv, trivial⟩).array

theorem ARel.append {i : Ren} {n : Nat} {xs ys as bs : Array Value} (h : ARel i n xs ys) (k : ARel i n as bs) : ARel i n (xs ++ as) (ys ++ bs) := by
  have e : ∀ (zs ws : Array Value), zs ++ ws = (zs.toList ++ ws.toList).toArray := fun zs ws => by apply Array.ext'; simp
  rw [e xs, e ys]
  exact (h.list.append k.list).array

/-! ### Types -/
def aggB (P : Program) (t : TypeId) : Option Bool := (undT P t).map fun | .struct _ | .array _ _ => true | _ => false
def sizeB (P : Program) (t : TypeId) : Option Nat := (infoT P t).map (·.size)
def zeroB (P : Program) (t : TypeId) : Option (Array Value) := match infoT P t with
  | some ti => match ti.zero with
    | some z => if z.cells.toList.all flat1 then some z.cells else none
    | none => none
  | none => none

theorem run_aggB {P : Program} {t : TypeId} {b : Bool} (h : aggB P t = some b) (w : World) : (isAgg t).run P w = .ok b w := by
  unfold aggB at h
  simp only [undT_eq, infoT_eq, funcT_eq] at h
  cases hu : P.underlying t with
  | none => simp [hu] at h
  | some d =>
    simp only [hu, Option.map_some, Option.some.injEq] at h
    subst h
    simp only [isAgg, Sem.run_bind, run_underlying hu, Result.andThen_ok]
    cases d <;> rfl

theorem run_sizeB {P : Program} {t : TypeId} {n : Nat} (h : sizeB P t = some n) (w : World) : (sizeOf t).run P w = .ok n w := by
  unfold sizeB at h
  simp only [undT_eq, infoT_eq, funcT_eq] at h
  cases hi : P.info? t with
  | none => simp [hi] at h
  | some ti =>
    simp only [hi, Option.map_some, Option.some.injEq] at h
    subst h
    simp [sizeOf, typeInfo, hi]

theorem sizeB_cells {P : Program} {t : TypeId} {n : Nat} (h : sizeB P t = some n) : P.cellsOf t = n := by
  unfold sizeB at h
  simp only [undT_eq, infoT_eq, funcT_eq] at h
  simp only [Program.cellsOf, h, Option.getD_some]

theorem run_zeroB {P : Program} {t : TypeId} {cs : Array Value} (h : zeroB P t = some cs) (w : World) : ∃ z : Value, (zeroValue t).run P w = .ok z w ∧ z.cells = cs ∧ cs.toList.all flat1 = true := by
  unfold zeroB at h
  simp only [undT_eq, infoT_eq, funcT_eq] at h
  cases hi : P.info? t with
  | none => simp [hi] at h
  | some ti =>
    simp only [hi] at h
    cases hz : ti.zero with
    | none => simp [hz] at h
    | some z =>
      simp only [hz] at h
      split at h
      · rename_i hf
        injection h with h
        subst h
        exact ⟨z, by simp [zeroValue, typeInfo, hi, hz], rfl, hf⟩
      · cases h

theorem ARel.flat1s {i : Ren} {n : Nat} {cs : Array Value} (h : cs.toList.all flat1 = true) : ARel i n cs cs :=
  ARel.refl_of cs fun v hv => .one v (List.all_eq_true.1 h v (by simpa using hv))

/-! ### Loads -/
def readA (h : AH) (a : Addr) (n : Nat) : Option (Array Value) :=
  match a.spot, h.obj a.block with
  | none, some (.cells cs _ _) => if ((cs.toList.drop a.off).take n).length = n then some ((cs.toList.drop a.off).take n).toArray else none
  | _, _ => none

def loadA (P : Program) (h : AH) (t : TypeId) (a : Addr) : Option Value :=
  match aggB P t, sizeB P t with
  | some true, some n => (readA h a n).map .agg
  | some false, some _ => (readA h a 1).map (·.getD 0 undef)
  | _, _ => none

theorem addr_add {i : Ren} {a : Addr} (ha : a.spot = none) (j : Nat) : (i.addr a).add j = ⟨i.blk a.block, a.off + j, none⟩ := by
  obtain ⟨b, o, s⟩ := a
  simp only at ha
  subst ha
  by_cases hj : j = 0 <;> simp [Ren.addr, Addr.add, hj]

theorem readA_sound {P : Program} {i : Ren} {h : AH} {w0 w : World} (s : Sat P i h w0 w) {a : Addr} {n : Nat} {cs : Array Value} (hr : readA h a n = some cs) :
    a.spot = none ∧ cs.size = n ∧ ∃ f : Nat → Value, (∀ j, j < n → w.cell? ((i.addr a).add j) = some (f j)) ∧ ∀ j, j < n → VRel i h.n (cs.getD j undef) (f j) := by
  unfold readA at hr
  split at hr
  · rename_i ds e fr hsp hb
    split at hr
    · rename_i hle
      injection hr with hr
      by_cases hn0 : n = 0
      · subst hn0
        subst hr
        exact ⟨hsp, by simp, fun _ => undef, fun j hj => by omega, fun j hj => by omega⟩
      have hle : a.off + n ≤ ds.size := by simp at hle; omega
      have hex : ((ds.toList.drop a.off).take n).toArray = ds.extract a.off (a.off + n) := by apply Array.ext'; simp [List.extract_eq_take_drop]
      rw [hex] at hr
      subst hr
      refine ⟨hsp, by simp; omega, fun j => (w.cell? ⟨i.blk a.block, a.off + j, none⟩).getD undef, fun j hj => ?_, fun j hj => ?_⟩
      · obtain ⟨v, hv, _⟩ := s.cell hb (j := a.off + j) (by omega)
        simp only [addr_add hsp, hv, Option.getD_some]
      · obtain ⟨v, hv, hrel, _⟩ := s.cell hb (j := a.off + j) (by omega)
        simp only [hv, Option.getD_some]
        have e1 : (ds.extract a.off (a.off + n)).getD j undef = ds.getD (a.off + j) undef := by
          have h1 : a.off + j < ds.size := by omega
          have h2 : j < min (a.off + n) ds.size - a.off := by omega
          simp [Array.getD_eq_getD_getElem?, Array.getElem?_extract, h1, h2]
        rw [e1]
        exact hrel
    · cases hr
  · cases hr

theorem readA_arel {P : Program} {i : Ren} {h : AH} {w0 w : World} (s : Sat P i h w0 w) {a : Addr} {n : Nat} {cs : Array Value} (hr : readA h a n = some cs) :
    ∃ ds, (loadCells (i.addr a) n).run P w = .ok ds w ∧ ARel i h.n cs ds := by
  obtain ⟨_, hsz, f, h1, h2⟩ := readA_sound s hr
  refine ⟨_, run_loadCells w (i.addr a) n f h1, ARel.of_lt (by simp [hsz]) fun j hj => ?_⟩
  have := h2 j (by omega)
  simpa [(by omega : j < n)] using this

theorem loadA_sound {P : Program} {i : Ren} {h : AH} {w0 w : World} (s : Sat P i h w0 w) {t : TypeId} {a : Addr} {v : Value} (hl : loadA P h t a = some v) :
    ∃ v', (loadVar t (i.addr a)).run P w = .ok v' w ∧ VRel i h.n v v' := by
  unfold loadA at hl
  split at hl
  · rename_i n ha hs
    cases hr : readA h a n with
    | none => simp [hr] at hl
    | some cs =>
      simp only [hr, Option.map_some, Option.some.injEq] at hl
      subst hl
      obtain ⟨ds, h1, h2⟩ := readA_arel s hr
      exact ⟨.agg ds, by simp [loadVar, run_aggB ha, run_sizeB hs, h1], VRel.agg' h2⟩
  · rename_i n ha hs
    cases hr : readA h a 1 with
    | none => simp [hr] at hl
    | some cs =>
      simp only [hr, Option.map_some, Option.some.injEq] at hl
      subst hl
      obtain ⟨_, hsz, f, h1, h2⟩ := readA_sound s hr
      have h3 := h1 0 (by omega)
      have e : (i.addr a).add 0 = i.addr a := by simp [Addr.add]
      rw [e] at h3
      exact ⟨f 0, by simp [loadVar, run_aggB ha, h3], h2 0 (by omega)⟩
  · cases hl

/-! ### Stores -/
def stA (h : AH) (b : Nat) : List Value → Nat → Option AH
  | [], _ => some h
  | v :: vs, j => match h.obj b with
    | some (.cells cs e fr) => if v.oneCell' && decide (j < cs.size) && decide (h.ro ≤ b) then stA (h.put b (.cells (cs.setIfInBounds j v) e fr)) b vs (j + 1) else none
    | _ => none

theorem stA_sound {P : Program} {i : Ren} {w0 : World} {a : Addr} (ha : a.spot = none) : ∀ (vs vs' : List Value) (k : Nat) (h h' : AH) (w : World), Sat P i h w0 w → LV i h.n vs vs' → stA h a.block vs (a.off + k) = some h' →
    ∃ w', (storeCells (i.addr a) vs' k).run P w = .ok () w' ∧ Sat P i h' w0 w' ∧ Keep h h' ∧ h'.n = h.n
  | [], [], k, h, h', w, s, _, hs => by
    simp only [stA, Option.some.injEq] at hs
    subst hs
    exact ⟨w, rfl, s, Keep.refl h, rfl⟩
  | v :: vs, v' :: vs', k, h, h', w, s, hv, hs => by
    simp only [stA] at hs
    split at hs
    · rename_i cs e fr hb
      split at hs
      · rename_i hc
        simp only [Bool.and_eq_true, decide_eq_true_eq] at hc
        obtain ⟨⟨h1, h2⟩, h3⟩ := hc
        have s1 := s.setCell hb h2 h3 hv.1
        have ih := stA_sound ha vs vs' (k + 1) _ h' _ s1 (by simpa [AH.put] using hv.2) (by simpa [Nat.add_assoc] using hs)
        obtain ⟨w', hrun, s', hk, hn⟩ := ih
        refine ⟨w', ?_, s', (Keep.put h3 _).trans hk, hn⟩
        obtain ⟨u, hu, _, hf⟩ := s.cell hb h2
        simp only [storeCells, Sem.run_bind, addr_add ha]
        rw [run_store P w _ v' .plain (hv.1.oneCell h1), hu]
        simp only [hf, Bool.false_eq_true, if_false, Result.andThen_ok]
        exact hrun
      · cases hs
    · cases hs
  | [], _ :: _, _, _, _, _, _, hv, _ => hv.elim
  | _ :: _, [], _, _, _, _, _, hv, _ => hv.elim

def storeA (P : Program) (h : AH) (t : TypeId) (a : Addr) (v : Value) : Option AH :=
  if a.spot.isNone && sizeB P t == some v.cells.size then stA h a.block v.cells.toList a.off else none

theorem storeA_sound {P : Program} {i : Ren} {h h' : AH} {w0 w : World} (s : Sat P i h w0 w) {t : TypeId} {a : Addr} {v v' : Value} (hv : VRel i h.n v v') (hs : storeA P h t a v = some h') :
    ∃ w', (storeVar t (i.addr a) v').run P w = .ok () w' ∧ Sat P i h' w0 w' ∧ Keep h h' ∧ h'.n = h.n := by
  unfold storeA at hs
  split at hs
  · rename_i hc
    simp only [Bool.and_eq_true, Option.isNone_iff_eq_none, beq_iff_eq] at hc
    obtain ⟨w', h1, h2⟩ := stA_sound hc.1 v.cells.toList v'.cells.toList 0 h h' w s hv.cells.list (by simpa using hs)
    refine ⟨w', ?_, h2⟩
    have hsz : v'.cells.size = v.cells.size := hv.cells.1.symm
    simp [storeVar, run_sizeB hc.2, hsz, h1]
  · cases hs

/-! ### New variables -/
def newA (h : AH) (t : TypeId) (cs : Array Value) : Value × AH := (.pointer (some ⟨h.n, 0, none⟩), h.push (.cells cs t))

theorem newRow_sat {P : Program} {i : Ren} {h : AH} {w0 w : World} (s : Sat P i h w0 w) (t : TypeId) (g : Nat) {cs ds : Array Value} (hc : ARel i h.n cs ds) :
    Sat P (i.with h.n w.heap.size g) (h.push (.cells cs t)) w0 (w.alloc (.cells ds t)) := by
  refine s.alloc g fun _ => ⟨ds, (0, 0), rfl, by have := hc.1; omega, fun j _ => (hc.2 j).mono (i.with_le _ _ _) (Nat.le_succ _), Or.inl rfl, fun he => by simp at he⟩

theorem newA_sound {P : Program} {i : Ren} {h : AH} {w0 w : World} (s : Sat P i h w0 w) (t : TypeId) {v v' : Value} (hv : VRel i h.n v v') :
    ∃ i' a w', (newVar t v').run P w = .ok a w' ∧ i.le i' h.n ∧ VRel i' (h.n + 1) (.pointer (some ⟨h.n, 0, none⟩)) (.pointer (some a)) ∧ Sat P i' (h.push (.cells v.cells t)) w0 w' ∧ Keep h (h.push (.cells v.cells t)) := by
  refine ⟨i.with h.n w.heap.size 0, ⟨w.heap.size, 0, none⟩, _, by simp [newVar, newRow], i.with_le _ _ _, ?_, newRow_sat s t 0 hv.cells, Keep.push s.ro _⟩
  have := VRel.ptr (i := i.with h.n w.heap.size 0) (n := h.n + 1) ⟨h.n, 0, none⟩ (by simp)
  simpa [Ren.addr] using this

end Go.Proofs.Ev
