/-
  AN EVALUATOR OF CLOSED CALLS, PART 21: regions whose order is drawn, whose ends differ in the numbers of new blocks alone. It holds for every program; no statement is proved here.
-/
import Derived.Test.YtpjeaajjlkgekaaDoorEv20
noncomputable section
namespace Go.Proofs.Ev
open Go.RowKit
set_option linter.unusedVariables false
set_option linter.unusedSimpArgs false

def eqK : IntKind → IntKind → Bool
  | .i64, .i64 => true
  | .u64, .u64 => true
  | .u8, .u8 => true
  | .i32, .i32 => true
  | .u32, .u32 => true
  | .i8, .i8 => true
  | .u16, .u16 => true
  | .i16, .i16 => true
  | _, _ => false
theorem eqK_eq {a b : IntKind} (h : eqK a b = true) : a = b := by cases a <;> cases b <;> first | rfl | cases h
def eqB : List UInt8 → List UInt8 → Bool
  | [], [] => true
  | a :: as, b :: bs => Nat.beq a.toNat b.toNat && eqB as bs
  | _, _ => false
theorem eqB_eq : ∀ {as bs : List UInt8}, eqB as bs = true → as = bs
  | [], [], _ => rfl
  | a :: as, b :: bs, h => by
    simp only [eqB, Bool.and_eq_true] at h
    rw [UInt8.toNat_inj.1 (Nat.eq_of_beq_eq_true h.1), eqB_eq h.2]
  | [], _ :: _, h => by cases h
  | _ :: _, [], h => by cases h

/-- The other number of a block. -/
def renB (n0 : Nat) (m : Tr Nat) (b : Nat) : Nat := match Nat.blt b n0 with
  | true => b
  | false => match m.get b with
    | some c => c
    | none => b
theorem renB_old {n0 : Nat} {m : Tr Nat} {b : Nat} (h : b < n0) : renB n0 m b = b := by
  unfold renB
  rw [show Nat.blt b n0 = true by simpa [Nat.blt_eq] using h]
theorem renB_new {n0 : Nat} {m : Tr Nat} {b c : Nat} (h : n0 ≤ b) (hc : m.get b = some c) : renB n0 m b = c := by
  unfold renB
  rw [show Nat.blt b n0 = false by rw [Bool.eq_false_iff, ne_eq, Nat.blt_eq]; omega]
  simp only [hc]
/-- The renaming by which the one end stands for what the other one stands for. -/
def Ren.thru (i : Ren) (n0 : Nat) (m : Tr Nat) : Ren := ⟨fun b => i.blk (renB n0 m b), fun b => i.grow (renB n0 m b)⟩

def eqRAd (n0 n1 : Nat) (m : Tr Nat) (a b : Addr) : Bool := Nat.blt a.block n1 && Nat.beq b.block (renB n0 m a.block) && Nat.beq a.off b.off && eqSp a.spot b.spot
def eqR0 (n0 n1 : Nat) (m : Tr Nat) : Value → Value → Bool
  | .int k a, .int k' b => eqK k k' && a == b
  | .bool a, .bool b => a == b
  | .string a, .string b => eqB a.data.toList b.data.toList
  | .pointer none, .pointer none => true
  | .pointer (some a), .pointer (some b) => eqRAd n0 n1 m a b
  | .slice (some a) l c, .slice (some b) l' c' => eqRAd n0 n1 m a b && Nat.beq l l' && Nat.beq c c'
  | .slice none l c, .slice none l' c' => Nat.beq l l' && Nat.beq c c'
  | .map none, .map none => true
  | .map (some a), .map (some b) => Nat.blt a n1 && Nat.beq b (renB n0 m a)
  | .nilIface, .nilIface => true
  | .nilFunc, .nilFunc => true
  | _, _ => false
def eqRF (n0 n1 : Nat) (m : Tr Nat) : Fn → Fn → Bool
  | .func k, .func k' => Nat.beq k k'
  | .yield l, .yield l' => Nat.blt l n1 && Nat.beq l' (renB n0 m l)
  | _, _ => false
def eqRin (n0 n1 : Nat) (m : Tr Nat) (f : Value → Value → Bool) : Value → Value → Bool
  | .tuple xs, .tuple ys => eqLW f xs.toList ys.toList
  | .agg xs, .agg ys => eqLW f xs.toList ys.toList
  | .func fn xs cs, .func fn' ys ds => eqRF n0 n1 m fn fn' && eqLW f xs.toList ys.toList && eqLW f cs.toList ds.toList
  | .iface t v, .iface t' v' => Nat.beq t t' && f v v'
  | a, b => f a b
def eqI : Int → Int → Bool
  | .ofNat a, .ofNat b => Nat.beq a b
  | .negSucc a, .negSucc b => Nat.beq a b
  | _, _ => false
theorem eqI_eq : ∀ {a b : Int}, eqI a b = true → a = b
  | .ofNat a, .ofNat b, h => by rw [Nat.eq_of_beq_eq_true h]
  | .negSucc a, .negSucc b, h => by rw [Nat.eq_of_beq_eq_true h]
  | .ofNat _, .negSucc _, h => by cases h
  | .negSucc _, .ofNat _, h => by cases h
def eqInt2 (k : IntKind) (a : Int) : Value → Bool
  | .int k' b => eqK k k' && eqI a b
  | _ => false
def eqDeep (n0 n1 : Nat) (m : Tr Nat) : Value → Value → Bool := eqRin n0 n1 m (eqRin n0 n1 m (eqRin n0 n1 m (eqR0 n0 n1 m)))
def eqR (n0 n1 : Nat) (m : Tr Nat) : Value → Value → Bool
  | .int k a, v' => eqInt2 k a v'
  | v, v' => eqDeep n0 n1 m v v'

section
variable {n0 n1 N : Nat} {m : Tr Nat} {i : Ren}
/-- What the second value stands for, the first one does. -/
def Thru (i : Ren) (N n0 n1 : Nat) (m : Tr Nat) (f : Value → Value → Bool) : Prop := ∀ v v' a, f v v' = true → VRel i N v' a → VRel (i.thru n0 m) n1 v a

theorem eqRAd_ok {a b : Addr} (h : eqRAd n0 n1 m a b = true) : a.block < n1 ∧ b = { a with block := renB n0 m a.block } := by
  obtain ⟨a1, a2, a3⟩ := a
  obtain ⟨b1, b2, b3⟩ := b
  simp only [eqRAd, Bool.and_eq_true] at h
  obtain ⟨⟨⟨h0, h1⟩, h2⟩, h3⟩ := h
  refine ⟨by simpa [Nat.blt_eq] using h0, ?_⟩
  rw [Nat.eq_of_beq_eq_true h1, ← Nat.eq_of_beq_eq_true h2, ← eqSp_eq h3]
theorem eqR0_ok : Thru i N n0 n1 m (eqR0 n0 n1 m) := by
  intro v v' a h hv
  have leaf : ∀ u : Value, flat1 u = true → v = u → v' = u → VRel (i.thru n0 m) n1 v a := fun u hu e1 e2 => by
    subst e1 e2
    have := VRel.eq_of_flat (by cases v' <;> first | exact hu | (simp [flat1] at hu)) hv
    rw [this]
    exact .one _ hu
  unfold eqR0 at h
  split at h
  · simp only [Bool.and_eq_true, beq_iff_eq] at h
    exact leaf _ rfl rfl (by rw [eqK_eq h.1, h.2])
  · simp only [beq_iff_eq] at h
    exact leaf _ rfl rfl (by rw [h])
  · rename_i x y
    obtain ⟨⟨x⟩⟩ := x
    obtain ⟨⟨y⟩⟩ := y
    have := eqB_eq h
    simp only at this
    exact leaf _ rfl rfl (by rw [this])
  · exact leaf _ rfl rfl rfl
  · obtain ⟨h1, rfl⟩ := eqRAd_ok h
    cases hv with
    | one _ hf => simp [flat1] at hf
    | ptr _ _ => exact .ptr _ h1
  · simp only [Bool.and_eq_true] at h
    obtain ⟨h1, rfl⟩ := eqRAd_ok h.1.1
    rw [← Nat.eq_of_beq_eq_true h.1.2, ← Nat.eq_of_beq_eq_true h.2] at hv
    cases hv with
    | one _ hf => simp [flat1] at hf
    | slice _ _ _ _ => exact .slice _ _ _ h1
  · simp only [Bool.and_eq_true] at h
    exact leaf _ rfl rfl (by rw [Nat.eq_of_beq_eq_true h.1, Nat.eq_of_beq_eq_true h.2])
  · exact leaf _ rfl rfl rfl
  · simp only [Bool.and_eq_true] at h
    have h1 := h.1
    rw [Nat.blt_eq] at h1
    rw [Nat.eq_of_beq_eq_true h.2] at hv
    cases hv with
    | one _ hf => simp [flat1] at hf
    | map _ _ => exact .map _ h1
  · exact leaf _ rfl rfl rfl
  · exact leaf _ rfl rfl rfl
  · cases h
theorem eqLW_ok {f : Value → Value → Bool} (hf : Thru i N n0 n1 m f) : ∀ {xs ys : List Value}, eqLW f xs ys = true → xs.length = ys.length ∧ ∀ (j : Nat) (a : Value), VRel i N (ys.getD j undef) a → VRel (i.thru n0 m) n1 (xs.getD j undef) a
  | [], [], _ => ⟨rfl, fun j a h => by
    have e : a = undef := (VRel.undef i N).unique a (by simpa using h)
    subst e
    simpa using (VRel.undef (i.thru n0 m) n1)⟩
  | x :: xs, y :: ys, h => by
    simp only [eqLW, Bool.and_eq_true] at h
    obtain ⟨e, k⟩ := eqLW_ok hf h.2
    refine ⟨by simp [e], fun j a ha => ?_⟩
    cases j with
    | zero => exact hf _ _ _ h.1 (by simpa using ha)
    | succ j => simpa using k j a (by simpa using ha)
  | [], _ :: _, h => by cases h
  | _ :: _, [], h => by cases h
theorem getD_list (xs : Array Value) (j : Nat) : xs.getD j undef = xs.toList.getD j undef := by
  simp [Array.getD_eq_getD_getElem?, List.getD]
theorem eqLW_arr {f : Value → Value → Bool} (hf : Thru i N n0 n1 m f) {xs ys : Array Value} (h : eqLW f xs.toList ys.toList = true) : xs.size = ys.size ∧ ∀ (j : Nat) (a : Value), VRel i N (ys.getD j undef) a → VRel (i.thru n0 m) n1 (xs.getD j undef) a := by
  obtain ⟨e, k⟩ := eqLW_ok hf h
  refine ⟨by simpa using e, fun j a ha => ?_⟩
  rw [getD_list] at ha ⊢
  exact k j a ha
theorem eqRin_ok {f : Value → Value → Bool} (hf : Thru i N n0 n1 m f) : Thru i N n0 n1 m (eqRin n0 n1 m f) := by
  intro v v' a h hv
  unfold eqRin at h
  split at h
  · obtain ⟨e, k⟩ := eqLW_arr hf h
    cases hv with
    | one _ hf => simp [flat1] at hf
    | tuple _ zs hs hx => exact .tuple _ _ (by omega) fun j hj => k j _ (hx j (by omega))
  · obtain ⟨e, k⟩ := eqLW_arr hf h
    cases hv with
    | one _ hf => simp [flat1] at hf
    | agg _ zs hs hx => exact .agg _ _ (by omega) fun j => k j _ (hx j)
  · simp only [Bool.and_eq_true] at h
    obtain ⟨e, k⟩ := eqLW_arr hf h.1.2
    obtain ⟨e2, k2⟩ := eqLW_arr hf h.2
    cases hv with
    | one _ hf => simp [flat1] at hf
    | func fn2 _ zs _ cs hfn hs hx hs2 hx2 =>
      have h0 := h.1.1
      unfold eqRF at h0
      split at h0
      · rw [← Nat.eq_of_beq_eq_true h0]
        exact .func (.func _) _ _ _ _ trivial (by omega) (fun j => k j _ (hx j)) (by omega) (fun j => k2 j _ (hx2 j))
      · rename_i l l'
        simp only [Bool.and_eq_true] at h0
        have h1 : l < n1 := by simpa [Nat.blt_eq] using h0.1
        rw [Nat.eq_of_beq_eq_true h0.2]
        exact .func (.yield l) _ _ _ _ h1 (by omega) (fun j => k j _ (hx j)) (by omega) (fun j => k2 j _ (hx2 j))
      · cases h0
  · simp only [Bool.and_eq_true] at h
    rw [← Nat.eq_of_beq_eq_true h.1] at hv
    cases hv with
    | one _ hf => simp [flat1] at hf
    | iface _ _ w hw => exact .iface _ _ _ (hf _ _ _ h.2 hw)
  · exact hf _ _ _ h hv
theorem eqDeep_ok : Thru i N n0 n1 m (eqDeep n0 n1 m) := eqRin_ok (eqRin_ok (eqRin_ok eqR0_ok))
theorem eqR_ok : Thru i N n0 n1 m (eqR n0 n1 m) := by
  intro v v' a h hv
  unfold eqR at h
  split at h
  · unfold eqInt2 at h
    split at h
    · simp only [Bool.and_eq_true] at h
      rw [← eqK_eq h.1, ← eqI_eq h.2] at hv
      have := VRel.eq_of_flat rfl hv
      rw [this]
      exact .one _ rfl
    · cases h
  · exact eqDeep_ok _ _ _ h hv

def eqUE (n0 n1 : Nat) (m : Tr Nat) : List Deferred → List Deferred → Bool
  | [], [] => true
  | x :: xs, y :: ys => (match x.args.toList, y.args.toList with
    | [.int .i64 a, v], [.int .i64 b, u] => eqI a b && eqR n0 n1 m v u
    | _, _ => false) && eqUE n0 n1 m xs ys
  | _, _ => false
def UE2 (i : Ren) (N n0 n1 : Nat) (m : Tr Nat) (x y : Deferred) : Prop := ∀ e : MapEntry, UE i N y e → UE (i.thru n0 m) n1 x e
theorem eqUE_ok : ∀ {xs ys : List Deferred}, eqUE n0 n1 m xs ys = true → (∀ x ∈ xs, ∃ y ∈ ys, UE2 i N n0 n1 m x y) ∧ (∀ y ∈ ys, ∃ x ∈ xs, UE2 i N n0 n1 m x y)
  | [], [], _ => ⟨fun _ h => (nomatch h), fun _ h => (nomatch h)⟩
  | x :: xs, y :: ys, h => by
    simp only [eqUE, Bool.and_eq_true] at h
    obtain ⟨h1, h2⟩ := h
    obtain ⟨k1, k2⟩ := eqUE_ok h2
    have hxy : UE2 i N n0 n1 m x y := by
      split at h1
      · rename_i a v b u ha hb
        simp only [Bool.and_eq_true] at h1
        intro e he
        obtain ⟨c, z, q1, q2, q3⟩ := he
        rw [q1] at hb
        simp only [List.cons.injEq, Value.int.injEq, true_and, and_true] at hb
        obtain ⟨rfl, rfl⟩ := hb
        exact ⟨a, v, by rw [← ha], by rw [q2, eqI_eq h1.1], eqR_ok _ _ _ h1.2 q3⟩
      · cases h1
    exact ⟨fun z hz => by
        rcases List.mem_cons.1 hz with rfl | hz
        · exact ⟨y, List.mem_cons_self, hxy⟩
        · obtain ⟨q, hq, g⟩ := k1 z hz
          exact ⟨q, List.mem_cons_of_mem _ hq, g⟩,
      fun z hz => by
        rcases List.mem_cons.1 hz with rfl | hz
        · exact ⟨x, List.mem_cons_self, hxy⟩
        · obtain ⟨q, hq, g⟩ := k2 z hz
          exact ⟨q, List.mem_cons_of_mem _ hq, g⟩⟩
  | [], _ :: _, h => by cases h
  | _ :: _, [], h => by cases h
def eqRO (n0 n1 : Nat) (m : Tr Nat) : Option Obj → Option Obj → Bool
  | some (.cells xs e fr), some (.cells ys e' fr') => eqLW (eqR n0 n1 m) xs.toList ys.toList && Nat.beq e e' && Nat.beq fr.1 fr'.1 && Nat.beq fr.2 fr'.2
  | some (.deferred none), some (.deferred none) => true
  | some (.deferred (some [])), some (.deferred (some [])) => true
  | some (.deferred (some (d :: ds))), some (.deferred (some (d' :: ds'))) => eqUE n0 n1 m (d :: ds) (d' :: ds')
  | _, _ => false
theorem eqRO_ok {P : Program} {b c : Nat} {o : Obj} {o2 : Option Obj} (h : eqRO n0 n1 m (some o) o2 = true) (hc : renB n0 m b = c) :
    ∃ q, o2 = some q ∧ solid q = solid o ∧ ∀ x, ORel P i N c q x → ORel P (i.thru n0 m) n1 b o x := by
  unfold eqRO at h
  split at h
  · rename_i xs e fr ys e' fr' ho
    injection ho with ho
    subst ho
    simp only [Bool.and_eq_true] at h
    obtain ⟨⟨⟨h1, h2⟩, h3⟩, h4⟩ := h
    obtain ⟨hs, k⟩ := eqLW_arr (i := i) (N := N) eqR_ok h1
    have e2 := Nat.eq_of_beq_eq_true h2
    have e3 : fr = fr' := Prod.ext (Nat.eq_of_beq_eq_true h3) (Nat.eq_of_beq_eq_true h4)
    subst e2 e3
    refine ⟨_, rfl, by simp [solid, hs], fun x hx => ?_⟩
    obtain ⟨ds, fr', rfl, g1, g2, g3, g4⟩ := hx
    exact ⟨ds, fr', rfl, by omega, fun j hj => k j _ (g2 j (by omega)), g3, fun hf => by show ds.size = i.grow (renB n0 m b) * _; rw [hc]; exact g4 hf⟩
  · rename_i ho
    injection ho with ho
    subst ho
    exact ⟨_, rfl, rfl, fun x hx => hx⟩
  · rename_i ho
    injection ho with ho
    subst ho
    exact ⟨_, rfl, rfl, fun x hx => hx⟩
  · rename_i d ds d' ds' ho
    injection ho with ho
    subst ho
    obtain ⟨k1, k2⟩ := eqUE_ok (i := i) (N := N) h
    refine ⟨_, rfl, rfl, fun x hx => ?_⟩
    obtain ⟨fs, ck, rfl, a1, a2⟩ := hx
    refine ⟨fs, ck, rfl, fun e he => ?_, fun y hy => ?_⟩
    · obtain ⟨y, hy, hue⟩ := a1 e he
      obtain ⟨z, hz, g⟩ := k2 y hy
      exact ⟨z, hz, g e hue⟩
    · obtain ⟨z, hz, g⟩ := k1 y hy
      obtain ⟨e, he, hue⟩ := a2 z hz
      exact ⟨e, he, g e hue⟩
  · cases h
end

/-- From a number on, so many. -/
def allFrom (p : Nat → Bool) : Nat → Nat → Bool
  | 0, _ => true
  | n + 1, b => p b && allFrom p n (Nat.succ b)
theorem allFrom_spec {p : Nat → Bool} : ∀ {n b : Nat}, allFrom p n b = true → ∀ k, b ≤ k → k < b + n → p k = true
  | 0, b, _, k, h1, h2 => by omega
  | n + 1, b, h, k, h1, h2 => by
    simp only [allFrom, Bool.and_eq_true] at h
    by_cases e : k = b
    · rw [e]; exact h.1
    · exact allFrom_spec h.2 k (by omega) (by simp only [Nat.succ_eq_add_one]; omega)

/-! ### Which block is which: found, not trusted -/
def bearsA : Value → Bool
  | .pointer (some _) | .slice (some _) _ _ | .map (some _) | .func _ _ _ | .iface _ _ | .agg _ | .tuple _ => true
  | _ => false
def pairsV : List Value → List Value → List (Value × Value) → List (Value × Value)
  | a :: as, b :: bs, r => match bearsA a with
    | true => (a, b) :: pairsV as bs r
    | false => pairsV as bs r
  | _, _, r => r
inductive Par where
  | blk (a b : Nat)
  | more (l : List (Value × Value))
  | no
def parOf (r : List (Value × Value)) : Value → Value → Par
  | .pointer (some a), .pointer (some b) => .blk a.block b.block
  | .slice (some a) _ _, .slice (some b) _ _ => .blk a.block b.block
  | .map (some a), .map (some b) => .blk a b
  | .func (.yield l) xs cs, .func (.yield l') ys ds => .more ((.map (some l), .map (some l')) :: pairsV xs.toList ys.toList (pairsV cs.toList ds.toList r))
  | .func _ xs cs, .func _ ys ds => .more (pairsV xs.toList ys.toList (pairsV cs.toList ds.toList r))
  | .iface _ v, .iface _ v' => .more ((v, v') :: r)
  | .agg xs, .agg ys => .more (pairsV xs.toList ys.toList r)
  | .tuple xs, .tuple ys => .more (pairsV xs.toList ys.toList r)
  | _, _ => .no
def kidsO (r : List (Value × Value)) : Option Obj → Option Obj → List (Value × Value)
  | some (.cells xs _ _), some (.cells ys _ _) => pairsV xs.toList ys.toList r
  | some (.deferred (some ds)), some (.deferred (some ds')) => pairsV (ds.map (fun d => match d.args.toList with | [_, v] => v | _ => undef)) (ds'.map (fun d => match d.args.toList with | [_, v] => v | _ => undef)) r
  | _, _ => r
def uni (n0 : Nat) (p q : AH) : Nat → List (Value × Value) → Tr Nat → Tr Nat → Tr Nat × Tr Nat
  | 0, _, m, k => (m, k)
  | _ + 1, [], m, k => (m, k)
  | f + 1, (v, v') :: r, m, k => match parOf r v v' with
    | .no => uni n0 p q f r m k
    | .more l => uni n0 p q f l m k
    | .blk a b => match Nat.blt a n0 with
      | true => uni n0 p q f r m k
      | false => match m.get a with
        | some _ => uni n0 p q f r m k
        | none => uni n0 p q f (kidsO r (p.obj a) (q.obj b)) (m.put a b) (k.put b a)
def uniE (size n0 : Nat) (p q : Tr Value × AH) : Tr Nat × Tr Nat := uni n0 p.2 q.2 4000 (pairsV (listT p.1 size []) (listT q.1 size []) []) .e .e

def someEq (x : Option Nat) (b : Nat) : Bool := match x with
  | some c => Nat.beq c b
  | none => false
def isoAt (n0 n1 : Nat) (D m k : Tr Nat) (p q : AH) (b : Nat) : Bool := match D.get b with
  | none => true
  | some _ => match m.get b with
    | none => false
    | some c => Nat.ble n0 c && someEq (k.get c) b && eqRO n0 n1 m (p.obj b) (q.obj c)
/-- The second end is the first one but for the numbers of new blocks. -/
def isoM (size n0 : Nat) (D : Tr Nat) (p q : Tr Value × AH) : Tr Nat × Tr Nat → Bool
  | (m, k) => Nat.ble n0 p.2.n && allFrom (fun j => eqR n0 p.2.n m (val p.1 j) (val q.1 j)) size 0 && allFrom (isoAt n0 p.2.n D m k p.2 q.2) (Nat.sub p.2.n n0) n0
def isoQ (size n0 : Nat) (D : Tr Nat) (p q : Tr Value × AH) : Bool := isoM size n0 D p q (uniE size n0 p q)

def overlay (D : Tr Nat) (h1 : AH) : Nat → Nat → Tr Obj → Tr Obj
  | 0, _, t => t
  | n + 1, b, t => match D.get b with
    | some _ => match h1.obj b with
      | some o => overlay D h1 n (Nat.succ b) (t.put b o)
      | none => overlay D h1 n (Nat.succ b) t
    | none => overlay D h1 n (Nat.succ b) t
theorem overlay_get (D : Tr Nat) (h1 : AH) : ∀ (n b k : Nat) (t : Tr Obj), (overlay D h1 n b t).get k = if b ≤ k ∧ k < b + n ∧ (D.get k).isSome = true ∧ (h1.obj k).isSome = true then h1.obj k else t.get k
  | 0, b, k, t => by rw [if_neg (by omega)]; rfl
  | n + 1, b, k, t => by
    unfold overlay
    have hstep : ∀ t' : Tr Obj, (b = k → (D.get k).isSome = true ∧ (h1.obj k).isSome = true → t'.get k = h1.obj k) → (¬ (b = k ∧ (D.get k).isSome = true ∧ (h1.obj k).isSome = true) → t'.get k = t.get k) →
        (overlay D h1 n (Nat.succ b) t').get k = if b ≤ k ∧ k < b + (n + 1) ∧ (D.get k).isSome = true ∧ (h1.obj k).isSome = true then h1.obj k else t.get k := fun t' e1 e2 => by
      rw [overlay_get D h1 n (Nat.succ b) k t']
      by_cases hD : (D.get k).isSome = true ∧ (h1.obj k).isSome = true
      · by_cases hk : b = k
        · rw [if_neg (by simp only [Nat.succ_eq_add_one]; omega), if_pos ⟨by omega, by omega, hD.1, hD.2⟩, e1 hk hD]
        · rw [e2 (fun h => hk h.1)]
          by_cases h2 : b < k ∧ k < b + (n + 1)
          · rw [if_pos ⟨by simp only [Nat.succ_eq_add_one]; omega, by simp only [Nat.succ_eq_add_one]; omega, hD.1, hD.2⟩, if_pos ⟨by omega, by omega, hD.1, hD.2⟩]
          · rw [if_neg (by simp only [Nat.succ_eq_add_one]; omega), if_neg (by omega)]
      · rw [if_neg (fun h => hD h.2.2), if_neg (fun h => hD h.2.2), e2 (fun h => hD h.2)]
    split
    · rename_i c hc
      split
      · rename_i o ho
        refine hstep _ (fun e _ => ?_) (fun e => ?_)
        · subst e
          rw [Tr.get_put, if_pos rfl, ho]
        · rw [Tr.get_put]
          by_cases hk : k = b
          · subst hk
            exact absurd ⟨rfl, by rw [hc]; rfl, by rw [ho]; rfl⟩ e
          · rw [if_neg hk]
      · rename_i ho
        refine hstep _ (fun e h => ?_) (fun _ => rfl)
        subst e
        rw [ho] at h
        simp at h
    · rename_i hc
      refine hstep _ (fun e h => ?_) (fun _ => rfl)
      subst e
      rw [hc] at h
      simp at h
/-- The first end over the heap that was there. -/
def repH (h : AH) (D : Tr Nat) (p : AH) : AH := { n := p.n, t := overlay D p (Nat.sub p.n h.n) h.n h.t, ro := h.ro }
def repT (size : Nat) (t : Tr Value) : Tr Value := Tr.lay (listT t size []) 0 .e

section
variable {P : Program} {w0 : World}
theorem iso_end {size : Nat} {i i' : Ren} {h : AH} {D : Tr Nat} {p q : Tr Value × AH} {w w' : World} {ys : Array Value} (s : Sat P i h w0 w) (g1 : i.le i' h.n) (g2 : Keep { h with ro := h.n } q.2) (g3 : Sat P i' q.2 w0 w') (g4 : XRel i' q.2.n size q.1 ys)
    (hc : isoQ size h.n D p q = true) : ∃ i'', i.le i'' h.n ∧ Keep h (repH h D p.2) ∧ Sat P i'' (repH h D p.2) w0 w' ∧ XRel i'' (repH h D p.2).n size (repT size p.1) ys := by
  unfold isoQ at hc
  generalize uniE size h.n p q = mk at hc
  obtain ⟨m, k⟩ := mk
  simp only [isoM, Bool.and_eq_true] at hc
  obtain ⟨⟨hn, hv⟩, hb⟩ := hc
  have hn' : h.n ≤ p.2.n := Nat.le_of_ble_eq_true hn
  have hle : i.le (i'.thru h.n m) h.n := ⟨fun b hb => by show i'.blk (renB h.n m b) = _; rw [renB_old hb]; exact g1.blk b hb, fun b hb => by show i'.grow (renB h.n m b) = _; rw [renB_old hb]; exact g1.grow b hb⟩
  have sb : Sat P i h w0 w' := s.back g3 g1 g2.n (fun b hb => g2.old b hb)
  have old : ∀ b o, h.obj b = some o → b < h.n := fun b o ho => (s.obj b o ho).1
  have hob : ∀ b, (repH h D p.2).obj b = if h.n ≤ b ∧ b < p.2.n ∧ (D.get b).isSome = true ∧ (p.2.obj b).isSome = true then p.2.obj b else h.obj b := fun b => by
    show (overlay D p.2 (Nat.sub p.2.n h.n) h.n h.t).get b = _
    rw [overlay_get]
    have e : h.n + Nat.sub p.2.n h.n = p.2.n := by simp only [Nat.sub_eq]; omega
    rw [e]
    rfl
  have new : ∀ b o, (repH h D p.2).obj b = some o → (b < h.n ∧ h.obj b = some o) ∨ (h.n ≤ b ∧ b < p.2.n ∧ p.2.obj b = some o ∧ ∃ c, m.get b = some c ∧ h.n ≤ c ∧ k.get c = some b ∧ eqRO h.n p.2.n m (some o) (q.2.obj c) = true) := fun b o ho => by
    rw [hob] at ho
    split at ho
    · rename_i hh
      refine .inr ⟨hh.1, hh.2.1, ho, ?_⟩
      have := allFrom_spec hb b hh.1 (by simp only [Nat.sub_eq]; omega)
      unfold isoAt at this
      split at this
      · rename_i hd; rw [hd] at hh; simp at hh
      · split at this
        · cases this
        · rename_i c hm
          simp only [Bool.and_eq_true] at this
          obtain ⟨⟨q1, q2⟩, q3⟩ := this
          refine ⟨c, hm, Nat.le_of_ble_eq_true q1, ?_, by rw [ho] at q3; exact q3⟩
          unfold someEq at q2
          split at q2
          · rename_i b' hk; rw [hk, Nat.eq_of_beq_eq_true q2]
          · cases q2
    · exact .inl ⟨old b o ho, ho⟩
  refine ⟨i'.thru h.n m, hle, ⟨rfl, hn', fun b hbr => ?_⟩, ⟨sb.below, Nat.le_trans s.ro hn', fun b o ho => ?_, fun b c o o' hbo hco hs hs' he => ?_, s.glr, fun b hbg => ?_⟩, g4.1, fun j => ?_⟩
  · rw [hob, if_neg (by have := s.ro; omega)]
  · rcases new b o ho with ⟨h1, h2⟩ | ⟨h1, h2, h3, c, hm, hcn, hk, he⟩
    · obtain ⟨q1, q2, q3, q4⟩ := sb.obj b o h2
      rw [hle.blk b h1]
      exact ⟨Nat.lt_of_lt_of_le h1 hn', q2, q3, fun hs => let ⟨o', r1, r2⟩ := q4 hs; ⟨o', r1, r2.mono hle hn' h1⟩⟩
    · have hr := renB_new (m := m) h1 hm
      obtain ⟨o2, ho2, hso, hrel⟩ := eqRO_ok (P := P) (i := i') (N := q.2.n) (b := b) he hr
      obtain ⟨q1, q2, q3, q4⟩ := g3.obj c o2 ho2
      have hbk : (i'.thru h.n m).blk b = i'.blk c := by show i'.blk (renB h.n m b) = _; rw [hr]
      rw [hbk]
      refine ⟨h2, fun _ => q2 (Nat.le_trans (Nat.le_trans s.glr s.ro) hcn), q3, fun hs => ?_⟩
      obtain ⟨o', r1, r2⟩ := q4 (by rw [hso]; exact hs)
      exact ⟨o', r1, hrel _ r2⟩
  · have loc : ∀ b o, (repH h D p.2).obj b = some o → solid o = true → ∃ c o2, (i'.thru h.n m).blk b = i'.blk c ∧ q.2.obj c = some o2 ∧ solid o2 = true ∧ ((b < h.n ∧ c = b) ∨ (h.n ≤ b ∧ h.n ≤ c ∧ k.get c = some b)) := fun b o ho hs => by
      rcases new b o ho with ⟨h1, h2⟩ | ⟨h1, h2, h3, c, hm, hcn, hk, he⟩
      · refine ⟨b, o, by show i'.blk (renB h.n m b) = _; rw [renB_old h1], by rw [g2.old b h1]; exact h2, hs, .inl ⟨h1, rfl⟩⟩
      · have hr := renB_new (m := m) h1 hm
        obtain ⟨o2, ho2, hso, hrel⟩ := eqRO_ok (P := P) (i := i') (N := q.2.n) (b := b) he hr
        exact ⟨c, o2, by show i'.blk (renB h.n m b) = _; rw [hr], ho2, by rw [hso]; exact hs, .inr ⟨h1, hcn, hk⟩⟩
    obtain ⟨b1, ob, e1, f1, s1, l1⟩ := loc b o hbo hs
    obtain ⟨c1, oc, e2, f2, s2, l2⟩ := loc c o' hco hs'
    have := g3.inj b1 c1 ob oc f1 f2 s1 s2 (by rw [← e1, ← e2]; exact he)
    subst this
    rcases l1 with ⟨x1, x2⟩ | ⟨x1, x2, x3⟩ <;> rcases l2 with ⟨y1, y2⟩ | ⟨y1, y2, y3⟩
    · omega
    · omega
    · omega
    · rw [x3] at y3
      injection y3
  · show i'.blk (renB h.n m b) = b
    have := s.glr
    have := s.ro
    rw [renB_old (by omega)]
    exact g3.idn b hbg
  · unfold repT
    rw [val_listT]
    by_cases hj : j < size
    · rw [if_pos hj]
      exact eqR_ok _ _ _ (allFrom_spec hv j (by omega) (by omega)) (g4.2 j)
    · rw [if_neg hj]
      have : ys.getD j undef = undef := by simp [Array.getElem?_eq_none (by have := g4.1; omega : ys.size ≤ j)]
      rw [this]
      exact VRel.undef _ _
end

def isoGo (st : AS) (ds : List AD) (acs : List AF) (k : List Item) (h : AH) (p : Tr Value × AH) (L : List (Tr Value × AH)) : Tr Nat × Tr Nat → R1
  | (D, _) => match L.all (isoQ st.size h.n D p) with
    | true => nx st (repT st.size p.1) k ds acs (repH h D p.2)
    | false => .no
def drawIso (st : AS) (ds : List AD) (acs : List AF) (k : List Item) (h : AH) : Option (List (Tr Value × AH)) → R1
  | some (p :: ps) => isoGo st ds acs k h p (p :: ps) (uniE st.size h.n p p)
  | _ => .no
def drawHeldI (P : Program) (call : CallMT) (st : AS) (t : Tr Value) (ds : List AD) (acs : List AF) (h : AH) (k : List Item) (ops : Array Oper) : R1 :=
  match explB ops with
  | true => drawIso st ds acs k h (explH P call ops st.size { h with ro := h.n } ops.size 0 t { h with ro := h.n })
  | false => .no
/-- The second way where the first one has many ends. -/
def drawThen (a b : DrawT) : DrawT := fun st t ds acs h k ops => match a st t ds acs h k ops with
  | .many l => match b st t ds acs h k ops with
    | .next s => .next s
    | _ => .many l
  | r => r
def drawFin (P : Program) (vs : List GVar) (tab : TabT) (fuel : Nat) : Nat → DrawT
  | 0 => drawNo
  | n + 1 => drawThen (pickDraw3 (drawOf P (callTab vs tab (callOf P (drawFin P vs tab fuel n) fuel)))
    (drawHeldG P (callAny (callTab vs tab noCall) (callMemW (step1 P (drawFin P vs tab fuel n)) P fuel)))
    (drawLastG P (callAny (callTab vs tab noCall) (callMemW (step1 P (drawFin P vs tab fuel n)) P fuel)))
    (drawManyG P (callAny (callTab vs tab noCall) (callMemW (step1 P (drawFin P vs tab fuel n)) P fuel))))
    (drawHeldI P (callAny (callTab vs tab noCall) (callMemW (step1 P (drawFin P vs tab fuel n)) P fuel)))

section
variable {P : Program} {w0 : World}
theorem drawHeldI_rel (hN : Named P) (hM : P.follows .mixedOrders = true) {call : CallMT} (hC : CallMOk P call) {i : Ren} {cs : List Frame} {st : AS} {t : Tr Value} {ds : List AD} {acs : List AF} {h : AH} {k : List Item} {id : Nat} {ops : Array Oper} {fr : Frame} {fs : List Frame} {w : World}
    (S : SRel P i w0 cs ⟨⟨st, t, .code (.region id ops true) :: k, ds, false⟩, acs, h⟩ fr fs w) : RRel P i w0 cs h (lone fr fs w) (drawHeldI P call st t ds acs h k ops) := by
  unfold drawHeldI
  split
  · rename_i hB
    simp only [explB, Bool.and_eq_true] at hB
    have sd := S.sat.drew
    have sH : Sat P i { h with ro := h.n } w0 w.drew := ⟨sd.below, Nat.le_refl _, sd.obj, sd.inj, Nat.le_trans sd.glr sd.ro, sd.idn⟩
    cases hx : explH P call ops st.size { h with ro := h.n } ops.size 0 t { h with ro := h.n } with
    | none => trivial
    | some L =>
      cases L with
      | nil => trivial
      | cons p ps =>
        show RRel P i w0 cs h (lone fr fs w) (isoGo st ds acs k h p (p :: ps) (uniE st.size h.n p p))
        generalize uniE st.size h.n p p = DD
        obtain ⟨D, D2⟩ := DD
        show RRel P i w0 cs h (lone fr fs w) (match (p :: ps).all (isoQ st.size h.n D p) with
          | true => nx st (repT st.size p.1) k ds acs (repH h D p.2)
          | false => .no)
        split
        · rename_i hall
          obtain ⟨q, hq, hr⟩ := region_rel_many (L := [(repT st.size p.1, repH h D p.2)]) hM S hB.2 (wpAny_of_held _ _ _ _ (explH_rel hN hC hB.1 hB.2 (i0 := i) (h0 := { h with ro := h.n }) rfl _ 0 _ i t { h with ro := h.n } _ _ (p :: ps) (Over.none ops) sH (Ren.le.refl _ _) (Keep.refl _) sH S.f.tmps rfl hx
            (fun q hq i' a' w' g1 g2 g3 g4 g5 => by
              obtain ⟨i'', k1, k2, k3, k4⟩ := iso_end S.sat g1 g2 g3 g4 (List.all_eq_true.1 hall q hq)
              exact ⟨_, List.mem_singleton.2 rfl, i'', k1, k2, k3, k4, g5⟩)))
          rw [List.mem_singleton.1 hq] at hr
          exact hr
        · trivial
  · trivial
theorem drawThen_ok {a b : DrawT} (ha : DrawOk P a) (hb : DrawOk P b) : DrawOk P (drawThen a b) := by
  intro i w0 cs st t ds acs h k id ops fr fs w S
  have h1 := ha i w0 cs st t ds acs h k id ops fr fs w S
  have h2 := hb i w0 cs st t ds acs h k id ops fr fs w S
  unfold drawThen
  split
  · rename_i l he
    rw [he] at h1
    split
    · rename_i s he2
      rw [he2] at h2
      exact h2
    · exact h1
  · exact h1
theorem drawFin_ok (hN : Named P) (hM : P.follows .mixedOrders = true) {vs : List GVar} {tab : TabT} (hT : TabOk P vs tab) (fuel : Nat) : ∀ n, DrawOk P (drawFin P vs tab fuel n)
  | 0 => drawNo_ok
  | n + 1 =>
    have hD := drawFin_ok hN hM hT fuel n
    have hC := callTab_ok hT (callOf_ok hN hD fuel)
    have hC2 := callAny_ok (callTab_ok hT (fun _ _ _ _ h => by cases h)) (callMemW_ok (fun i w0 cs s fr fs w S => step1_rel hN hD S) fuel)
    drawThen_ok (pickDraw3_ok (drawOf_ok hN hM hC) (fun i w0 cs st t ds acs h k id ops fr fs w S => drawHeld_rel hN hM hC2 S) (fun i w0 cs st t ds acs h k id ops fr fs w S => drawLast_rel hN hM hC2 S) (fun i w0 cs st t ds acs h k id ops fr fs w S => drawMany_relG hN hM hC2 S))
      (fun i w0 cs st t ds acs h k id ops fr fs w S => drawHeldI_rel hN hM hC2 S)
end
end Go.Proofs.Ev
