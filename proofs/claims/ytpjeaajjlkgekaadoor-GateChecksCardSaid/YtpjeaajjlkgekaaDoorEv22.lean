/-
  AN EVALUATOR OF CLOSED CALLS, PART 22: regions whose order is drawn, in two parts: up to a place behind which all waits for what stands in front of it, nothing that was there is written; there the ends are made one. It holds for every program; no statement is proved here.
-/
import Derived.Test.YtpjeaajjlkgekaaDoorEv21b
noncomputable section
namespace Go.Proofs.Ev
open Go.RowKit
set_option linter.unusedVariables false
set_option linter.unusedSimpArgs false

/-- As 'wpAnyH' for the operations in front of c; behind it nothing is asked. -/
def wpAnyC (P : Program) (ops : Array Oper) (Q : Exit → Act → World → Prop) (c : Nat) (S : World → Prop) : Nat → Array Bool → Act → World → Prop
  | 0, listed, a, w => Region.ready .any ops listed = [] ∧ Q .normal a w
  | fuel + 1, listed, a, w =>
    (Region.ready .any ops listed = [] → Q .normal a w) ∧
    ∀ i ∈ Region.ready .any ops listed, wpOp P ops Q i (fun a' w' => (i < c → S w → S w') ∧ wpAnyC P ops Q c S fuel (listed.setIfInBounds i true) a' w') a w

/-- What in front of c looks at memory, or makes it. -/
def npOf (ops : Array Oper) (c : Nat) : List Nat := (List.range c).filter fun j => match ops.toList[j]? with
  | some o => !pureKind o
  | none => false
/-- What stands from b on waits for all in front of c that looks at memory. -/
def waitsAll (ops : Array Oper) (c : Nat) : Nat → Nat → Bool
  | 0, _ => true
  | n + 1, b => (match ops.toList[b]? with
    | some o => subM (maskOf (npOf ops c)) (closeM ops ops.size (maskOf (depsOf o)))
    | none => true) && waitsAll ops c n (Nat.succ b)
theorem waitsAll_spec {ops : Array Oper} {c : Nat} : ∀ {n b : Nat}, waitsAll ops c n b = true → ∀ k, b ≤ k → k < b + n → ∀ o, ops[k]? = some o → ∀ j, j ∈ npOf ops c → (closeM ops ops.size (maskOf (depsOf o))).testBit j = true
  | 0, b, _, k, h1, h2, o, ho, j, hj => by omega
  | n + 1, b, h, k, h1, h2, o, ho, j, hj => by
    simp only [waitsAll, Bool.and_eq_true] at h
    by_cases e : k = b
    · subst e
      have h3 := h.1
      rw [Array.getElem?_toList, ho] at h3
      exact (subM_eq _ _).1 h3 j (by rw [maskOf_eq, decide_eq_true_eq]; exact hj)
    · exact waitsAll_spec h.2 k (by omega) (by simp only [Nat.succ_eq_add_one]; omega) o ho j hj
def firstWrite : List Oper → Nat → Nat
  | [], k => k
  | o :: r, k => match writes o with
    | true => k
    | false => firstWrite r (Nat.succ k)
def cutFrom (ops : Array Oper) : Nat → Nat
  | 0 => 0
  | n + 1 => match waitsAll ops (Nat.succ n) (Nat.sub ops.size (Nat.succ n)) (Nat.succ n) with
    | true => Nat.succ n
    | false => cutFrom ops n
def cutPick (ops : Array Oper) (n : Nat) : List Nat → Nat
  | [] => ops.size
  | _ :: _ => n
def cutAt (ops : Array Oper) : Nat := cutPick ops (cutFrom ops (firstWrite ops.toList 0)) (npOf ops (cutFrom ops (firstWrite ops.toList 0)))
/-- The same where an append, too, counts as one that writes. -/
def writesA (o : Oper) : Bool := match o.op with
  | .call c => match c.callee with
    | .builtin .append => true
    | _ => writes o
  | _ => writes o
def firstWriteA : List Oper → Nat → Nat
  | [], k => k
  | o :: r, k => match writesA o with
    | true => k
    | false => firstWriteA r (Nat.succ k)
def cutAtA (ops : Array Oper) : Nat := cutPick ops (cutFrom ops (firstWriteA ops.toList 0)) (npOf ops (cutFrom ops (firstWriteA ops.toList 0)))
/-- A place to cut. -/
def Cuts (ops : Array Oper) (c : Nat) : Prop := ∀ k o, c ≤ k → ops[k]? = some o → ∀ j, j ∈ npOf ops c → (closeM ops ops.size (maskOf (depsOf o))).testBit j = true
theorem cutFrom_ok (ops : Array Oper) : ∀ n, Cuts ops (cutFrom ops n)
  | 0 => fun k o _ _ j hj => by simp [cutFrom, npOf] at hj
  | n + 1 => by
    unfold cutFrom
    split
    · rename_i h
      intro k o hk ho j hj
      have := (Array.getElem?_eq_some_iff.1 ho).1
      exact waitsAll_spec h k hk (by simp only [Nat.sub_eq, Nat.succ_eq_add_one] at *; omega) o ho j hj
    · exact cutFrom_ok ops n

theorem cutAt_ok (ops : Array Oper) : Cuts ops (cutAt ops) := by
  unfold cutAt
  generalize npOf ops _ = l
  cases l with
  | nil =>
    intro k o hk ho j hj
    have := (Array.getElem?_eq_some_iff.1 ho).1
    simp only [cutPick] at hk
    omega
  | cons x l => exact cutFrom_ok ops _

theorem cutAtA_ok (ops : Array Oper) : Cuts ops (cutAtA ops) := by
  unfold cutAtA
  generalize npOf ops _ = l
  cases l with
  | nil =>
    intro k o hk ho j hj
    have := (Array.getElem?_eq_some_iff.1 ho).1
    simp only [cutPick] at hk
    omega
  | cons x l => exact cutFrom_ok ops _

/-- A map's literal in front of a call. -/
def firstCall : List Oper → Nat → Nat
  | [], k => k
  | o :: r, k => match callsGo o with
    | true => k
    | false => firstCall r (Nat.succ k)
def isInsert (o : Oper) : Bool := match o.op with
  | .insert _ _ _ _ => true
  | _ => false
def cutsB (ops : Array Oper) (c : Nat) : Bool := Nat.blt c ops.size && waitsAll ops c (Nat.sub ops.size c) c
def cutAtB (ops : Array Oper) : Nat := match cutsB ops (firstCall ops.toList 0) with
  | true => firstCall ops.toList 0
  | false => 0
theorem cutAtB_ok (ops : Array Oper) : Cuts ops (cutAtB ops) := by
  unfold cutAtB
  generalize firstCall ops.toList 0 = c
  split
  · rename_i h
    simp only [cutsB, Bool.and_eq_true, Nat.blt_eq] at h
    intro k o hk ho j hj
    have := (Array.getElem?_eq_some_iff.1 ho).1
    exact waitsAll_spec h.2 k hk (by simp only [Nat.sub_eq]; omega) o ho j hj
  · intro k o _ _ j hj
    simp [npOf] at hj
def drawElse (a b : DrawT) : DrawT := fun st t ds acs h k ops => match a st t ds acs h k ops with
  | .next s => .next s
  | .many l => match b st t ds acs h k ops with
    | .next s => .next s
    | _ => .many l
  | _ => b st t ds acs h k ops
theorem drawElse_ok {P : Program} {a b : DrawT} (ha : DrawOk P a) (hb : DrawOk P b) : DrawOk P (drawElse a b) := by
  intro i w0 cs st t ds acs h k id ops fr fs w S
  have h1 := ha i w0 cs st t ds acs h k id ops fr fs w S
  have h2 := hb i w0 cs st t ds acs h k id ops fr fs w S
  unfold drawElse
  generalize a st t ds acs h k ops = r at h1 ⊢
  cases r with
  | next s => exact h1
  | many l =>
    generalize b st t ds acs h k ops = r2 at h2 ⊢
    cases r2 with
    | next s => exact h2
    | many l2 => exact h1
    | done k v h => exact h1
    | no => exact h1
  | done k v h => exact h2
  | no => exact h2
def drawWhen (p : Array Oper → Bool) (a b : DrawT) : DrawT := fun st t ds acs h k ops => match p ops with
  | true => a st t ds acs h k ops
  | false => b st t ds acs h k ops
theorem drawWhen_ok {P : Program} {p : Array Oper → Bool} {a b : DrawT} (ha : DrawOk P a) (hb : DrawOk P b) : DrawOk P (drawWhen p a b) := by
  intro i w0 cs st t ds acs h k id ops fr fs w S
  unfold drawWhen
  split
  · exact ha i w0 cs st t ds acs h k id ops fr fs w S
  · exact hb i w0 cs st t ds acs h k id ops fr fs w S

section
variable {P : Program} {ops : Array Oper} {Q : Exit → Act → World → Prop} {S : World → Prop} {c : Nat} {w0 : World}

theorem cut_listed (hc : Cuts ops c) {l : Array Bool} (hs : Shut ops l) {b : Nat} (hb : c ≤ b) (hr : b ∈ Region.ready .any ops l) {j : Nat} (hj : j ∈ npOf ops c) : l.getD j false = true := by
  obtain ⟨_, o, ho, hall⟩ := mem_ready.1 hr
  refine closeM_shut hs ops.size _ (fun k hk => ?_) j (hc b o hb ho j hj)
  rw [maskOf_eq, decide_eq_true_eq, mem_depsOf] at hk
  obtain ⟨e, he, hb, rfl⟩ := hk
  exact hall e he hb
theorem not_ready {l : Array Bool} {j : Nat} (h : l.getD j false = true) : j ∉ Region.ready .any ops l := fun hr => by
  have h2 := (mem_ready.1 hr).1
  rcases Nat.lt_or_ge j l.size with h' | h'
  · simp [h'] at h h2; rw [h] at h2; cases h2
  · simp [Array.getElem?_eq_none h'] at h

theorem wpAny_of_C : ∀ (fuel : Nat) (listed : Array Bool) (a : Act) (w : World), wpAnyC P ops Q c S fuel listed a w → wpAny P .any ops Q fuel listed a w
  | 0, _, _, _, h => h
  | fuel + 1, _, _, _, h => ⟨h.1, fun i hi => wpOp_mono (fun a' w' h' => wpAny_of_C fuel _ a' w' h'.2) (h.2 i hi)⟩
theorem wpAnyC_of : ∀ (fuel : Nat) (listed : Array Bool) (a : Act) (w : World), (∀ j, j < c → listed.getD j false = true) → wpAny P .any ops Q fuel listed a w → wpAnyC P ops Q c S fuel listed a w
  | 0, _, _, _, _, h => h
  | fuel + 1, listed, _, _, hl, h => ⟨h.1, fun i hi => wpOp_mono (fun a' w' h' => ⟨fun hic _ => absurd hi (not_ready (hl i hic)), wpAnyC_of fuel _ a' w' (fun j hj => getD_set_true (hl j hj)) h'⟩) (h.2 i hi)⟩

theorem wpAnyC_first {i : Nat} {oi : Oper} {v : Value} (hcut : Cuts ops c) (hi : ops[i]? = some oi) (hsel : ∀ (j : Nat) (o : Oper) cs b, ops[j]? = some o → o.op ≠ .select cs b)
    (hQ : ∀ k a w, Q (.panic k) (a.put oi.dst v) w → Q (.panic k) a w) (hic : i ∈ npOf ops c) :
    ∀ (fuel : Nat) (listed : Array Bool) (a : Act) (w : World), Shut ops listed →
      (∀ j oj, ops[j]? = some oj → j ≠ i → listed.getD j true = false → (∀ e ∈ oj.after, Region.binds .any e = true → e.on ≠ i) → oi.apart ops oj = true) →
      i ∈ Region.ready .any ops listed → YieldsIf P ops S oi v a → S w →
      wpAnyC P ops Q c S fuel (listed.setIfInBounds i true) (a.put oi.dst v) w → wpAnyC P ops Q c S (fuel + 1) listed a w := by
  intro fuel
  induction fuel with
  | zero =>
    intro listed a w _ _ hr hy hS H
    refine ⟨fun h => (by rw [h] at hr; cases hr), fun j hj => ?_⟩
    by_cases hji : j = i
    · subst hji; exact hy.wpOp hi hS ⟨fun _ h => h, H⟩
    · have := ready_mono hj hji
      rw [H.1] at this
      cases this
  | succ fuel ih =>
    intro listed a w hsh hfree hr hy hS H
    refine ⟨fun h => (by rw [h] at hr; cases hr), fun j hj => ?_⟩
    by_cases hji : j = i
    · subst hji; exact hy.wpOp hi hS ⟨fun _ h => h, H⟩
    · have hjc : j < c := Nat.lt_of_not_le fun e => not_ready (cut_listed hcut hsh e hj hic) hr
      have h1 := H.2 j (ready_mono hj hji)
      obtain ⟨hjun, oj, hoj, hall⟩ := mem_ready.1 hj
      have hnot : ∀ e ∈ oj.after, Region.binds .any e = true → e.on ≠ i := fun e he hb heq => by
        have h1 := hall e he hb
        rw [heq] at h1
        exact not_ready h1 hr
      have h2 := wpOp_putIf hoj (hfree j oj hoj hji hjun hnot) (fun cs b => hsel i oi cs b hi) (fun cs b => hsel j oj cs b hoj) hQ hy h1
      have hfree' : ∀ k ok, ops[k]? = some ok → k ≠ i → (listed.setIfInBounds j true).getD k true = false →
          (∀ e ∈ ok.after, Region.binds .any e = true → e.on ≠ i) → oi.apart ops ok = true := fun k ok hk hki hun hno => by
        refine hfree k ok hk hki ?_ hno
        by_cases hjk : j = k
        · subst hjk; exact hjun
        · rw [getD_set_ne true hjk] at hun; exact hun
      refine wpOp_mono (fun a' w' h3 => ⟨h3.2.1, ih (listed.setIfInBounds j true) a' w' (hsh.add hj) hfree' (ready_mono hr (Ne.symm hji)) h3.1 (h3.2.1 hjc hS) ?_⟩) h2
      rw [Array.setIfInBounds_comm _ _ hji]
      exact h3.2.2
/-- An operation that looks at no memory comes first. -/
theorem wpAnyC_pure {i : Nat} {oi : Oper} {v : Value} (hi : ops[i]? = some oi) (hsel : ∀ (j : Nat) (o : Oper) cs b, ops[j]? = some o → o.op ≠ .select cs b)
    (hQ : ∀ k a w, Q (.panic k) (a.put oi.dst v) w → Q (.panic k) a w) :
    ∀ (fuel : Nat) (listed : Array Bool) (a : Act) (w : World),
      (∀ j oj, ops[j]? = some oj → j ≠ i → listed.getD j true = false → (∀ e ∈ oj.after, Region.binds .any e = true → e.on ≠ i) → oi.apart ops oj = true) →
      i ∈ Region.ready .any ops listed → YieldsIf P ops (fun _ => True) oi v a →
      wpAnyC P ops Q c S fuel (listed.setIfInBounds i true) (a.put oi.dst v) w → wpAnyC P ops Q c S (fuel + 1) listed a w := by
  intro fuel
  induction fuel with
  | zero =>
    intro listed a w _ hr hy H
    refine ⟨fun h => (by rw [h] at hr; cases hr), fun j hj => ?_⟩
    by_cases hji : j = i
    · subst hji; exact hy.wpOp hi trivial ⟨fun _ h => h, H⟩
    · have := ready_mono hj hji
      rw [H.1] at this
      cases this
  | succ fuel ih =>
    intro listed a w hfree hr hy H
    refine ⟨fun h => (by rw [h] at hr; cases hr), fun j hj => ?_⟩
    by_cases hji : j = i
    · subst hji; exact hy.wpOp hi trivial ⟨fun _ h => h, H⟩
    · have h1 := H.2 j (ready_mono hj hji)
      obtain ⟨hjun, oj, hoj, hall⟩ := mem_ready.1 hj
      have hnot : ∀ e ∈ oj.after, Region.binds .any e = true → e.on ≠ i := fun e he hb heq => by
        have h1 := hall e he hb
        rw [heq] at h1
        exact not_ready h1 hr
      have h2 := wpOp_putIf hoj (hfree j oj hoj hji hjun hnot) (fun cs b => hsel i oi cs b hi) (fun cs b => hsel j oj cs b hoj) hQ hy h1
      have hfree' : ∀ k ok, ops[k]? = some ok → k ≠ i → (listed.setIfInBounds j true).getD k true = false →
          (∀ e ∈ ok.after, Region.binds .any e = true → e.on ≠ i) → oi.apart ops ok = true := fun k ok hk hki hun hno => by
        refine hfree k ok hk hki ?_ hno
        by_cases hjk : j = k
        · subst hjk; exact hjun
        · rw [getD_set_ne true hjk] at hun; exact hun
      refine wpOp_mono (fun a' w' h3 => ⟨h3.2.1, ih (listed.setIfInBounds j true) a' w' hfree' (ready_mono hr (Ne.symm hji)) h3.1 ?_⟩) h2
      rw [Array.setIfInBounds_comm _ _ hji]
      exact h3.2.2
end

/-- An end at the cut: what is left to do, what is listed, temporaries and heap. -/
abbrev CutE := (Nat × Nat) × (Tr Value × AH)
def gatherC (go : Nat → Option (List CutE)) : List Nat → Option (List CutE)
  | [] => some []
  | j :: js => match go j with
    | some l => match gatherC go js with
      | some r => some (l ++ r)
      | none => none
    | none => none
theorem gatherC_mem {go : Nat → Option (List CutE)} : ∀ {js : List Nat} {L : List CutE}, gatherC go js = some L → ∀ j ∈ js, ∃ xs, go j = some xs ∧ ∀ p ∈ xs, p ∈ L
  | [], L, h, j, hj => by cases hj
  | k :: js, L, h, j, hj => by
    unfold gatherC at h
    split at h
    · rename_i l hl
      split at h
      · rename_i r hr
        injection h with h
        subst h
        rcases List.mem_cons.1 hj with rfl | hj
        · exact ⟨l, hl, fun p hp => List.mem_append_left _ hp⟩
        · obtain ⟨xs, h1, h2⟩ := gatherC_mem hr j hj
          exact ⟨xs, h1, fun p hp => List.mem_append_right _ (h2 p hp)⟩
      · cases h
    · cases h
def explC (P : Program) (call : CallMT) (ops : Array Oper) (size : Nat) (h0 : AH) (c : Nat) : Nat → Nat → Tr Value → AH → Option (List CutE)
  | 0, M, t, h => match subM (maskOf (List.range c)) M with
    | true => some [((0, M), (t, h))]
    | false => none
  | f + 1, M, t, h => match subM (maskOf (List.range c)) M with
    | true => some [((f + 1, M), (t, h))]
    | false => match tryPick P ops size h0 M t h with
      | some (j, t') => match Nat.blt j c with
        | true => explC P call ops size h0 c f (addM M j) t' h
        | false => none
      | none => match readyM M (tabOf ops) 0 with
        | [] => none
        | js => gatherC (fun j => match Nat.blt j c with
          | true => match explOneMG P call ops size t h j with
            | some (t', h') => explC P call ops size h0 c f (addM M j) t' h'
            | none => none
          | false => none) js

def cutAll (size n0 : Nat) (D : Tr Nat) (p : CutE) (q : CutE) : Bool := Nat.beq q.1.1 p.1.1 && Nat.beq q.1.2 p.1.2 && isoQ size n0 D p.2 q.2
def cutGo (P : Program) (call : CallMT) (ops : Array Oper) (st : AS) (ds : List AD) (acs : List AF) (k : List Item) (h : AH) (p : CutE) (L : List CutE) : Tr Nat × Tr Nat → R1
  | (D, _) => match L.all (cutAll st.size h.n D p) with
    | true => drawMany2 st ds acs k (explMG P call ops st.size p.1.1 p.1.2 (repT st.size p.2.1) (repH h D p.2.2))
    | false => .no
def cutEnds (P : Program) (call : CallMT) (ops : Array Oper) (st : AS) (ds : List AD) (acs : List AF) (k : List Item) (h : AH) : Option (List CutE) → R1
  | some [p] => drawMany2 st ds acs k (explMG P call ops st.size p.1.1 p.1.2 p.2.1 { p.2.2 with ro := h.ro })
  | some (p :: ps) => cutGo P call ops st ds acs k h p (p :: ps) (uniE st.size h.n p.2 p.2)
  | _ => .no
def drawCut (cf : Array Oper → Nat) (P : Program) (call : CallMT) (st : AS) (t : Tr Value) (ds : List AD) (acs : List AF) (h : AH) (k : List Item) (ops : Array Oper) : R1 :=
  match explB ops with
  | true => cutEnds P call ops st ds acs k h (explC P call ops st.size { h with ro := h.n } (cf ops) ops.size 0 t { h with ro := h.n })
  | false => .no

section
variable {P : Program} {w0 : World}
theorem explC_rel (hN : Named P) {call : CallMT} (hC : CallMOk P call) {ops : Array Oper} {size : Nat} {D : List Deferred} {Q : Exit → Act → World → Prop} {c : Nat} (hcut : Cuts ops c) (hsel : Region.noSelect ops = true) (hnd : noDefer ops = true)
    (hQp : ∀ k a w, ¬ Q (.panic k) a w) {i0 : Ren} {h0 : AH} (hro : h0.ro = h0.n) :
    ∀ (f M : Nat) (listed : Array Bool) (i : Ren) (t : Tr Value) (h : AH) (a : Act) (w : World) (L : List CutE), Shut ops listed → Over ops listed M → Sat P i0 h0 w0 w → i0.le i h0.n → Keep h0 h → Sat P i h w0 w → XRel i h.n size t a.tmps → a.defers = D →
      explC P call ops size h0 c f M t h = some L →
      (∀ p ∈ L, ∀ listed' i' a' w', Over ops listed' p.1.2 → i0.le i' h0.n → Keep h0 p.2.2 → Sat P i' p.2.2 w0 w' → XRel i' p.2.2.n size p.2.1 a'.tmps → a'.defers = D → wpAny P .any ops Q p.1.1 listed' a' w') →
      wpAnyC P ops Q c (fun w' => Sat P i0 h0 w0 w') f listed a w
  | 0, M, listed, i, t, h, a, w, L, hsh, vr, s0, hle, K, s, X, hd, he, hR => by
    unfold explC at he
    split at he
    · rename_i hM
      injection he with he
      subst he
      exact wpAnyC_of 0 listed a w (fun j hj => by rw [vr.bit]; exact (subM_eq _ _).1 hM j (by rw [maskOf_eq, decide_eq_true_eq]; exact List.mem_range.2 hj)) (hR _ List.mem_cons_self listed i a w vr hle K s X hd)
    · cases he
  | f + 1, M, listed, i, t, h, a, w, L, hsh, vr, s0, hle, K, s, X, hd, he, hR => by
    unfold explC at he
    split at he
    · rename_i hM
      injection he with he
      subst he
      exact wpAnyC_of (f + 1) listed a w (fun j hj => by rw [vr.bit]; exact (subM_eq _ _).1 hM j (by rw [maskOf_eq, decide_eq_true_eq]; exact List.mem_range.2 hj)) (hR _ List.mem_cons_self listed i a w vr hle K s X hd)
    split at he
    · rename_i j t' hp
      split at he
      · rename_i hjc
        rw [Nat.blt_eq] at hjc
        unfold tryPick at hp
        split at hp
        · rename_i j' hj
          split at hp
          · rename_i t1 ht'
            injection hp with hp
            obtain ⟨rfl, rfl⟩ := Prod.mk.inj hp
            obtain ⟨o, ho, hrdy, hfree⟩ := vr.pickH hj
            unfold explHeld at ht'
            rw [Array.getElem?_toList, ho] at ht'
            simp only at ht'
            have hX := fun x hx => okOp_eval (a := a) (noDefer_spec hnd ho) X s.gi x hx
            split at ht'
            · rename_i hw
              injection ht' with ht'
              subst ht'
              exact wpAnyC_pure ho (Region.noSelect_spec hsel) (fun c a w hq => absurd hq (hQp c _ w)) f listed a w hfree hrdy (.inr ⟨wantedT_ne X hw, rfl⟩)
                (explC_rel hN hC hcut hsel hnd hQp hro f _ _ i _ h _ w L (hsh.add hrdy) (vr.add ho) s0 hle K s (X.put (VRel.undef _ _) o.dst) (by rw [put_eq.2, hd]) he hR)
            · rename_i hw
              unfold putV at ht'
              split at ht'
              · rename_i v hv
                injection ht' with ht'
                subst ht'
                unfold heldV at hv
                split at hv
                · rename_i hld
                  obtain ⟨v', g1, g2⟩ := loadH_sound s0 hle hX hv
                  have hnp : j' ∈ npOf ops c := by
                    refine List.mem_filter.2 ⟨List.mem_range.2 hjc, ?_⟩
                    rw [Array.getElem?_toList, ho]
                    simp only
                    unfold isLoad at hld
                    unfold pureKind
                    split at hld
                    · rename_i hop; rw [hop]; rfl
                    · cases hld
                  exact wpAnyC_first hcut ho (Region.noSelect_spec hsel) (fun c a w hq => absurd hq (hQp c _ w)) hnp f listed a w hsh hfree hrdy (.inl ⟨wantedT_eq X hw, g1⟩) s0
                    (explC_rel hN hC hcut hsel hnd hQp hro f _ _ i _ h _ w L (hsh.add hrdy) (vr.add ho) s0 hle K s (X.put (g2.mono hle K.n) o.dst) (by rw [put_eq.2, hd]) he hR)
                · obtain ⟨v', g1, g2⟩ := opP_sound o hX hv
                  exact wpAnyC_pure ho (Region.noSelect_spec hsel) (fun c a w hq => absurd hq (hQp c _ w)) f listed a w hfree hrdy (.inl ⟨wantedT_eq X hw, fun w' _ => g1 w'⟩)
                    (explC_rel hN hC hcut hsel hnd hQp hro f _ _ i _ h _ w L (hsh.add hrdy) (vr.add ho) s0 hle K s (X.put g2 o.dst) (by rw [put_eq.2, hd]) he hR)
              · cases ht'
          · cases hp
        · cases hp
      · cases he
    · split at he
      · cases he
      rename_i hne
      refine ⟨fun hr => absurd (List.eq_nil_iff_forall_not_mem.2 fun j hj => by have := vr.of_ready hj; rw [hr] at this; cases this) hne, fun j hj => ?_⟩
      obtain ⟨xs, hj', hsub⟩ := gatherC_mem he j (vr.ready hj)
      split at hj'
      · rename_i hjc
        split at hj'
        · rename_i t' h' hone
          unfold explOneMG at hone
          rw [Array.getElem?_toList] at hone
          unfold wpOp
          cases ho : ops[j]? with
          | none => rw [ho] at hone; cases hone
          | some o =>
            rw [ho] at hone
            simp only at hone ⊢
            have hX := fun x hx => okOp_eval (a := a) (noDefer_spec hnd ho) X s.gi x hx
            split at hone
            · rename_i hw
              injection hone with hone
              obtain ⟨rfl, rfl⟩ := Prod.mk.inj hone
              rw [if_neg (by rw [wantedT_ne X hw]; simp)]
              exact ⟨fun _ _ => s0, explC_rel hN hC hcut hsel hnd hQp hro f _ _ i _ _ _ w xs (hsh.add hj) (vr.add ho) s0 hle K s (X.put (VRel.undef _ _) o.dst) (by rw [put_eq.2, hd]) hj' (fun p hp => hR p (hsub p hp))⟩
            · rename_i hw
              rw [if_pos (wantedT_eq X hw)]
              split at hone
              · rename_i v h1 hopM
                injection hone with hone
                obtain ⟨rfl, rfl⟩ := Prod.mk.inj hone
                refine .inl (opM_wpG hN hC hX s hopM fun i' v' w' g1 g2 g3 g4 => ?_)
                have hle' : i0.le i' h0.n := hle.trans g1 K.n
                have K' := K.trans g2
                have s0' : Sat P i0 h0 w0 w' := s0.back g3 hle' K'.n (fun b hb => K'.old b (by rw [hro]; exact hb))
                exact ⟨fun _ _ => s0', explC_rel hN hC hcut hsel hnd hQp hro f _ _ i' _ _ _ w' xs (hsh.add hj) (vr.add ho) s0' hle' K' g3 ((X.mono g1 g2.n).put g4 o.dst) (by rw [put_eq.2, hd]) hj' (fun p hp => hR p (hsub p hp))⟩
              · cases hone
        · cases hj'
      · cases hj'

theorem drawCut_rel {cf : Array Oper → Nat} (hcf : ∀ ops, Cuts ops (cf ops)) (hN : Named P) (hM : P.follows .mixedOrders = true) {call : CallMT} (hC : CallMOk P call) {i : Ren} {cs : List Frame} {st : AS} {t : Tr Value} {ds : List AD} {acs : List AF} {h : AH} {k : List Item} {id : Nat} {ops : Array Oper} {fr : Frame} {fs : List Frame} {w : World}
    (S : SRel P i w0 cs ⟨⟨st, t, .code (.region id ops true) :: k, ds, false⟩, acs, h⟩ fr fs w) : RRel P i w0 cs h (lone fr fs w) (drawCut cf P call st t ds acs h k ops) := by
  unfold drawCut
  split
  · rename_i hB
    simp only [explB, Bool.and_eq_true] at hB
    have sd := S.sat.drew
    have sH : Sat P i { h with ro := h.n } w0 w.drew := ⟨sd.below, Nat.le_refl _, sd.obj, sd.inj, Nat.le_trans sd.glr sd.ro, sd.idn⟩
    cases hx : explC P call ops st.size { h with ro := h.n } (cf ops) ops.size 0 t { h with ro := h.n } with
    | none => trivial
    | some L =>
      cases L with
      | nil => trivial
      | cons p ps =>
       cases ps with
       | nil =>
        show RRel P i w0 cs h (lone fr fs w) (drawMany2 st ds acs k (explMG P call ops st.size p.1.1 p.1.2 p.2.1 { p.2.2 with ro := h.ro }))
        have key : ∀ L', explMG P call ops st.size p.1.1 p.1.2 p.2.1 { p.2.2 with ro := h.ro } = some L' → ∃ p ∈ L', RRel P i w0 cs h (lone fr fs w) (nx st p.1 k ds acs p.2) := fun L' hL' =>
          region_rel_many hM S hB.2 (wpAny_of_C _ _ _ _ (explC_rel hN hC (hcf ops) hB.1 hB.2 (fun k a w hq => by cases hq.1) (i0 := i) (h0 := { h with ro := h.n }) rfl _ 0 _ i t { h with ro := h.n } _ _ [p] (Shut.none ops) (Over.none ops) sH (Ren.le.refl _ _) (Keep.refl _) sH S.f.tmps rfl hx
            (fun q hq listed' i' a' w' gv g1 g2 g3 g4 g5 => by
              obtain rfl := List.mem_singleton.1 hq
              have s3 : Sat P i' { q.2.2 with ro := h.ro } w0 w' := ⟨g3.below, Nat.le_trans S.sat.ro g2.n, g3.obj, g3.inj, S.sat.glr, g3.idn⟩
              have k2 : Keep h { q.2.2 with ro := h.ro } := ⟨rfl, g2.n, fun b hb => g2.old b (Nat.lt_of_lt_of_le hb S.sat.ro)⟩
              exact explM_relG hN hC hB.1 hB.2 _ _ listed' i' _ _ a' w' L' gv s3 g4 g5 hL'
                (fun r hr i3 a3 w3 m1 m2 m3 m4 m5 => ⟨r, hr, i3, g1.trans m1 k2.n, k2.trans m2, m3, m4, m5⟩))))
        generalize explMG P call ops st.size p.1.1 p.1.2 p.2.1 { p.2.2 with ro := h.ro } = r at key
        unfold drawMany2
        split
        · rename_i p
          obtain ⟨q, hq, hr⟩ := key [p] rfl
          rw [List.mem_singleton.1 hq] at hr
          exact hr
        · rename_i l _
          obtain ⟨q, hq, i', fr', fs', w', g⟩ := key l rfl
          exact ⟨_, List.mem_map.2 ⟨q, hq, rfl⟩, i', fr', fs', w', g⟩
        · trivial
       | cons p2 ps =>
        show RRel P i w0 cs h (lone fr fs w) (cutGo P call ops st ds acs k h p (p :: (p2 :: ps)) (uniE st.size h.n p.2 p.2))
        revert hx
        generalize p2 :: ps = qs
        intro hx
        have hgo : RRel P i w0 cs h (lone fr fs w) (cutGo P call ops st ds acs k h p (p :: qs) (uniE st.size h.n p.2 p.2)) := by
          generalize uniE st.size h.n p.2 p.2 = DD
          obtain ⟨D, D2⟩ := DD
          show RRel P i w0 cs h (lone fr fs w) (match (p :: qs).all (cutAll st.size h.n D p) with
            | true => drawMany2 st ds acs k (explMG P call ops st.size p.1.1 p.1.2 (repT st.size p.2.1) (repH h D p.2.2))
            | false => .no)
          split
          · rename_i hall
            have key : ∀ L', explMG P call ops st.size p.1.1 p.1.2 (repT st.size p.2.1) (repH h D p.2.2) = some L' → ∃ p ∈ L', RRel P i w0 cs h (lone fr fs w) (nx st p.1 k ds acs p.2) := fun L' hL' =>
              region_rel_many hM S hB.2 (wpAny_of_C _ _ _ _ (explC_rel hN hC (hcf ops) hB.1 hB.2 (fun k a w hq => by cases hq.1) (i0 := i) (h0 := { h with ro := h.n }) rfl _ 0 _ i t { h with ro := h.n } _ _ (p :: qs) (Shut.none ops) (Over.none ops) sH (Ren.le.refl _ _) (Keep.refl _) sH S.f.tmps rfl hx
                (fun q hq listed' i' a' w' gv g1 g2 g3 g4 g5 => by
                  have hq' := List.all_eq_true.1 hall q hq
                  simp only [cutAll, Bool.and_eq_true] at hq'
                  obtain ⟨⟨e1, e2⟩, e3⟩ := hq'
                  obtain ⟨i'', k1, k2, k3, k4⟩ := iso_end S.sat g1 g2 g3 g4 e3
                  rw [Nat.eq_of_beq_eq_true e1]
                  rw [Nat.eq_of_beq_eq_true e2] at gv
                  exact explM_relG hN hC hB.1 hB.2 _ _ listed' i'' _ _ a' w' L' gv k3 k4 g5 hL'
                    (fun r hr i3 a3 w3 m1 m2 m3 m4 m5 => ⟨r, hr, i3, k1.trans m1 k2.n, k2.trans m2, m3, m4, m5⟩))))
            generalize explMG P call ops st.size p.1.1 p.1.2 (repT st.size p.2.1) (repH h D p.2.2) = r at key
            unfold drawMany2
            split
            · rename_i p
              obtain ⟨q, hq, hr⟩ := key [p] rfl
              rw [List.mem_singleton.1 hq] at hr
              exact hr
            · rename_i l _
              obtain ⟨q, hq, i', fr', fs', w', g⟩ := key l rfl
              exact ⟨_, List.mem_map.2 ⟨q, hq, rfl⟩, i', fr', fs', w', g⟩
            · trivial
          · trivial
        exact hgo
  · trivial
end

/-- Regions that hold calls, or make memory: cut first. -/
def pickCut (a b : DrawT) : DrawT := fun st t ds acs h k ops => match ops.toList.any makes || ops.toList.any callsGo || ops.toList.any writes with
  | true => drawOr a b st t ds acs h k ops
  | false => drawThen b a st t ds acs h k ops
def drawEnd (P : Program) (vs : List GVar) (tab : TabT) (fuel : Nat) : Nat → DrawT
  | 0 => drawNo
  | n + 1 => pickCut (drawElse (drawWhen (fun ops => cutsB ops (firstCall ops.toList 0)) (drawCut cutAtB P (callAny (callTab vs tab noCall) (callMemW (step1 P (drawEnd P vs tab fuel n)) P fuel))) drawNo)
    (drawOr (drawCut cutAt P (callAny (callTab vs tab noCall) (callMemW (step1 P (drawEnd P vs tab fuel n)) P fuel)))
    (drawOr (drawCut cutAtA P (callAny (callTab vs tab noCall) (callMemW (step1 P (drawEnd P vs tab fuel n)) P fuel)))
    (drawSeal P (callAny (callTab vs tab noCall) (callMemW (step1 P (drawEnd P vs tab fuel n)) P fuel))))))
    (pickDraw3 (drawOf P (callTab vs tab (callOf P (drawEnd P vs tab fuel n) fuel)))
    (drawHeldG P (callAny (callTab vs tab noCall) (callMemW (step1 P (drawEnd P vs tab fuel n)) P fuel)))
    (drawLastG P (callAny (callTab vs tab noCall) (callMemW (step1 P (drawEnd P vs tab fuel n)) P fuel)))
    (drawManyG P (callAny (callTab vs tab noCall) (callMemW (step1 P (drawEnd P vs tab fuel n)) P fuel))))

section
variable {P : Program}
theorem pickCut_ok {a b : DrawT} (ha : DrawOk P a) (hb : DrawOk P b) : DrawOk P (pickCut a b) := by
  intro i w0 cs st t ds acs h k id ops fr fs w S
  unfold pickCut
  split
  · exact drawOr_ok ha hb i w0 cs st t ds acs h k id ops fr fs w S
  · exact drawThen_ok hb ha i w0 cs st t ds acs h k id ops fr fs w S
theorem drawEnd_ok (hN : Named P) (hM : P.follows .mixedOrders = true) {vs : List GVar} {tab : TabT} (hT : TabOk P vs tab) (fuel : Nat) : ∀ n, DrawOk P (drawEnd P vs tab fuel n)
  | 0 => drawNo_ok
  | n + 1 =>
    have hD := drawEnd_ok hN hM hT fuel n
    have hC := callTab_ok hT (callOf_ok hN hD fuel)
    have hC2 := callAny_ok (callTab_ok hT (fun _ _ _ _ h => by cases h)) (callMemW_ok (fun i w0 cs s fr fs w S => step1_rel hN hD S) fuel)
    pickCut_ok (drawElse_ok (drawWhen_ok (fun i w0 cs st t ds acs h k id ops fr fs w S => drawCut_rel cutAtB_ok hN hM hC2 S) drawNo_ok) (drawOr_ok (fun i w0 cs st t ds acs h k id ops fr fs w S => drawCut_rel cutAt_ok hN hM hC2 S) (drawOr_ok (fun i w0 cs st t ds acs h k id ops fr fs w S => drawCut_rel cutAtA_ok hN hM hC2 S) (fun i w0 cs st t ds acs h k id ops fr fs w S => drawSeal_rel hN hM hC2 S)))) (pickDraw3_ok (drawOf_ok hN hM hC) (fun i w0 cs st t ds acs h k id ops fr fs w S => drawHeld_rel hN hM hC2 S) (fun i w0 cs st t ds acs h k id ops fr fs w S => drawLast_rel hN hM hC2 S) (fun i w0 cs st t ds acs h k id ops fr fs w S => drawMany_relG hN hM hC2 S))
end
end Go.Proofs.Ev
