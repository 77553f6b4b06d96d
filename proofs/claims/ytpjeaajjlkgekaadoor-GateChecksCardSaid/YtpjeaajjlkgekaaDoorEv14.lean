/-
  AN EVALUATOR OF CLOSED CALLS, PART 14: a call all of whose branches come to the same is one step. It holds for every program; no statement is proved here.
-/
import Derived.Test.YtpjeaajjlkgekaaDoorEv13
noncomputable section
namespace Go.Proofs.Ev
open Go.RowKit
set_option linter.unusedVariables false
set_option linter.unusedSimpArgs false

def eqW0 : Value → Value → Bool
  | .int .i64 a, .int .i64 b => a == b
  | .bool a, .bool b => a == b
  | .pointer (some a), .pointer (some b) => Nat.beq a.block b.block && Nat.beq a.off b.off && a.spot.isNone && b.spot.isNone
  | .slice (some a) l c, .slice (some b) l' c' => Nat.beq a.block b.block && Nat.beq a.off b.off && a.spot.isNone && b.spot.isNone && Nat.beq l l' && Nat.beq c c'
  | .slice none l c, .slice none l' c' => Nat.beq l l' && Nat.beq c c'
  | .nilIface, .nilIface => true
  | _, _ => false
def eqLW (f : Value → Value → Bool) : List Value → List Value → Bool
  | [], [] => true
  | a :: as, b :: bs => f a b && eqLW f as bs
  | _, _ => false
def eqIn (f : Value → Value → Bool) : Value → Value → Bool
  | .tuple xs, .tuple ys => eqLW f xs.toList ys.toList
  | .agg xs, .agg ys => eqLW f xs.toList ys.toList
  | a, b => f a b
def eqW : Value → Value → Bool := eqIn (eqIn (eqIn eqW0))

theorem eqW0_eq : ∀ a b, eqW0 a b = true → a = b := by
  intro a b h
  have addr : ∀ a b : Addr, (Nat.beq a.block b.block && Nat.beq a.off b.off && a.spot.isNone && b.spot.isNone) = true → a = b := fun a b h => by
    obtain ⟨a1, a2, a3⟩ := a
    obtain ⟨b1, b2, b3⟩ := b
    simp only [Bool.and_eq_true, Option.isNone_iff_eq_none] at h
    obtain ⟨⟨⟨h1, h2⟩, h3⟩, h4⟩ := h
    rw [Nat.eq_of_beq_eq_true h1, Nat.eq_of_beq_eq_true h2, h3, h4]
  unfold eqW0 at h
  split at h
  · simp only [beq_iff_eq] at h; rw [h]
  · simp only [beq_iff_eq] at h; rw [h]
  · rw [addr _ _ h]
  · rw [Bool.and_eq_true, Bool.and_eq_true] at h
    rw [addr _ _ h.1.1, Nat.eq_of_beq_eq_true h.1.2, Nat.eq_of_beq_eq_true h.2]
  · rw [Bool.and_eq_true] at h
    rw [Nat.eq_of_beq_eq_true h.1, Nat.eq_of_beq_eq_true h.2]
  · rfl
  · cases h
theorem eqLW_eq {f : Value → Value → Bool} (hf : ∀ a b, f a b = true → a = b) : ∀ {as bs : List Value}, eqLW f as bs = true → as = bs
  | [], [], _ => rfl
  | a :: as, b :: bs, h => by
    simp only [eqLW, Bool.and_eq_true] at h
    rw [hf a b h.1, eqLW_eq hf h.2]
  | [], _ :: _, h => by cases h
  | _ :: _, [], h => by cases h
theorem eqIn_eq {f : Value → Value → Bool} (hf : ∀ a b, f a b = true → a = b) : ∀ a b, eqIn f a b = true → a = b := by
  intro a b h
  unfold eqIn at h
  split at h
  · rw [Array.ext' (eqLW_eq hf h)]
  · rw [Array.ext' (eqLW_eq hf h)]
  · exact hf _ _ h
theorem eqW_eq {a b : Value} (h : eqW a b = true) : a = b := eqIn_eq (eqIn_eq (eqIn_eq eqW0_eq)) a b h
def eqOW : Option Obj → Option Obj → Bool
  | some (.cells xs e fr), some (.cells ys e' fr') => eqLW eqW xs.toList ys.toList && Nat.beq e e' && Nat.beq fr.1 fr'.1 && Nat.beq fr.2 fr'.2
  | none, none => true
  | _, _ => false
theorem eqOW_eq {a b : Option Obj} (h : eqOW a b = true) : a = b := by
  unfold eqOW at h
  split at h
  · rename_i xs e fr ys e' fr'
    simp only [Bool.and_eq_true] at h
    obtain ⟨⟨⟨h1, h2⟩, h3⟩, h4⟩ := h
    have e1 : xs = ys := Array.ext' (eqLW_eq (fun _ _ => eqW_eq) h1)
    have e2 := Nat.eq_of_beq_eq_true h2
    have e3 : fr = fr' := Prod.ext (Nat.eq_of_beq_eq_true h3) (Nat.eq_of_beq_eq_true h4)
    subst e1 e2 e3
    rfl
  · rfl
  · cases h

/-! ### The blocks that a value names -/
def blk0 : Value → List Nat
  | .pointer (some a) => [a.block]
  | .slice (some a) _ _ => [a.block]
  | _ => []
def blkL (f : Value → List Nat) : List Value → List Nat
  | [] => []
  | v :: vs => f v ++ blkL f vs
def blkIn (f : Value → List Nat) : Value → List Nat
  | .tuple xs => blkL f xs.toList
  | .agg xs => blkL f xs.toList
  | v => f v
def blkW : Value → List Nat := blkIn (blkIn (blkIn blk0))
def blkO : Option Obj → List Nat
  | some (.cells xs _ _) => blkL blkW xs.toList
  | _ => []
def blkH (h : AH) : List Nat → List Nat
  | [] => []
  | b :: bs => blkO (h.obj b) ++ blkH h bs

def putO (t : Tr Obj) (b : Nat) : Option Obj → Tr Obj
  | some o => t.put b o
  | none => t
def laid (h : AH) : List Nat → Tr Obj → Tr Obj
  | [], t => t
  | b :: bs, t => laid h bs (putO t b (h.obj b))
/-- Of the new blocks only those of the list stay. -/
def keepOnly (h0 h : AH) (bs : List Nat) : AH := { n := h.n, t := laid h bs h0.t, ro := h0.ro }
def kept (h : AH) (v : Value) : List Nat := blkW v ++ blkH h (blkW v)

def sameAs (bs : List Nat) (v : Value) (h : AH) (p : Value × AH) : Bool := eqW p.1 v && Nat.beq p.2.n h.n && bs.all (fun b => eqOW (p.2.obj b) (h.obj b))
def collapse (h0 : AH) : List (Value × AH) → Option (Value × AH)
  | [] => none
  | (v, h) :: ps => match ps.all (sameAs (kept h v) v h) with
    | true => some (v, keepOnly h0 h (kept h v))
    | false => none

def runAll (st : St → R1) (k : Nat) : Nat → St → Option (List (Value × AH))
  | 0, _ => none
  | n + 1, s => match iter st k s with
    | .next s' => runAll st k n s'
    | .done _ v h => some [(v, h)]
    | .many l => gather (runAll st k n) l
    | .no => none

def deeper : List AF → List AF → Bool
  | [], _ :: _ => true
  | _ :: as, _ :: bs => deeper as bs
  | _, _ => false

def backOf (cs : List AF) : Option (Value × AH) → R1
  | some p => back 0 cs p.1 p.2
  | none => .no
def nested (st : St → R1) (k n : Nat) (s : St) : R1 := match runAll st k n ⟨s.f, [], { s.h with ro := s.h.n }⟩ with
  | some l => backOf s.cs (collapse s.h l)
  | none => .no
/-- A call of a function of the list is one step. -/
def nest (st : St → R1) (big : Nat → Bool) (k n : Nat) (s : St) : R1 := match st s with
  | .next s' => match big s'.f.st.fn, deeper s.cs s'.cs with
    | true, true => nested st k n s'
    | _, _ => .next s'
  | r => r

section
variable {P : Program} {w0 : World}

theorem putO_get (t : Tr Obj) (b c : Nat) (o : Option Obj) : (putO t b o).get c = if c = b then (match o with | some o => some o | none => t.get c) else t.get c := by
  cases o with
  | none => simp [putO]
  | some o => rw [putO, Tr.get_put]

theorem laid_get (h : AH) : ∀ (bs : List Nat) (t : Tr Obj) (c : Nat), (laid h bs t).get c = t.get c ∨ (c ∈ bs ∧ (laid h bs t).get c = h.obj c)
  | [], t, c => .inl rfl
  | b :: bs, t, c => by
    rcases laid_get h bs (putO t b (h.obj b)) c with g | ⟨g1, g2⟩
    · unfold laid
      rw [g, putO_get]
      by_cases e : c = b
      · subst e
        rw [if_pos rfl]
        cases ho : h.obj c with
        | none => exact .inl rfl
        | some o => exact .inr ⟨List.mem_cons_self, rfl⟩
      · rw [if_neg e]; exact .inl rfl
    · exact .inr ⟨List.mem_cons_of_mem _ g1, g2⟩

theorem laid_congr {h h' : AH} : ∀ (bs : List Nat) (t : Tr Obj), (∀ b ∈ bs, h'.obj b = h.obj b) → laid h' bs t = laid h bs t
  | [], _, _ => rfl
  | b :: bs, t, hb => by
    unfold laid
    rw [hb b List.mem_cons_self]
    exact laid_congr bs _ fun c hc => hb c (List.mem_cons_of_mem _ hc)

/-- With fewer objects it is still so. -/
theorem Sat.fewer {i : Ren} {h g : AH} {w : World} (s : Sat P i h w0 w) (hn : g.n = h.n) (hr : g.ro ≤ g.n) (hg : GL ≤ g.ro) (ho : ∀ b o, g.obj b = some o → h.obj b = some o) : Sat P i g w0 w :=
  ⟨s.below, hr, fun b o hb => by rw [hn]; exact s.obj b o (ho b o hb), fun b c o o' hb hc => s.inj b c o o' (ho b o hb) (ho c o' hc), hg, s.idn⟩

theorem keepOnly_sat {i : Ren} {h0 h : AH} {w : World} (s : Sat P i h w0 w) (K : Keep { h0 with ro := h0.n } h) (hr : h0.ro ≤ h0.n) (hgl : GL ≤ h0.ro) (hlow : ∀ b o, h0.obj b = some o → b < h0.n) (bs : List Nat) :
    Sat P i (keepOnly h0 h bs) w0 w ∧ Keep h0 (keepOnly h0 h bs) := by
  have hn : h0.n ≤ h.n := K.n
  have hold : ∀ b, b < h0.n → h.obj b = h0.obj b := K.old
  have hget : ∀ c, (keepOnly h0 h bs).obj c = h0.obj c ∨ (keepOnly h0 h bs).obj c = h.obj c := fun c => by
    rcases laid_get h bs h0.t c with g | ⟨_, g⟩
    · exact .inl g
    · exact .inr g
  refine ⟨s.fewer rfl (Nat.le_trans hr hn) hgl fun b o hb => ?_, ⟨rfl, hn, fun b hb => ?_⟩⟩
  · rcases hget b with g | g
    · rw [g] at hb
      rw [hold b (hlow b o hb)]; exact hb
    · rw [g] at hb; exact hb
  · rcases hget b with g | g
    · exact g
    · rw [g]; exact hold b (by omega)

/-- What a run along every branch says. -/
def RunOk (P : Program) (w0 : World) (i : Ren) (h : AH) (cs : List Frame) (m : Machine) (L : List (Value × AH)) : Prop :=
  ∃ p ∈ L, ∃ i' fr w v', Steps P m (lone fr cs w) ∧ fr.leaving P w (.returned v') ∧ VRel i' p.2.n p.1 v' ∧ Sat P i' p.2 w0 w ∧ i.le i' h.n ∧ Keep h p.2

theorem runAll_ok {st : St → R1} (hst : StepOk P st) {k : Nat} : ∀ (n : Nat) (i : Ren) (cs : List Frame) (s : St) (fr : Frame) (fs : List Frame) (w : World) (L : List (Value × AH)), SRel P i w0 cs s fr fs w → runAll st k n s = some L → RunOk P w0 i s.h cs (lone fr fs w) L
  | 0, _, _, _, _, _, _, _, _, h => by cases h
  | n + 1, i, cs, s, fr, fs, w, L, S, h => by
    have hr := iter_ok hst k i w0 cs s fr fs w S
    have cont : ∀ s', (∃ i' fr' fs' w', Steps P (lone fr fs w) (lone fr' fs' w') ∧ SRel P i' w0 cs s' fr' fs' w' ∧ i.le i' s.h.n ∧ Keep s.h s'.h) → ∀ L', runAll st k n s' = some L' → RunOk P w0 i s.h cs (lone fr fs w) L' := fun s' hs' L' hL' => by
      obtain ⟨j, fr', fs', w', g1, g2, g3, g4⟩ := hs'
      obtain ⟨p, hp, i2, fr2, w2, v', f1, f2, f3, f4, f5, f6⟩ := runAll_ok hst n j cs s' fr' fs' w' L' g2 hL'
      exact ⟨p, hp, i2, fr2, w2, v', g1.trans f1, f2, f3, f4, g3.trans f5 g4.n, g4.trans f6⟩
    unfold runAll at h
    split at h
    · rename_i s' he
      rw [he] at hr
      exact cont s' hr L h
    · rename_i f v h' he
      rw [he] at hr
      injection h with h
      subst h
      obtain ⟨j, fr', w', v', g1, g2, g3, g4, g5, g6, g7⟩ := hr
      exact ⟨(v, h'), List.mem_cons_self, j, fr', w', v', g1, g3, g4, g5, g6, g7⟩
    · rename_i l he
      rw [he] at hr
      obtain ⟨s', hsl, hs'⟩ := hr
      obtain ⟨xs, h1, h2⟩ := gather_mem h s' hsl
      obtain ⟨p, hp, g⟩ := cont s' hs' xs h1
      exact ⟨p, h2 p hp, g⟩
    · cases h

theorem nest_ok {st : St → R1} (hst : StepOk P st) (big : Nat → Bool) (k n : Nat) : StepOk P (nest st big k n) := by
  intro i w0 cs s fr fs w S
  have hr := hst i w0 cs s fr fs w S
  unfold nest
  split
  · rename_i s' he
    rw [he] at hr
    split
    · rename_i hbig hdeep
      obtain ⟨j, fr', fs', w', g1, g2, g3, g4⟩ := hr
      refine RRel.from g1 g3 g4 ?_
      unfold nested
      split
      · rename_i L hL
        have S0 : SRel P j w0 fs' ⟨s'.f, [], { s'.h with ro := s'.h.n }⟩ fr' fs' w' := ⟨g2.f, rfl, ⟨g2.sat.below, Nat.le_refl _, g2.sat.obj, g2.sat.inj, Nat.le_trans g2.sat.glr g2.sat.ro, g2.sat.idn⟩⟩
        obtain ⟨p, hp, i2, fr2, w2, v', f1, f2, f3, f4, f5, f6⟩ := runAll_ok hst n j fs' _ fr' fs' w' L S0 hL
        have hlow : ∀ b o, s'.h.obj b = some o → b < s'.h.n := fun b o hb => (g2.sat.obj b o hb).1
        cases hcol : collapse s'.h L with
        | none => trivial
        | some q =>
          obtain ⟨v, g⟩ := q
          have key : VRel i2 g.n v v' ∧ Sat P i2 g w0 w2 ∧ Keep s'.h g := by
            cases L with
            | nil => cases hcol
            | cons p0 ps =>
              obtain ⟨v0, h0⟩ := p0
              simp only [collapse] at hcol
              split at hcol
              · rename_i hall
                injection hcol with hcol
                obtain ⟨rfl, rfl⟩ := Prod.mk.inj hcol
                obtain ⟨k1, k2⟩ := keepOnly_sat f4 f6 g2.sat.ro g2.sat.glr hlow (kept h0 v0)
                rcases List.mem_cons.1 hp with e | e
                · subst e
                  exact ⟨f3, k1, k2⟩
                · have hs := List.all_eq_true.1 hall p e
                  simp only [sameAs, Bool.and_eq_true, List.all_eq_true] at hs
                  obtain ⟨⟨s1, s2⟩, s3⟩ := hs
                  have e1 := eqW_eq s1
                  have e2 := Nat.eq_of_beq_eq_true s2
                  have e3 : keepOnly s'.h p.2 (kept h0 v0) = keepOnly s'.h h0 (kept h0 v0) := by
                    unfold keepOnly
                    rw [e2, laid_congr _ _ fun b hb => eqOW_eq (s3 b hb)]
                  rw [e3] at k1 k2
                  rw [e1, e2] at f3
                  exact ⟨f3, k1, k2⟩
              · cases hcol
          exact back_rel (fr := fr2) (g2.c.mono f5 key.2.2.n) key.1 key.2.1 f5 key.2.2 (fun c fs'' hf => by subst hf; exact f1.trans (.one (step_leave_returned f2))) (fun hnil => by
            exfalso
            rw [hnil] at hdeep
            cases hs : s.cs <;> rw [hs] at hdeep <;> cases hdeep)
      · trivial
    · exact hr
  · exact hr

/-- **A CLOSED CALL**, by whatever step is sound. -/
theorem closed_run {st : St → R1} (hst : StepOk P st) {f : Nat} {args : Array Value} {p : Value → Bool} (k n : Nat) (hargs : args.toList.all flat = true)
    (h : goAll st (endsIn f p) k n (start P f args none0) = true) (w : World) :
    Calls P f args w (fun e w' => (∃ v, e = .returned v ∧ p v = true) ∧ Below w.heap.size w w') := by
  intro cs
  let i : Ren := { blk := fun b => b, grow := fun _ => 0 }
  have A : ARel i none0.n args args := ARel.refl_of args fun v hv => VRel.of_flat _ _ _ (List.all_eq_true.1 hargs v (by simpa using hv))
  obtain ⟨i', fr', w', v, v', h', g1, g2, g3, g4, g5⟩ := goAll_ok hst n i cs _ _ cs w (start_rel (sat0 i (fun _ _ => rfl) w) A f cs) h
  unfold endsIn at g2
  split at g2
  · rename_i hk hf
    have := VRel.eq_of_flat hf g4
    subst this
    exact ⟨_, w', fr', ⟨⟨_, rfl, g2⟩, g5.below⟩, g1, Nat.eq_of_beq_eq_true hk, g3⟩
  · cases g2

def stepD (P : Program) (lvl fuel : Nat) (big : Nat → Bool) (k n : Nat) : St → R1 := nest (step1 P (drawN P fuel lvl)) big k n
theorem stepD_ok (hN : Named P) (hM : P.follows .mixedOrders = true) (lvl fuel : Nat) (big : Nat → Bool) (k n : Nat) : StepOk P (stepD P lvl fuel big k n) :=
  nest_ok (fun i w0 cs s fr fs w S => step1_rel hN (drawN_ok hN hM fuel lvl) S) big k n

def isTrue : Value → Bool
  | .bool b => b
  | _ => false
theorem isTrue_eq {v : Value} (h : isTrue v = true) : v = .bool true := by
  unfold isTrue at h
  split at h
  · rw [h]
  · cases h

end
end Go.Proofs.Ev
