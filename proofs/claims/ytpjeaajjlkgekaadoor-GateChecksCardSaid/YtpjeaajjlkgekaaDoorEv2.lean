/-
  AN EVALUATOR OF CLOSED CALLS, PART 2: when a heap of the evaluator stands for a part of a world; new blocks, reading and writing of cells. It holds for every program; no statement is proved here.
-/
import Derived.Test.YtpjeaajjlkgekaaDoorEv1
noncomputable section
namespace Go.Proofs.Ev
set_option linter.unusedVariables false
set_option linter.unusedSimpArgs false
open Go.RowKit

def solid : Obj → Bool
  | .cells cs _ _ => cs.size != 0
  | _ => true

structure LRel (i : Ren) (n : Nat) (l m : Loop) : Prop where
  state : m.state = l.state
  pending : m.pending = l.pending
  fn : m.fn = l.fn
  tmps : ARel i n l.tmps m.tmps
  params : m.params = l.params
  assign : m.assign = l.assign
  body : m.body = l.body
  defers : m.defers = i.blk l.defers
  lt : l.defers < n

structure ERel (i : Ren) (n : Nat) (e f : MapEntry) : Prop where
  key : VRel i n e.key f.key
  val : VRel i n e.val f.val
  born : f.born = e.born

/-- No cell of a row of this length is frozen. -/
def NF (fr : Nat × Nat) (size : Nat) : Prop := fr.1 = fr.2 ∨ size ≤ fr.1
theorem NF.no {fr : Nat × Nat} {size : Nat} (h : NF fr size) : ∀ j, j < size → ¬ (fr.1 ≤ j ∧ j < fr.2) := fun j hj hh => by
  rcases h with h | h <;> omega

/-- An entry of a map whose order is left open: its key and what it holds, as the arguments of a deferred call. -/
def UE (i : Ren) (n : Nat) (x : Deferred) (e : MapEntry) : Prop := ∃ a v, x.args = #[.int .i64 a, v] ∧ e.key = .int .i64 a ∧ VRel i n v e.val
/-- A map whose order is left open. -/
def URel (i : Ren) (n : Nat) (l : List Deferred) (o : Obj) : Prop := ∃ fs ck, o = .map fs ck ∧ (∀ e ∈ fs.toList, ∃ x ∈ l, UE i n x e) ∧ (∀ x ∈ l, ∃ e ∈ fs.toList, UE i n x e)
/-- An object of the evaluator's block b stands for an object of the model. A row may be longer in the model; where it is marked (1, 0) it has grown, and its length is the renaming's. -/
def ORel (P : Program) (i : Ren) (n b : Nat) : Obj → Obj → Prop
  | .cells cs e fr, o => ∃ ds fr', o = .cells ds e fr' ∧ cs.size ≤ ds.size ∧ (∀ j, j < cs.size → VRel i n (cs.getD j undef) (ds.getD j undef)) ∧
      NF fr' ds.size ∧ (fr = (1, 0) → ds.size = i.grow b * P.cellsOf e)
  | .map es ck, o => ∃ fs : Array MapEntry, o = .map fs ck ∧ fs.size = es.size ∧ ∀ (j : Nat) (e : MapEntry), es[j]? = some e → ∃ f, fs[j]? = some f ∧ ERel i n e f
  | .stringIter s p, o => o = .stringIter s p
  | .mapIter m since seen st, o => o = .mapIter (m.map i.blk) since seen st ∧ ∀ r, m = some r → r < n
  | .loop l, o => ∃ m, o = .loop m ∧ LRel i n l m
  | .deferred (some []), o => o = .deferred (some [])
  | .deferred none, o => o = .deferred none
  | .deferred (some (d :: ds)), o => URel i n (d :: ds) o
  | _, _ => False

theorem LRel.mono {i i' : Ren} {n m : Nat} (h : i.le i' n) (hm : n ≤ m) {l k : Loop} (hl : LRel i n l k) : LRel i' m l k :=
  ⟨hl.state, hl.pending, hl.fn, hl.tmps.mono h hm, hl.params, hl.assign, hl.body, by rw [hl.defers, h.blk _ hl.lt], by have := hl.lt; omega⟩

theorem ERel.mono {i i' : Ren} {n m : Nat} (h : i.le i' n) (hm : n ≤ m) {e f : MapEntry} (he : ERel i n e f) : ERel i' m e f := ⟨he.key.mono h hm, he.val.mono h hm, he.born⟩

theorem UE.mono {i i' : Ren} {n m : Nat} (h : i.le i' n) (hm : n ≤ m) {x : Deferred} {e : MapEntry} (k : UE i n x e) : UE i' m x e :=
  let ⟨a, v, h1, h2, h3⟩ := k; ⟨a, v, h1, h2, h3.mono h hm⟩
theorem URel.mono {i i' : Ren} {n m : Nat} (h : i.le i' n) (hm : n ≤ m) {l : List Deferred} {o : Obj} (k : URel i n l o) : URel i' m l o := by
  obtain ⟨fs, ck, h1, h2, h3⟩ := k
  exact ⟨fs, ck, h1, fun e he => let ⟨x, hx, g⟩ := h2 e he; ⟨x, hx, g.mono h hm⟩, fun x hx => let ⟨e, he, g⟩ := h3 x hx; ⟨e, he, g.mono h hm⟩⟩
theorem ORel.mono {P : Program} {i i' : Ren} {n m b : Nat} (h : i.le i' n) (hm : n ≤ m) (hb : b < n) {o o' : Obj} (ho : ORel P i n b o o') : ORel P i' m b o o' := by
  cases o with
  | cells cs e fr =>
    obtain ⟨ds, fr', rfl, h1, h2, h3, h4⟩ := ho
    exact ⟨ds, fr', rfl, h1, fun j hj => (h2 j hj).mono h hm, h3, fun hf => by rw [h.grow b hb]; exact h4 hf⟩
  | map es ck =>
    obtain ⟨fs, rfl, h1, h2⟩ := ho
    exact ⟨fs, rfl, h1, fun j e he => let ⟨f, hf, hr⟩ := h2 j e he; ⟨f, hf, hr.mono h hm⟩⟩
  | stringIter s p => exact ho
  | mapIter r since seen st =>
    obtain ⟨rfl, h2⟩ := ho
    refine ⟨?_, fun r hr => by have := h2 r hr; omega⟩
    cases r with
    | none => rfl
    | some r => simp [h.blk r (h2 r rfl)]
  | loop l =>
    obtain ⟨k, rfl, hl⟩ := ho
    exact ⟨k, rfl, hl.mono h hm⟩
  | deferred c =>
    rcases c with _ | ⟨_ | ⟨d, ds⟩⟩
    · exact ho
    · exact ho
    · exact URel.mono h hm ho
  | _ => exact ho.elim

structure Sat (P : Program) (i : Ren) (h : AH) (w0 w : World) : Prop where
  below : Below w0.heap.size w0 w
  ro : h.ro ≤ h.n
  obj : ∀ b o, h.obj b = some o → b < h.n ∧ (GL ≤ b → w0.heap.size ≤ i.blk b) ∧ i.blk b < w.heap.size ∧ (solid o = true → ∃ o', w.heap[i.blk b]? = some o' ∧ ORel P i h.n b o o')
  inj : ∀ b c o o', h.obj b = some o → h.obj c = some o' → solid o = true → solid o' = true → i.blk b = i.blk c → b = c
  glr : GL ≤ h.ro
  idn : ∀ b, b < GL → i.blk b = b

/-- The package's variables lie under their own numbers. -/
def Idn (i : Ren) (n : Nat) : Prop := GL ≤ n ∧ ∀ b, b < GL → i.blk b = b
theorem Sat.gi {P : Program} {i : Ren} {h : AH} {w0 w : World} (s : Sat P i h w0 w) : Idn i h.n := ⟨Nat.le_trans s.glr s.ro, s.idn⟩

/-- What a step may do to the evaluator's heap. -/
structure Keep (h h' : AH) : Prop where
  ro : h'.ro = h.ro
  n : h.n ≤ h'.n
  old : ∀ b, b < h.ro → h'.obj b = h.obj b

theorem Keep.refl (h : AH) : Keep h h := ⟨rfl, Nat.le_refl _, fun _ _ => rfl⟩
theorem Keep.trans {a b c : AH} (h : Keep a b) (k : Keep b c) : Keep a c :=
  ⟨k.ro.trans h.ro, Nat.le_trans h.n k.n, fun x hx => (k.old x (by rw [h.ro]; exact hx)).trans (h.old x hx)⟩
theorem Keep.push {h : AH} (hr : h.ro ≤ h.n) (o : Obj) : Keep h (h.push o) :=
  ⟨rfl, by simp [AH.push], fun b hb => by rw [AH.obj_push, if_neg (by omega)]⟩
theorem Keep.put {h : AH} {b : Nat} (hb : h.ro ≤ b) (o : Obj) : Keep h (h.put b o) :=
  ⟨rfl, Nat.le_refl _, fun c hc => by rw [AH.obj_put, if_neg (by omega)]⟩

def Ren.with (i : Ren) (b k g : Nat) : Ren := { blk := fun c => if c = b then k else i.blk c, grow := fun c => if c = b then g else i.grow c }
theorem Ren.with_le (i : Ren) (b k g : Nat) : i.le (i.with b k g) b := ⟨fun c hc => by simp [Ren.with]; omega, fun c hc => by simp [Ren.with]; omega⟩
@[simp] theorem Ren.with_blk (i : Ren) (b k g : Nat) : (i.with b k g).blk b = k := by simp [Ren.with]
@[simp] theorem Ren.with_grow (i : Ren) (b k g : Nat) : (i.with b k g).grow b = g := by simp [Ren.with]

theorem Sat.size {P : Program} {i : Ren} {h : AH} {w0 w : World} (s : Sat P i h w0 w) : w0.heap.size ≤ w.heap.size := s.below.size

/-- A new block. -/
theorem Sat.alloc {P : Program} {i : Ren} {h : AH} {w0 w : World} (s : Sat P i h w0 w) (g : Nat) {o o' : Obj} (ho : solid o = true → ORel P (i.with h.n w.heap.size g) (h.n + 1) h.n o o') :
    Sat P (i.with h.n w.heap.size g) (h.push o) w0 (w.alloc o') := by
  have hle := i.with_le h.n w.heap.size g
  refine ⟨s.below.alloc s.size o', by have := s.ro; simp [AH.push]; omega, fun b q hb => ?_, fun b c q q' hb hc hs hs' he => ?_, s.glr, fun b hb => by rw [hle.blk b (by have := s.glr; have := s.ro; omega)]; exact s.idn b hb⟩
  · rw [AH.obj_push] at hb
    by_cases e : b = h.n
    · subst e
      rw [if_pos rfl] at hb
      injection hb with hb
      subst hb
      refine ⟨by simp [AH.push], fun _ => by simpa using s.size, by simp, fun hs => ⟨o', by rw [Ren.with_blk]; exact heap_alloc_new w o', ho hs⟩⟩
    · rw [if_neg e] at hb
      obtain ⟨h1, h2, h3, h4⟩ := s.obj b q hb
      rw [hle.blk b h1]
      refine ⟨by simp [AH.push]; omega, h2, by simp; omega, fun hs => ?_⟩
      obtain ⟨q', hq, hr⟩ := h4 hs
      exact ⟨q', by rw [Below.heap_alloc _ _ _ h3]; exact hq, hr.mono hle (by simp [AH.push]) h1⟩
  · rw [AH.obj_push] at hb hc
    by_cases eb : b = h.n <;> by_cases ec : c = h.n
    · omega
    · rw [if_neg ec] at hc
      obtain ⟨h1, _, h3, _⟩ := s.obj c q' hc
      rw [eb, Ren.with_blk, hle.blk c h1] at he
      omega
    · rw [if_neg eb] at hb
      obtain ⟨h1, _, h3, _⟩ := s.obj b q hb
      rw [ec, Ren.with_blk, hle.blk b h1] at he
      omega
    · rw [if_neg eb] at hb
      rw [if_neg ec] at hc
      have h1 := (s.obj b q hb).1
      have h2 := (s.obj c q' hc).1
      rw [hle.blk b h1, hle.blk c h2] at he
      exact s.inj b c q q' hb hc hs hs' he

/-- A draw. -/
theorem Sat.drew {P : Program} {i : Ren} {h : AH} {w0 w : World} (s : Sat P i h w0 w) : Sat P i h w0 w.drew := ⟨s.below.drew, s.ro, s.obj, s.inj, s.glr, s.idn⟩

/-- A block is another object. -/
theorem Sat.put {P : Program} {i : Ren} {h : AH} {w0 w w' : World} (s : Sat P i h w0 w) {b : Nat} {o p : Obj} (hb : h.obj b = some o) (hs : solid o = true)
    (hw : Below w0.heap.size w w') (hsz : w'.heap.size = w.heap.size) (hot : ∀ k, k ≠ i.blk b → w'.heap[k]? = w.heap[k]?) (hp : solid p = true → ∃ p', w'.heap[i.blk b]? = some p' ∧ ORel P i h.n b p p') :
    Sat P i (h.put b p) w0 w' := by
  refine ⟨s.below.trans hw, s.ro, fun c q hc => ?_, fun c d q q' hc hd hq hq' he => ?_, s.glr, s.idn⟩
  · rw [AH.obj_put] at hc
    by_cases e : c = b
    · subst e
      rw [if_pos rfl] at hc
      injection hc with hc
      subst hc
      obtain ⟨h1, h2, h3, _⟩ := s.obj c o hb
      exact ⟨h1, h2, by rw [hsz]; exact h3, hp⟩
    · rw [if_neg e] at hc
      obtain ⟨h1, h2, h3, h4⟩ := s.obj c q hc
      refine ⟨h1, h2, by rw [hsz]; exact h3, fun hq => ?_⟩
      rw [hot _ (fun he => e (s.inj c b q o hc hb hq hs he))]
      exact h4 hq
  · rw [AH.obj_put] at hc hd
    by_cases ec : c = b <;> by_cases ed : d = b
    · omega
    · rw [if_neg ed] at hd
      subst ec
      exact s.inj c d o q' hb hd hs hq' he
    · rw [if_neg ec] at hc
      subst ed
      exact s.inj c d q o hc hb hq hs he
    · rw [if_neg ec] at hc
      rw [if_neg ed] at hd
      exact s.inj c d q q' hc hd hq hq' he

/-- What a call that writes nothing of the evaluator's heap leaves: it still stands for the world. -/
theorem Sat.back {P : Program} {i i' : Ren} {h h' : AH} {w0 w w' : World} (s : Sat P i h w0 w) (s' : Sat P i' h' w0 w') (hle : i.le i' h.n) (hn : h.n ≤ h'.n) (hk : ∀ b, b < h.n → h'.obj b = h.obj b) : Sat P i h w0 w' := by
  refine ⟨s'.below, s.ro, fun b o hb => ?_, s.inj, s.glr, s.idn⟩
  obtain ⟨h1, h2, h3, h4⟩ := s.obj b o hb
  have hb' : h'.obj b = some o := (hk b h1).trans hb
  obtain ⟨_, _, h7, h8⟩ := s'.obj b o hb'
  rw [hle.blk b h1] at h7 h8
  refine ⟨h1, h2, h7, fun hs => ?_⟩
  obtain ⟨q, _, hq⟩ := h4 hs
  obtain ⟨q', hq', hr⟩ := h8 hs
  refine ⟨q', hq', ?_⟩
  have hq1 := hq.mono hle hn h1
  cases o with
  | cells cs e fr =>
    obtain ⟨ds, fr', rfl, a1, a2, a3, a4⟩ := hr
    obtain ⟨ds2, fr2, rfl, b1, b2, b3, b4⟩ := hq
    refine ⟨ds, fr', rfl, a1, fun j hj => ?_, a3, fun hf => by rw [← hle.grow b h1]; exact a4 hf⟩
    have := (b2 j hj).mono hle hn |>.unique _ (a2 j hj)
    rw [this]
    exact b2 j hj
  | map es ck =>
    obtain ⟨fs, rfl, a1, a2⟩ := hr
    obtain ⟨fs2, rfl, b1, b2⟩ := hq
    refine ⟨fs, rfl, a1, fun j e he => ?_⟩
    obtain ⟨f, hf, hr⟩ := a2 j e he
    obtain ⟨f2, hf2, hr2⟩ := b2 j e he
    refine ⟨f, hf, ?_⟩
    have e1 := (hr2.key.mono hle hn).unique _ hr.key
    have e2 := (hr2.val.mono hle hn).unique _ hr.val
    exact ⟨by rw [e1]; exact hr2.key, by rw [e2]; exact hr2.val, hr.born⟩
  | stringIter s p => exact hr
  | mapIter r since seen st =>
    obtain ⟨rfl, b2⟩ := hq
    obtain ⟨rfl, _⟩ := hr
    refine ⟨?_, b2⟩
    cases r with
    | none => rfl
    | some r => simp [hle.blk r (b2 r rfl)]
  | loop l =>
    obtain ⟨k, rfl, hl⟩ := hr
    obtain ⟨k2, rfl, hl2⟩ := hq
    refine ⟨k, rfl, ⟨hl.state, hl.pending, hl.fn, ?_, hl.params, hl.assign, hl.body, by rw [hl.defers, hle.blk _ hl2.lt], hl2.lt⟩⟩
    have e1 : k.tmps = k2.tmps := by
      refine ext_getD (by have := hl.tmps.1; have := hl2.tmps.1; omega) fun j _ => ?_
      exact ((hl2.tmps.2 j).mono hle hn).unique _ (hl.tmps.2 j)
    rw [e1]
    exact hl2.tmps
  | deferred c =>
    rcases c with _ | ⟨_ | ⟨d, ds⟩⟩
    · exact hr
    · exact hr
    · obtain ⟨fs, ck, rfl, a1, a2⟩ := hr
      obtain ⟨fs2, ck2, rfl, b1, b2⟩ := hq
      have key : ∀ x ∈ d :: ds, ∀ e : MapEntry, UE i' h'.n x e → UE i h.n x e := fun x hx e he => by
        obtain ⟨a, v, q1, q2, q3⟩ := he
        obtain ⟨e2, _, a', v', p1, p2, p3⟩ := b2 x hx
        rw [q1] at p1
        simp only [Array.mk.injEq, List.cons.injEq, Value.int.injEq, true_and, and_true] at p1
        obtain ⟨rfl, rfl⟩ := p1
        refine ⟨a, v, q1, q2, ?_⟩
        have := (p3.mono hle hn).unique _ q3
        rw [this]
        exact p3
      exact ⟨fs, ck, rfl, fun e he => let ⟨x, hx, g⟩ := a1 e he; ⟨x, hx, key x hx e g⟩, fun x hx => let ⟨e, he, g⟩ := a2 x hx; ⟨e, he, key x hx e g⟩⟩
  | _ => exact hr.elim

/-- Reading of a cell. -/
theorem Sat.cell {P : Program} {i : Ren} {h : AH} {w0 w : World} (s : Sat P i h w0 w) {b : Nat} {cs : Array Value} {e : TypeId} {fr : Nat × Nat} (hb : h.obj b = some (.cells cs e fr)) {j : Nat} (hj : j < cs.size) :
    ∃ v, w.cell? ⟨i.blk b, j, none⟩ = some v ∧ VRel i h.n (cs.getD j undef) v ∧ w.frozen? ⟨i.blk b, j, none⟩ = false := by
  obtain ⟨h1, h2, h3, h4⟩ := s.obj b _ hb
  obtain ⟨o', ho, ds, fr', rfl, a1, a2, a3, a4⟩ := h4 (by simp only [solid, bne_iff_ne]; omega)
  have hjd : j < ds.size := by omega
  refine ⟨ds.getD j undef, by simp [World.cell?, ho, hjd], a2 j hj, ?_⟩
  have := a3.no j hjd
  simp only [World.frozen?, ho]
  simp only [Bool.and_eq_false_iff, decide_eq_false_iff_not]
  omega

/-- The end of a row is frozen. -/
theorem Sat.freeze {P : Program} {i : Ren} {h : AH} {w0 w : World} (s : Sat P i h w0 w) {b : Nat} {cs : Array Value} {e : TypeId} {fr : Nat × Nat} (hb : h.obj b = some (.cells cs e fr)) (hs : cs.size ≠ 0) (hgl : GL ≤ b) :
    ∃ ds fr', w.heap[i.blk b]? = some (.cells ds e fr') ∧ Sat P i h w0 (w.freeze ⟨i.blk b, ds.size, none⟩ 1) := by
  obtain ⟨h1, h2, h3, h4⟩ := s.obj b _ hb
  have hso : solid (.cells cs e fr) = true := by simp only [solid, bne_iff_ne]; exact hs
  obtain ⟨o', ho, ds, fr', rfl, a1, a2, a3, a4⟩ := h4 hso
  refine ⟨ds, fr', ho, ?_⟩
  have hput : (h.put b (.cells cs e fr)).obj = h.obj := by
    funext c
    rw [AH.obj_put]
    split
    · rename_i e; rw [e, hb]
    · rfl
  have hsz : (w.freeze ⟨i.blk b, ds.size, none⟩ 1).heap.size = w.heap.size := by simp [World.freeze]
  have hot : ∀ k : Nat, k ≠ i.blk b → (w.freeze ⟨i.blk b, ds.size, none⟩ 1).heap[k]? = w.heap[k]? := fun k hk => by
    simp only [World.freeze]
    rw [if_neg (by omega)]
    simp only [Array.getElem?_modify]
    rw [if_neg (Ne.symm hk)]
  have s1 := s.put (w' := w.freeze ⟨i.blk b, ds.size, none⟩ 1) hb hso ⟨rfl, rfl, rfl, by rw [hsz]; exact Nat.le_refl _, fun k hk => hot k (by have := h2 hgl; omega)⟩ hsz hot (p := .cells cs e fr) fun _ => by
    refine ⟨.cells ds e (if fr'.1 == fr'.2 then (ds.size, ds.size + 1) else (min fr'.1 ds.size, max fr'.2 (ds.size + 1))), ?_, ds, _, rfl, a1, a2, ?_, a4⟩
    · simp only [World.freeze]
      rw [if_neg (by omega)]
      simp [Array.getElem?_modify, ho]
    · rcases a3 with a3 | a3
      · rw [if_pos (by simpa using a3)]; exact .inr (Nat.le_refl _)
      · split
        · exact .inr (Nat.le_refl _)
        · exact .inr (by simp; omega)
  exact ⟨s1.below, s.ro, fun c o hc => s1.obj c o (by rw [hput]; exact hc), fun c d o o' hc hd => s1.inj c d o o' (by rw [hput]; exact hc) (by rw [hput]; exact hd), s.glr, s.idn⟩

/-- Writing of a cell. -/
theorem Sat.setCell {P : Program} {i : Ren} {h : AH} {w0 w : World} (s : Sat P i h w0 w) {b : Nat} {cs : Array Value} {e : TypeId} {fr : Nat × Nat} (hb : h.obj b = some (.cells cs e fr)) {j : Nat} (hj : j < cs.size) (hro : h.ro ≤ b)
    {v v' : Value} (hv : VRel i h.n v v') : Sat P i (h.put b (.cells (cs.setIfInBounds j v) e fr)) w0 (w.setCell ⟨i.blk b, j, none⟩ v') := by
  obtain ⟨h1, h2, h3, h4⟩ := s.obj b _ hb
  have hs : solid (.cells cs e fr) = true := by simp only [solid, bne_iff_ne]; omega
  obtain ⟨o', ho, ds, fr', rfl, a1, a2, a3, a4⟩ := h4 hs
  refine s.put hb hs ((Below.refl _ w).setCell (h2 (Nat.le_trans s.glr hro)) _) (by simp) (fun k hk => Below.heap_setCell _ _ _ _ hk) fun _ => ?_
  refine ⟨.cells (ds.setIfInBounds j v') e fr', by simp [World.setCell, Array.getElem?_modify, ho], ds.setIfInBounds j v', fr', rfl, by simpa using a1, fun k hk => ?_, by simpa using a3, by simpa using a4⟩
  have hk' : k < cs.size := by simpa using hk
  by_cases e1 : j = k
  · subst e1
    have e2 : (cs.setIfInBounds j v).getD j undef = v := by simp [hj]
    have e3 : (ds.setIfInBounds j v').getD j undef = v' := by simp [(by omega : j < ds.size)]
    rw [e2, e3]; exact hv
  · have e2 : (cs.setIfInBounds j v).getD k undef = cs.getD k undef := by simp [Array.getElem?_setIfInBounds_ne e1]
    have e3 : (ds.setIfInBounds j v').getD k undef = ds.getD k undef := by simp [Array.getElem?_setIfInBounds_ne e1]
    rw [e2, e3]; exact a2 k hk'

theorem VRel.oneCell {i : Ren} {n : Nat} {v w : Value} (h : VRel i n v w) (hv : v.oneCell' = true) : w.oneCell' = true := by
  cases h <;> first | rfl | exact hv

theorem VRel.cells {i : Ren} {n : Nat} {v w : Value} (h : VRel i n v w) : ARel i n v.cells w.cells := by
  have one : ∀ {x y : Value}, VRel i n x y → ARel i n #[x] #[y] := fun {x y} hxy => ARel.of_lt rfl fun j hj => by
    have : j = 0 := by simp at hj; omega
    subst this
    exact hxy
  cases h with
  | agg xs ys hs hx => exact ⟨hs, hx⟩
  | one v hv =>
    cases v with
    | agg cs => simp [flat1] at hv
    | _ => exact one (.one _ hv)
  | ptr a ha => exact one (.ptr a ha)
  | slice a l c ha => exact one (.slice a l c ha)
  | map r hr => exact one (.map r hr)
  | func fn xs ys cs ds a1 a2 a3 a4 a5 => exact one (.func fn xs ys cs ds a1 a2 a3 a4 a5)
  | iface t v w hv => exact one (.iface t v w hv)
  | tuple xs ys hs hx => exact one (.tuple xs ys hs hx)

theorem VRel.agg' {i : Ren} {n : Nat} {xs ys : Array Value} (h : ARel i n xs ys) : VRel i n (.agg xs) (.agg ys) := .agg xs ys h.1 h.2

end Go.Proofs.Ev
