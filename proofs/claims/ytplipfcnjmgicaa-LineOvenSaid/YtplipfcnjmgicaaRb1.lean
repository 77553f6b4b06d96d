/-
  A RANGE OVER AN ITERATOR THAT WRITES WHAT IT LAID ITSELF, by a body that may leave. No statement is proved here.
-/
import Derived.Test.YtplipfcnjmgicaaRows
import Derived.RangeFuncFrom
import Derived.RangeFuncLeaves
import Derived.RangeFuncBound
import Derived.WalkMore
namespace Go.Proofs.Ytplipfcnjmgicaa
open Go.RowKit
set_option linter.unusedVariables false

/-- What lies before lo, or from hi on, lies as it lay. -/
structure Around (lo hi : Nat) (V V' : World) : Prop where
  size : V.heap.size ≤ V'.heap.size
  block : ∀ k, k < V.heap.size → (k < lo ∨ hi ≤ k) → V'.heap[k]? = V.heap[k]?
theorem Around.refl (lo hi : Nat) (V : World) : Around lo hi V V := ⟨Nat.le_refl _, fun _ _ _ => rfl⟩
theorem Around.trans {lo hi : Nat} {A B C : World} (h : Around lo hi A B) (k : Around lo hi B C) : Around lo hi A C :=
  ⟨Nat.le_trans h.size k.size, fun i h1 h2 => (k.block i (Nat.lt_of_lt_of_le h1 h.size) h2).trans (h.block i h1 h2)⟩
theorem Around.of_below {lo hi : Nat} {V V' : World} (h : Below V.heap.size V V') : Around lo hi V V' := ⟨h.size, fun k hk _ => h.block k hk⟩
theorem Around.alloc (lo hi : Nat) (V : World) (o : Obj) : Around lo hi V (V.alloc o) := .of_below ((Below.refl _ V).alloc (Nat.le_refl _) o)
theorem Around.setCell {lo hi : Nat} {A V : World} (h : Around lo hi A V) {p : Addr} (h1 : lo ≤ p.block) (h2 : p.block < hi) (u : Value) : Around lo hi A (V.setCell p u) :=
  h.trans ⟨by simp [World.setCell], fun k _ hk => Below.heap_setCell _ _ _ _ (by omega)⟩
theorem Around.drew {lo hi : Nat} {A V : World} (h : Around lo hi A V) : Around lo hi A V.drew := ⟨h.size, h.block⟩
theorem Around.mono {lo hi lo' hi' : Nat} {A V : World} (h : Around lo hi A V) (h1 : lo' ≤ lo) (h2 : hi ≤ hi') : Around lo' hi' A V := ⟨h.size, fun k a b => h.block k a (b.imp (fun x => by omega) (fun x => by omega))⟩
theorem Around.cell {lo hi : Nat} {V V' : World} (h : Around lo hi V V') {p : Addr} (h1 : p.block < V.heap.size) (h2 : p.block < lo ∨ hi ≤ p.block) : V'.cell? p = V.cell? p := World.cell?_of_block (h.block _ h1 h2)
theorem Around.frozen {lo hi : Nat} {V V' : World} (h : Around lo hi V V') {p : Addr} (h1 : p.block < V.heap.size) (h2 : p.block < lo ∨ hi ≤ p.block) : V'.frozen? p = V.frozen? p := by
  unfold World.frozen?
  rw [h.block _ h1 h2]

/-- The same, but for one block. -/
structure AroundL (lo hi l : Nat) (V V' : World) : Prop where
  size : V.heap.size ≤ V'.heap.size
  block : ∀ k, k < V.heap.size → k ≠ l → (k < lo ∨ hi ≤ k) → V'.heap[k]? = V.heap[k]?
theorem AroundL.around {lo hi l lo' hi' : Nat} {V V' : World} (h : AroundL lo hi l V V') (h1 : lo' ≤ lo) (h2 : hi ≤ hi') (h3 : lo' ≤ l) (h4 : l < hi') : Around lo' hi' V V' :=
  ⟨h.size, fun k a b => h.block k a (by omega) (b.imp (fun x => by omega) (fun x => by omega))⟩
theorem AroundL.cell {lo hi l : Nat} {V V' : World} (h : AroundL lo hi l V V') {p : Addr} (h1 : p.block < V.heap.size) (hl : p.block ≠ l) (h2 : p.block < lo ∨ hi ≤ p.block) : V'.cell? p = V.cell? p := World.cell?_of_block (h.block _ h1 hl h2)
theorem AroundL.frozen {lo hi l : Nat} {V V' : World} (h : AroundL lo hi l V V') {p : Addr} (h1 : p.block < V.heap.size) (hl : p.block ≠ l) (h2 : p.block < lo ∨ hi ≤ p.block) : V'.frozen? p = V.frozen? p := by
  unfold World.frozen?
  rw [h.block _ h1 hl h2]

/-- What the iterator answers to any body that writes from lo to hi alone: it writes nothing that lay when it was called. -/
def SeqBack {α : Type} (F : Fence) (n : Nat) (P : Program) (g : Nat) (lb : Array Value) (encs : α → Array Value) (lo hi : Nat) (S Sp : List α → Prop) (w : World) : Prop :=
  ∀ (l : Nat) (J Jx : List α → World → Prop) (W : World), Below w.heap.size w W → lo ≤ l → w.heap.size ≤ l → l < W.heap.size → hi ≤ W.heap.size →
    (∀ s A B, J s A → Below W.heap.size A B → J s B) → (∀ s A B, Jx s A → Below W.heap.size A B → Jx s B) →
    (∀ pre x V, J pre V → YieldAt F (n - 1) P l (encs x) V fun e V' =>
      (e = .returned (.bool true) ∧ J (pre ++ [x]) V' ∧ AroundL lo hi l V V') ∨ (e = .returned (.bool false) ∧ Jx (pre ++ [x]) V' ∧ AroundL lo hi l V V')) →
    J [] W → CallsIn F n P g (#[.func (.yield l) #[] #[]] ++ lb) W fun e V => (∃ v, e = .returned v) ∧ ((∃ xs, S xs ∧ J xs V) ∨ ∃ pre, Sp pre ∧ Jx pre V)

/-- What a body's walk ends in. -/
def backPost {α : Type} (lo hi : Nat) (I : List α → World → Prop) (Ix : Code → List α → World → Prop) (xs : List α) (W : World) : Exit → Act → World → Prop
  | .normal, _, V => Around lo hi W V ∧ I xs V
  | .ret, _, V => Around lo hi W V ∧ Ix .ret xs V
  | .exit id, _, V => Around lo hi W V ∧ Ix (.exit id) xs V
  | .goto t, _, V => Around lo hi W V ∧ Ix (.goto t) xs V
  | .panic _, _, _ => False
  | .outgrown, _, _ => False

theorem wpIn_rangeBack {F : Fence} {n : Nat} {P : Program} {α : Type} {g : Operand} {ps : Array Tmp} {assign body : Code} {Q : Exit → Act → World → Prop} {a : Act} {w : World}
    (hro : F.round = none) (h1 : 1 ≤ n) {gf : Nat} {lb : Array Value} (hg : a.eval g = .func (.func gf) #[] lb) (hF : F.fn gf) (eg : ∀ args w, (callFunc gf args).run P w = .ok (.enter gf args) w)
    {encs : α → Array Value} {lo hi : Nat} {S Sp : List α → Prop} {w0 : World} (hseq : SeqBack F (n - 1) P gf lb encs lo hi S Sp w0) (hb0 : Below w0.heap.size w0 w) (hps : ∀ x, (encs x).size = ps.size) (hlo : lo ≤ w.heap.size) (hhi : hi ≤ w.heap.size)
    (I : List α → World → Prop) (Ix : Code → List α → World → Prop) (hI : ∀ s A V, I s A → Below w.heap.size A V → I s V) (hIx : ∀ c s A V, Ix c s A → Below w.heap.size A V → Ix c s V) (h0 : I [] w)
    (I' : List α → α → Act → World → Prop) (hI' : ∀ pre x a, OwnFrom w.heap.size (fun (_ : Unit) W => I' pre x a W))
    (hassign : ∀ (l : Nat) (pre : List α) (x : α) (W : World), I pre W → w.heap.size < W.heap.size →
      assign.wpIn (F.inRound l) (n - 1 - 1) P (Exit.then (fun a₁ V => Around lo hi W V ∧ I' pre x a₁ V) (fun _ _ _ => False)) { tmps := (ps.zip (encs x)).foldl (fun t (p, v) => t.setIfInBounds p v) a.tmps, defers := [] } W)
    (hbody : ∀ (l : Nat) (pre : List α) (x : α) (a₁ : Act) (W : World), I' pre x a₁ W → w.heap.size < W.heap.size → body.wpIn (F.inRound l) (n - 1 - 1) P (backPost lo hi I Ix (pre ++ [x]) W) a₁ W)
    (hdone : ∀ (xs : List α) (W : World), S xs → I xs W → W.heap[w.heap.size]? = some (.deferred (some [])) → Q .normal { a with defers := { target := .collected w.heap.size, args := #[] } :: a.defers } W)
    (hstop : ∀ (c : Code) (pre : List α) (W : World), Sp pre → Ix c pre W → W.heap[w.heap.size]? = some (.deferred (some [])) → c.wpIn F n P Q { a with defers := { target := .collected w.heap.size, args := #[] } :: a.defers } W) :
    (Code.rangeFunc g ps assign body).wpIn F n P Q a w := by
  refine wpIn_rangeFunc fun fn hfn => ?_
  rw [hro]
  generalize hD : w.heap.size = D at *
  let rec0 : LoopState → Option Code → Loop := fun st pe => { state := st, pending := pe, fn, tmps := a.tmps, params := ps, assign, body, defers := D }
  let Two : LoopState → Option Code → World → Prop := fun st pe V => V.heap[D + 1]? = some (.loop (rec0 st pe)) ∧ V.heap[D]? = some (.deferred (some []))
  let Start : World := (w.alloc (.deferred (some []))).alloc (.loop (rec0 .ready none))
  have hSs : Start.heap.size = D + 2 := by simp [Start]; omega
  have hTwo : Two .ready none Start := by
    constructor
    · have := World.alloc_heap_new (w.alloc (.deferred (some []))) (.loop (rec0 .ready none))
      rwa [World.size_alloc, hD] at this
    · have := World.alloc_heap_new w (.deferred (some []))
      rw [hD] at this
      exact (Below.heap_alloc _ _ _ (by simp [hD])).trans this
  have lt2 : ∀ {st : LoopState} {pe : Option Code} {V : World}, Two st pe V → D + 1 < V.heap.size := fun h => (Array.getElem?_eq_some_iff.1 h.1).1
  have put : ∀ {st : LoopState} {pe : Option Code} (st' : LoopState) (pe' : Option Code) {V : World}, Two st pe V → Two st' pe' (V.putObj (D + 1) (.loop (rec0 st' pe'))) := fun st' pe' V h =>
    ⟨World.putObj_heap_same (Array.getElem?_eq_some_iff.1 h.1).1, (World.putObj_heap_other (by omega)).trans h.2⟩
  have bput : ∀ (V : World) (o : Obj), D + 1 < V.heap.size → Below D V (V.putObj (D + 1) o) := fun V o h =>
    (Below.refl D V).grown (grownBy_putObj' V (D + 1) o) (by omega) (fun k e => by cases e; omega)
  have keep : ∀ {st : LoopState} {pe : Option Code} {V V' : World}, Two st pe V → Around lo hi V V' → Two st pe V' := fun h ha =>
    ⟨(ha.block _ (lt2 h) (.inr (by omega))).trans h.1, (ha.block _ (by have := lt2 h; omega) (.inr (by omega))).trans h.2⟩
  have enter : (Instr.enterLoop fn a.tmps ps assign body none).run P w = .ok (D + 1, [{ target := .collected D, args := #[] }]) Start := by
    have := run_enterLoop_outer (P := P) (w := w) fn a.tmps ps assign body
    rw [hD] at this
    exact this
  refine ⟨D + 1, [{ target := .collected D, args := #[] }], Start, { target := .fn (.func gf) lb, args := #[.func (.yield (D + 1)) #[] #[]] }, Start, gf, #[.func (.yield (D + 1)) #[] #[]] ++ lb, Start, enter, ?_, ?_, ?_, fun _ => h1, ?_⟩
  · simp only [resolve, hg]
    simp [go_sem]
  · intro f' hf'
    simp [Target.leads] at hf'
    exact hf' ▸ hF
  · simp [invoke, go_sem, eg]
  have hwS : Below D w Start := by
    refine ⟨rfl, rfl, rfl, by simp [Start]; omega, fun k hk => ?_⟩
    exact (Below.heap_alloc _ _ k (by rw [World.size_alloc]; omega)).trans (Below.heap_alloc _ _ k (by omega))
  have hbS : Below w0.heap.size w0 Start := hb0.trans (hwS.mono (by have := hb0.size; omega))
  refine (hseq (D + 1) (fun pre V => I pre V ∧ Two .ready none V) (fun pre V => ∃ c, Ix c pre V ∧ Two .done (some c) V) Start hbS (by omega) (by have := hb0.size; omega) (by omega) (by omega)
    (fun s A B h hm => ⟨hI s A B h.1 (hm.mono (by omega)), (hm.block _ (by omega)).trans h.2.1, (hm.block _ (by omega)).trans h.2.2⟩)
    (fun s A B h hm => by obtain ⟨c, h1, h2⟩ := h; exact ⟨c, hIx c s A B h1 (hm.mono (by omega)), (hm.block _ (by omega)).trans h2.1, (hm.block _ (by omega)).trans h2.2⟩)
    ?round ⟨hI _ _ _ h0 hwS, hTwo⟩).mono ?behind
  case round =>
    rintro pre x V ⟨hi0, ht⟩
    have hlt := lt2 ht
    have hy := run_yield (P := P) (args := encs x) ht.1 (hps x)
    refine ⟨fn, _, assign, body, hy, roundIn_of_wpIn hfn (wpIn_mono (hassign _ pre x V hi0 (by omega)) ?_)⟩
    rintro e1 a1 V1 hp1
    cases e1 with
    | normal =>
      obtain ⟨ha1, hi1⟩ := hp1
      have t1 := keep ht ha1
      refine ⟨_, run_beginRound t1.1 rfl, ?_⟩
      have hb := put .busy none t1
      have hlt1 := lt2 t1
      refine wpIn_mono (hbody _ pre x a1 _ ((hI' pre x a1).putObj (s := ()) _ hi1 (by omega) t1.1 rfl) (by simp; omega)) ?_
      have around : ∀ (W3 : World) (o : Obj), Around lo hi (V1.putObj (D + 1) (.loop (rec0 .busy none))) W3 → AroundL lo hi (D + 1) V (W3.putObj (D + 1) o) := fun W3 o ha => by
        refine ⟨?_, fun k hk hl hc => ?_⟩
        · have := ha1.size; have := ha.size; simp at this ⊢; omega
        · rw [World.putObj_heap_other (by omega), ha.block k (by have := ha1.size; simp; omega) hc, World.putObj_heap_other (by omega), ha1.block k hk hc]
      rintro e a3 W3 hp
      cases e with
      | normal =>
        obtain ⟨ha, hi3⟩ := hp
        have h3 := keep hb ha
        exact ⟨_, _, run_endRound (P := P) none h3.1, .inl ⟨rfl, ⟨hI _ _ _ hi3 (bput _ _ (lt2 h3)), put .ready none h3⟩, around _ _ ha⟩⟩
      | ret =>
        obtain ⟨ha, hi3⟩ := hp
        have h3 := keep hb ha
        exact ⟨_, _, run_endRound (P := P) (some .ret) h3.1, .inr ⟨rfl, ⟨_, hIx _ _ _ _ hi3 (bput _ _ (lt2 h3)), put .done (some .ret) h3⟩, around _ _ ha⟩⟩
      | exit id =>
        obtain ⟨ha, hi3⟩ := hp
        have h3 := keep hb ha
        exact ⟨_, _, run_endRound (P := P) (some (.exit id)) h3.1, .inr ⟨rfl, ⟨_, hIx _ _ _ _ hi3 (bput _ _ (lt2 h3)), put .done (some (.exit id)) h3⟩, around _ _ ha⟩⟩
      | goto t =>
        obtain ⟨ha, hi3⟩ := hp
        have h3 := keep hb ha
        exact ⟨_, _, run_endRound (P := P) (some (.goto t)) h3.1, .inr ⟨rfl, ⟨_, hIx _ _ _ _ hi3 (bput _ _ (lt2 h3)), put .done (some (.goto t)) h3⟩, around _ _ ha⟩⟩
      | _ => exact hp.elim
    | _ => exact hp1.elim
  case behind =>
    rintro e W2 ⟨⟨v, rfl⟩, ⟨xs, hs, hi2, ht⟩ | ⟨pre, hs, c, hi2, ht⟩⟩
    · exact ⟨none, _, run_endLoop (P := P) ht.1 (by simp [rec0]), hdone xs _ hs (hI _ _ _ hi2 (bput _ _ (lt2 ht))) ((World.putObj_heap_other (by omega)).trans ht.2)⟩
    · exact ⟨some c, _, run_endLoop (P := P) ht.1 (by simp [rec0]), hstop c pre _ hs (hIx _ _ _ _ hi2 (bput _ _ (lt2 ht))) ((World.putObj_heap_other (by omega)).trans ht.2)⟩
end Go.Proofs.Ytplipfcnjmgicaa
