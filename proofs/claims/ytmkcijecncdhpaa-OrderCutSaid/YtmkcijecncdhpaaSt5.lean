/-
  THE ORDERS THAT ARE DONE; Run. No statement is proved here.
-/
import Derived.Test.YtmkcijecncdhpaaRows
import Derived.RangeFuncFrom
import Derived.RangeFuncLeaves
import Derived.RangeFuncBound
import Derived.Test.YtmkcijecncdhpaaSt4
import Derived.Stop.RegionWithIn
import Derived.WalkMore
import Derived.Test.YtmkcijecncdhpaaOw16
namespace Go.Proofs.Ytmkcijecncdhpaa
open Go.RowKit
set_option linter.unusedVariables false

/-- What the iterator answers to any body that goes on: Mv, what it does to the memory between two rounds; Kp, what it wants kept; S, what holds behind it. -/
def SeqMoves {α : Type} (F : Fence) (n : Nat) (P : Program) (g : Nat) (lb : Array Value) (encs : α → Array Value) (Mv Kp : World → World → Prop) (S : List α → World → Prop) (N : Nat) (w : World) : Prop :=
  ∀ (l : Nat) (J : List α → World → Prop) (W : World), Below w.heap.size w W → (∀ s A B, J s A → Mv A B → J s B) →
    (∀ pre x V, J pre V → pre.length < N → YieldAt F (n - 1) P l (encs x) V fun e V' => e = .returned (.bool true) ∧ J (pre ++ [x]) V' ∧ Kp V V') →
    J [] W → CallsIn F n P g (#[.func (.yield l) #[] #[]] ++ lb) W fun e V => (∃ v, e = .returned v) ∧ ∃ xs, S xs V ∧ J xs V

/-- A relation between two worlds that a turn of a block of the law's own keeps. -/
def TurnOk (B : Nat) (R : World → World → Prop) : Prop := ∀ (V : World) (k : Nat) (o o' : Obj), B ≤ k → V.heap[k]? = some o → o.isCells = false → o.isWalk = false → R V (V.putObj k o')
/-- Blocks that are no cells stay. -/
def StaysOk (B : Nat) (R : World → World → Prop) : Prop := ∀ (V V' : World) (k : Nat) (o : Obj), R V V' → B ≤ k → V.heap[k]? = some o → o.isCells = false → V'.heap[k]? = some o
/-- What a body's walk ends in. -/
def GoesOn {α : Type} (Kp : World → World → Prop) (I : List α → World → Prop) (xs : List α) (W : World) : Exit → Act → World → Prop
  | .normal, _, V => KeepsOthers W V ∧ Kp W V ∧ I xs V
  | _, _, _ => False

theorem wpIn_rangeMoves {F : Fence} {n : Nat} {P : Program} {α : Type} {g : Operand} {ps : Array Tmp} {assign body : Code} {Q : Exit → Act → World → Prop} {a : Act} {w : World}
    (hro : F.round = none) (h1 : 1 ≤ n) {gf : Nat} {lb : Array Value} (hg : a.eval g = .func (.func gf) #[] lb) (hF : F.fn gf) (eg : ∀ args w, (callFunc gf args).run P w = .ok (.enter gf args) w)
    {encs : α → Array Value} {Mv Kp : World → World → Prop} {S : List α → World → Prop} {N : Nat} {w0 : World} (hseq : SeqMoves F (n - 1) P gf lb encs Mv Kp S N w0) (hb0 : Below w0.heap.size w0 w) (hps : ∀ x, (encs x).size = ps.size)
    (hKt : ∀ {A B C : World}, Kp A B → Kp B C → Kp A C) (hKb : TurnOk w.heap.size Kp) (hMs : StaysOk w.heap.size Mv)
    (I : List α → World → Prop) (hI : OwnFrom w.heap.size I) (hIM : ∀ s A B, I s A → Mv A B → I s B) (hS : OwnFrom w.heap.size S) (h0 : I [] w) (a₁ : α → Act)
    (hassign : ∀ (l : Nat) (x : α) (W : World) (K : Act → World → Prop), K (a₁ x) W →
      assign.wpIn (F.inRound l) (n - 1 - 1) P (Exit.then K (fun _ _ _ => False)) { tmps := (ps.zip (encs x)).foldl (fun t (p, v) => t.setIfInBounds p v) a.tmps, defers := [] } W)
    (hbody : ∀ (l : Nat) (pre : List α) (x : α) (W : World), I pre W → pre.length < N → body.wpIn (F.inRound l) (n - 1 - 1) P (GoesOn Kp I (pre ++ [x]) W) (a₁ x) W)
    (hdone : ∀ (D : Nat) (xs : List α) (W : World), w.heap.size ≤ D → S xs W → I xs W → W.heap[D]? = some (.deferred (some [])) → Q .normal { a with defers := { target := .collected D, args := #[] } :: a.defers } W) :
    (Code.rangeFunc g ps assign body).wpIn F n P Q a w := by
  refine wpIn_rangeFunc fun fn hfn => ?_
  rw [hro]
  generalize hD : w.heap.size = D at *
  -- the two blocks that the statement lays: the calls that rounds defer, and the loop's record
  let rec0 : LoopState → Option Code → Loop := fun st pe => { state := st, pending := pe, fn, tmps := a.tmps, params := ps, assign, body, defers := D }
  let Two : LoopState → World → Prop := fun st V => V.heap[D + 1]? = some (.loop (rec0 st none)) ∧ V.heap[D]? = some (.deferred (some []))
  let Start : World := (w.alloc (.deferred (some []))).alloc (.loop (rec0 .ready none))
  have hTwo : Two .ready Start := by
    constructor
    · have := World.alloc_heap_new (w.alloc (.deferred (some []))) (.loop (rec0 .ready none))
      rwa [World.size_alloc, hD] at this
    · have := World.alloc_heap_new w (.deferred (some []))
      rw [hD] at this
      exact (Below.heap_alloc _ _ _ (by simp [hD])).trans this
  have put : ∀ {st : LoopState} (st' : LoopState) {V : World}, Two st V → Two st' (V.putObj (D + 1) (.loop (rec0 st' none))) := fun st' V h =>
    ⟨World.putObj_heap_same (Array.getElem?_eq_some_iff.1 h.1).1, (World.putObj_heap_other (by omega)).trans h.2⟩
  have enter : (Instr.enterLoop fn a.tmps ps assign body none).run P w = .ok (D + 1, [{ target := .collected D, args := #[] }]) Start := by
    have := run_enterLoop_outer (P := P) (w := w) fn a.tmps ps assign body
    rw [hD] at this
    exact this
  refine ⟨D + 1, [{ target := .collected D, args := #[] }], Start, { target := .fn (.func gf) lb, args := #[.func (.yield (D + 1)) #[] #[]] }, Start, gf, #[.func (.yield (D + 1)) #[] #[]] ++ lb, Start, enter, ?_, ?_, ?_, fun _ => h1, ?_⟩
  · simp only [resolve, hg]
    simp [go_sem]
  · intro f' hf'
    simp [Target.leads] at hf'
    exact hf' ▸ hF
  · simp [invoke, go_sem, eg]
  have hbS : Below w0.heap.size w0 Start := by
    refine hb0.trans ⟨rfl, rfl, rfl, by simp [Start]; omega, fun k hk => ?_⟩
    have := hb0.size
    exact (Below.heap_alloc _ _ k (by rw [World.size_alloc]; omega)).trans (Below.heap_alloc _ _ k (by omega))
  refine (hseq (D + 1) (fun pre V => I pre V ∧ Two .ready V) Start hbS (fun s A B h hm => ⟨hIM s A B h.1 hm, hMs A B _ _ hm (by omega) h.2.1 rfl, hMs A B _ _ hm (Nat.le_refl _) h.2.2 rfl⟩) ?round ⟨hI.alloc _ (hI.alloc _ h0), hTwo⟩).mono ?behind
  case round =>
    rintro pre x V ⟨hi, ht⟩ hlen
    have hy := run_yield (P := P) (args := encs x) ht.1 (hps x)
    refine ⟨fn, _, assign, body, hy, roundIn_of_wpIn hfn (hassign _ x V _ ⟨_, run_beginRound ht.1 rfl, ?_⟩)⟩
    have hb := put .busy ht
    refine wpIn_mono (hbody _ pre x _ (hI.putObj _ hi (by omega) ht.1 rfl) hlen) ?_
    rintro e a3 W3 hp
    cases e with
    | normal =>
      obtain ⟨hk, hkp, hi3⟩ := hp
      have h3 : Two .busy W3 := ⟨hk.same _ _ hb.1 rfl, hk.same _ _ hb.2 rfl⟩
      exact ⟨_, _, run_endRound (P := P) none h3.1, rfl, ⟨hI.putObj _ hi3 (by omega) h3.1 rfl, put .ready h3⟩, hKt (hKt (hKb V _ _ _ (by omega) ht.1 rfl rfl) hkp) (hKb W3 _ _ _ (by omega) h3.1 rfl rfl)⟩
    | _ => exact hp.elim
  case behind =>
    rintro e W2 ⟨⟨v, rfl⟩, xs, hs, hi, ht⟩
    exact ⟨none, _, run_endLoop (P := P) ht.1 (by simp [rec0]), hdone D xs _ (Nat.le_refl _) (hS.putObj _ hs (by omega) ht.1 rfl) (hI.putObj _ hi (by omega) ht.1 rfl) ((World.putObj_heap_other (by omega)).trans ht.2)⟩
end Go.Proofs.Ytmkcijecncdhpaa
namespace Go.Proofs.Ytmkcijecncdhpaa
open Go.RowKit
set_option linter.unusedVariables false
set_option linter.unusedSimpArgs false

namespace MS
/-- The state after k orders, each of them done. -/
def goN : Nat → MS → MS
  | 0, s => s
  | k + 1, s => (goN k s).go
theorem goN_succ (k : Nat) : ∀ s : MS, goN (k + 1) s = goN k s.go := by
  induction k with
  | zero => intro s; rfl
  | succ k ih => intro s; show (goN (k + 1) s).go = (goN k s.go).go; rw [ih]
theorem run_goes {n : Nat} : ∀ {s : MS}, (∀ j, j < n → (goN j s).ends = 0) → run n s = goN n s := by
  induction n with
  | zero => intro s _; rfl
  | succ n ih =>
    intro s h
    have h0 : s.ends = 0 := h 0 (by omega)
    unfold run
    rw [if_pos h0, goN_succ, ih fun j hj => by rw [← goN_succ]; exact h (j + 1) (by omega)]
theorem run_ends {n k : Nat} : ∀ {s : MS}, k < n → (∀ j, j < k → (goN j s).ends = 0) → (goN k s).ends ≠ 0 → run n s = (goN k s).ended := by
  induction n generalizing k with
  | zero => intro s h; omega
  | succ n ih =>
    intro s hk h hk0
    cases k with
    | zero =>
      unfold run
      rw [if_neg (show s.ends ≠ 0 from hk0)]
      rfl
    | succ k =>
      have h0 : s.ends = 0 := h 0 (by omega)
      unfold run
      rw [if_pos h0, goN_succ]
      exact ih (by omega) (fun j hj => by rw [← goN_succ]; exact h (j + 1) (by omega)) (by rw [← goN_succ]; exact hk0)
theorem Ok.goN {s : MS} (h : s.Ok) : ∀ k, (∀ j, j < k → (MS.goN j s).ends = 0) → (MS.goN k s).Ok := by
  intro k
  induction k with
  | zero => intro _; exact h
  | succ k ih => intro hk; exact (ih fun j hj => hk j (by omega)).go (hk k (by omega))
/-- The states in which the first k orders are taken. -/
def taken_ (k : Nat) (s : MS) : List MS := (List.range k).map fun j => goN j s
theorem taken_succ (k : Nat) (s : MS) : taken_ (k + 1) s = taken_ k s ++ [goN k s] := by
  unfold taken_
  rw [List.range_succ, List.map_append]
  rfl
theorem taken_length (k : Nat) (s : MS) : (taken_ k s).length = k := by simp [taken_]
end MS

/-- The machine's own blocks in a world. -/
def MBw (B b g0 : Nat) (A1 : Option Addr) (U : World) (k : Nat) : Prop :=
  B ≤ k ∧ (k = b ∨ k = g0 ∨ blk A1 k ∨ ∃ a n c, U.cell? ⟨b, 3, none⟩ = some (.slice (some a) n c) ∧ a.block = k ∧ ∃ cs e fz, U.heap[k]? = some (.cells cs e fz))
section
variable {B b g0 : Nat} {A1 A3 : Option Addr} {c0 c1 c3 : Nat} {s : MS} {U V : World}
theorem MachAt.mbw (h : MachAt B U b g0 A1 A3 c0 c1 c3 s) (k : Nat) : MBw B b g0 A1 U k ↔ MB b g0 A1 A3 k := by
  constructor
  · rintro ⟨_, h1 | h1 | h1 | ⟨a, n, c, h1, rfl, _⟩⟩
    · exact .inl h1
    · exact .inr (.inl h1)
    · exact .inr (.inr (.inl h1))
    · rw [h.st.c3] at h1
      simp only [Option.some.injEq, Value.slice.injEq] at h1
      exact .inr (.inr (.inr ⟨a, h1.1, rfl⟩))
  · intro hk
    refine ⟨(h.blocks hk).1, ?_⟩
    rcases hk with h1 | h1 | h1 | ⟨a, rfl, rfl⟩
    · exact .inl h1
    · exact .inr (.inl h1)
    · exact .inr (.inr (.inl h1))
    · refine .inr (.inr (.inr ⟨a, _, _, h.st.c3, rfl, ?_⟩))
      rcases h.r3.2 with ⟨e, _⟩ | ⟨g, cap, cur, e, _, hg, _⟩
      · simp at e
      · simp only [Value.slice.injEq, Option.some.injEq] at e
        rw [e.1]
        exact ⟨_, _, _, hg⟩
end
/-- What the iterator does between two rounds. -/
def MvM (B b g0 : Nat) (A1 : Option Addr) (U V : World) : Prop := Moves B (MBw B b g0 A1 U) (MBw B b g0 A1 V) U V ∧ ∀ a n c, V.cell? ⟨b, 3, none⟩ = some (.slice (some a) n c) → a.block < V.heap.size
theorem MachAt.pb {B b g0 : Nat} {A1 A3 : Option Addr} {c0 c1 c3 : Nat} {s : MS} {U : World} (h : MachAt B U b g0 A1 A3 c0 c1 c3 s) : ∀ a n c, U.cell? ⟨b, 3, none⟩ = some (.slice (some a) n c) → a.block < U.heap.size := fun a n c e => by
  rw [h.st.c3] at e
  simp only [Option.some.injEq, Value.slice.injEq] at e
  exact (own_lt h.r3 ⟨a, e.1, rfl⟩).2
theorem MvM.of {B b g0 : Nat} {A1 A3 A3' : Option Addr} {c0 c1 c3 c3' : Nat} {s s' : MS} {U V : World} (h : MachAt B U b g0 A1 A3 c0 c1 c3 s) (h' : MachAt B V b g0 A1 A3' c0 c1 c3' s') (hm : Moves B (MB b g0 A1 A3) (MB b g0 A1 A3') U V) : MvM B b g0 A1 U V :=
  ⟨⟨hm.os, hm.tape, hm.output, hm.size, fun k hk hn => hm.block k hk fun e => hn ((h.mbw k).2 e), fun k hk => (hm.fresh k ((h'.mbw k).1 hk)).imp (h.mbw k).2 id⟩, h'.pb⟩
theorem MvM.under {B b g0 : Nat} {A1 : Option Addr} {U V : World} (h : MvM B b g0 A1 U V) (hB : B ≤ U.heap.size) : Below B U V := Moves.under h.1 (fun k hk => hk.1) hB
/-- What it wants kept: its own blocks, and two of its closure. -/
structure KpM (B b g0 cM cT : Nat) (A1 : Option Addr) (U V : World) : Prop where
  size : U.heap.size ≤ V.heap.size
  block : ∀ k, MBw B b g0 A1 U k ∨ k = cM ∨ k = cT ∨ k = b → V.heap[k]? = U.heap[k]?
theorem KpM.mb {B b g0 cM cT : Nat} {A1 : Option Addr} {U V : World} (h : KpM B b g0 cM cT A1 U V) {k : Nat} (hk : MBw B b g0 A1 U k) : MBw B b g0 A1 V k := by
  refine ⟨hk.1, ?_⟩
  rcases hk.2 with h1 | h1 | h1 | ⟨a, n, c, h1, rfl, cs, e, fz, h2⟩
  · exact .inl h1
  · exact .inr (.inl h1)
  · exact .inr (.inr (.inl h1))
  · exact .inr (.inr (.inr ⟨a, n, c, (World.cell?_of_block (a := ⟨b, 3, none⟩) (h.block b (.inr (.inr (.inr rfl))))).trans h1, rfl, cs, e, fz, (h.block _ (.inl hk)).trans h2⟩))
theorem KpM.refl (B b g0 cM cT : Nat) (A1 : Option Addr) (U : World) : KpM B b g0 cM cT A1 U U := ⟨Nat.le_refl _, fun _ _ => rfl⟩
theorem KpM.trans {B b g0 cM cT : Nat} {A1 : Option Addr} {U V W : World} (h : KpM B b g0 cM cT A1 U V) (k : KpM B b g0 cM cT A1 V W) : KpM B b g0 cM cT A1 U W :=
  ⟨Nat.le_trans h.size k.size, fun i hi => (k.block i (hi.imp h.mb id)).trans (h.block i hi)⟩
theorem kpM_turn {B b g0 cM cT n : Nat} {A1 : Option Addr} (hb : b < n) (hg : g0 < n) (h1 : ∀ k, blk A1 k → k < n) (hM : cM < n) (hT : cT < n) : TurnOk n (KpM B b g0 cM cT A1) := fun V l o o' hl ho hc hw => by
  refine ⟨by simp, fun k hk => World.putObj_heap_other ?_⟩
  rintro rfl
  rcases hk with ⟨_, e | e | e | ⟨a, m, c, _, _, cs, e, fz, h2⟩⟩ | e | e | e
  · omega
  · omega
  · have := h1 _ e; omega
  · rw [ho] at h2
    cases h2
    simp [Obj.isCells] at hc
  · omega
  · omega
  · omega
theorem mvM_stays {B b g0 n : Nat} {A1 : Option Addr} (hb : b < n) (hg : g0 < n) (h1 : ∀ k, blk A1 k → k < n) : StaysOk n (MvM B b g0 A1) := fun V V' l o hm hl ho hc => by
  have hlt : l < V.heap.size := (Array.getElem?_eq_some_iff.1 ho).1
  refine (hm.1.block l hlt ?_).trans ho
  rintro ⟨_, e | e | e | ⟨a, m, c, _, _, cs, e, fz, h2⟩⟩
  · omega
  · omega
  · have := h1 _ e; omega
  · rw [ho] at h2
    cases h2
    simp [Obj.isCells] at hc
/-- What holds behind the orders. -/
def RanM (B b g0 : Nat) (A1 : Option Addr) (c0 c1 most : Nat) (s : MS) (xs : List MS) (W : World) : Prop :=
  (∃ A3 c3, MachAt B W b g0 A1 A3 c0 c1 c3 (MS.run most s)) ∧ ∃ k, k ≤ most ∧ xs = MS.taken_ k s ∧ (∀ j, j < k → (MS.goN j s).ends = 0) ∧ (k < most → (MS.goN k s).ends ≠ 0)
end Go.Proofs.Ytmkcijecncdhpaa
namespace Go.Proofs.Ytmkcijecncdhpaa
open Go.RowKit Go.Shelf
set_option linter.unusedVariables false
set_option linter.unusedSimpArgs false
attribute [local go_sem] Oper.semAt_some

/-- The variables of a round: the closure's machine, the order that is done. -/
structure Sd (cM b k0 : Nat) (t : MS) (U : World) : Prop where
  m : U.cell? ⟨cM, 0, none⟩ = some (.pointer (some ⟨b, 0, none⟩))
  s0 : U.cell? ⟨k0, 0, none⟩ = some (.int .i64 t.at_)
  s1 : U.cell? ⟨k0, 1, none⟩ = some (.int .i64 t.op)
  s2 : U.cell? ⟨k0, 2, none⟩ = some (.int .i64 t.frm)
  s3 : U.cell? ⟨k0, 3, none⟩ = some (.int .i64 t.to)
  s4 : U.cell? ⟨k0, 4, none⟩ = some (.int .i64 t.nxt)
  s5 : U.cell? ⟨k0, 5, none⟩ = some (.int .i64 t.time)
  s6 : U.cell? ⟨k0, 6, none⟩ = some (.int .i64 t.until_)
theorem Sd.keep {cM b k0 : Nat} {t : MS} {U V : World} (h : Sd cM b k0 t U) (hM : V.heap[cM]? = U.heap[cM]?) (h0 : V.heap[k0]? = U.heap[k0]?) : Sd cM b k0 t V :=
  have c : ∀ j, V.cell? ⟨k0, j, none⟩ = U.cell? ⟨k0, j, none⟩ := fun j => World.cell?_of_block h0
  ⟨(World.cell?_of_block (a := ⟨cM, 0, none⟩) hM).trans h.m, (c 0).trans h.s0, (c 1).trans h.s1, (c 2).trans h.s2, (c 3).trans h.s3, (c 4).trans h.s4, (c 5).trans h.s5, (c 6).trans h.s6⟩
/-- What holds within a round. -/
structure Rd (B b g0 cM k0 : Nat) (A1 A3₀ A3 : Option Addr) (c0 c1 c3 : Nat) (t u : MS) (wr U : World) : Prop where
  mach : MachAt B U b g0 A1 A3 c0 c1 c3 u
  mv : Moves B (MB b g0 A1 A3₀) (MB b g0 A1 A3) wr U
  sd : Sd cM b k0 t U
  nM : ¬ MB b g0 A1 A3 cM
  n0 : ¬ MB b g0 A1 A3 k0
  lM : cM < U.heap.size
  l0 : k0 < U.heap.size
theorem Rd.step {B b g0 cM k0 : Nat} {A1 A3₀ A3 A3' : Option Addr} {c0 c1 c3 c3' : Nat} {t u u' : MS} {wr U V : World} (h : Rd B b g0 cM k0 A1 A3₀ A3 c0 c1 c3 t u wr U) (h' : MachAt B V b g0 A1 A3' c0 c1 c3' u') (m : Moves B (MB b g0 A1 A3) (MB b g0 A1 A3') U V) : Rd B b g0 cM k0 A1 A3₀ A3' c0 c1 c3' t u' wr V :=
  ⟨h', h.mv.trans m, h.sd.keep (m.block _ h.lM h.nM) (m.block _ h.l0 h.n0), fun e => (m.fresh _ e).elim h.nM (fun e => by have := h.lM; omega), fun e => (m.fresh _ e).elim h.n0 (fun e => by have := h.l0; omega), Nat.lt_of_lt_of_le h.lM m.size, Nat.lt_of_lt_of_le h.l0 m.size⟩
theorem rd_new {B b g0 cM : Nat} {A1 A3 : Option Addr} {c0 c1 c3 : Nat} {t : MS} {wr w1 : World} (h : MachAt B wr b g0 A1 A3 c0 c1 c3 t) (hb : Below wr.heap.size wr w1) (nM : ¬ MB b g0 A1 A3 cM) (lM : cM < wr.heap.size) (hm : wr.cell? ⟨cM, 0, none⟩ = some (.pointer (some ⟨b, 0, none⟩))) (T : TypeId) :
    Rd B b g0 cM w1.heap.size A1 A3 A3 c0 c1 c3 t t wr (w1.alloc (.cells #[.int .i64 t.at_, .int .i64 t.op, .int .i64 t.frm, .int .i64 t.to, .int .i64 t.nxt, .int .i64 t.time, .int .i64 t.until_] T)) := by
  have hs := hb.size
  have hab := (Below.refl w1.heap.size w1).alloc (Nat.le_refl _) (.cells #[.int .i64 t.at_, .int .i64 t.op, .int .i64 t.frm, .int .i64 t.to, .int .i64 t.nxt, .int .i64 t.time, .int .i64 t.until_] T)
  have hb2 : Below wr.heap.size wr (w1.alloc (.cells #[.int .i64 t.at_, .int .i64 t.op, .int .i64 t.frm, .int .i64 t.to, .int .i64 t.nxt, .int .i64 t.time, .int .i64 t.until_] T)) := hb.trans (below_lower hs hab)
  refine ⟨h.below hb2, Moves.below hb2, ⟨(hb2.cell (p := ⟨cM, 0, none⟩) lM).trans hm, ?_, ?_, ?_, ?_, ?_, ?_, ?_⟩, nM, fun e => ?_, Nat.lt_of_lt_of_le lM hb2.size, by simp⟩
  all_goals first
    | (simp [go_sem]; done)
    | (have := (h.blocks e).2; omega)
theorem ended_zero {t : MS} (h : t.ends = 0) : t.ended = t := by
  have := (MS.ends_zero h).1
  unfold MS.ended
  rw [h, ← this]
/-- What the last numbers of an order are read from. -/
abbrev CoQ (cM b k0 : Nat) (t : MS) (w' : World) : Prop := w'.cell? ⟨cM, 0, none⟩ = some (.pointer (some ⟨b, 0, none⟩)) ∧ w'.cell? ⟨k0, 6, none⟩ = some (.int .i64 t.until_)
theorem CoQ.drew {cM b k0 : Nat} {t : MS} {w : World} (h : CoQ cM b k0 t w) : CoQ cM b k0 t w.drew := h
theorem CoQ.set {cM b k0 j : Nat} {t : MS} {w : World} {u : Value} (h : CoQ cM b k0 t w) (hM : cM ≠ b) (h0 : k0 ≠ b) : CoQ cM b k0 t (w.setCell ⟨b, j, none⟩ u) := by
  obtain ⟨h1, h2⟩ := h
  exact ⟨by simp [go_sem, hM, h1], by simp [go_sem, h0, h2]⟩
theorem CoQ.setd {cM b k0 j : Nat} {t : MS} {w : World} {u : Value} (h : CoQ cM b k0 t w) (hM : cM ≠ b) (h0 : k0 ≠ b) : CoQ cM b k0 t (w.setCell ⟨b, j, none⟩ u).drew := CoQ.drew (h.set hM h0)
/-- What the end of a run is looked up in. -/
abbrev CoE (cM b k0 : Nat) (t : MS) (w' : World) : Prop := w'.cell? ⟨cM, 0, none⟩ = some (.pointer (some ⟨b, 0, none⟩)) ∧ w'.cell? ⟨k0, 0, none⟩ = some (.int .i64 t.at_) ∧ w'.cell? ⟨k0, 1, none⟩ = some (.int .i64 t.op) ∧ w'.cell? ⟨k0, 2, none⟩ = some (.int .i64 t.frm) ∧ w'.cell? ⟨k0, 3, none⟩ = some (.int .i64 t.to) ∧ w'.cell? ⟨k0, 4, none⟩ = some (.int .i64 t.nxt) ∧ w'.cell? ⟨k0, 5, none⟩ = some (.int .i64 t.time) ∧ w'.cell? ⟨k0, 6, none⟩ = some (.int .i64 t.until_)
theorem CoE.keep {cM b k0 : Nat} {t : MS} {w w' : World} (h : CoE cM b k0 t w) (hb : Below w.heap.size w w') (hM : cM < w.heap.size) (h0 : k0 < w.heap.size) : CoE cM b k0 t w' := by
  obtain ⟨a, a0, a1, a2, a3, a4, a5, a6⟩ := h
  have c : ∀ j, w'.cell? ⟨k0, j, none⟩ = w.cell? ⟨k0, j, none⟩ := fun j => hb.cell (p := ⟨k0, j, none⟩) h0
  exact ⟨(hb.cell (p := ⟨cM, 0, none⟩) hM).trans a, (c 0).trans a0, (c 1).trans a1, (c 2).trans a2, (c 3).trans a3, (c 4).trans a4, (c 5).trans a5, (c 6).trans a6⟩
theorem CoE.set {cM b k0 j : Nat} {t : MS} {w : World} {u : Value} (h : CoE cM b k0 t w) (hM : cM ≠ b) (h0 : k0 ≠ b) : CoE cM b k0 t (w.setCell ⟨b, j, none⟩ u) := by
  obtain ⟨a, a0, a1, a2, a3, a4, a5, a6⟩ := h
  refine ⟨?_, ?_, ?_, ?_, ?_, ?_, ?_, ?_⟩ <;> simp [go_sem, hM, h0, a, a0, a1, a2, a3, a4, a5, a6]
theorem wideIn_scope {n : Nat} {P : Program} {c : Code} {Q : Exit → Act → World → Prop} {a : Act} {w : World} (h : c.wpIn Fence.wide n P (Exit.noGoto Q) a w) : (Code.scope c).wpIn Fence.wide n P Q a w :=
  wpIn_wide.2 (wp_scope_straight (wpIn_wide.1 h))
theorem steps_any (b : Nat) (most : Int) (w : World) :
    Calls Try.prog 46 #[.pointer (some ⟨b, 0, none⟩), .int .i64 most] w fun e w' =>
      e = .returned (.func (.func 65) #[] #[.pointer (some ⟨w.heap.size + 1, 0, none⟩), .pointer (some ⟨w.heap.size, 0, none⟩)]) ∧
      w' = (w.alloc (.cells #[.pointer (some ⟨b, 0, none⟩)] 68)).alloc (.cells #[.int .i64 most] 3) := by
  go_enter Try.func46, Try.ntmps46
  go_wp2
  go_ret
  exact ⟨rfl, rfl⟩

set_option maxRecDepth 100000 in
set_option maxHeartbeats 4000000 in
theorem steps_in (s : MS) (hok : s.Ok) (most : Nat) (hmost : most ≤ 5000) (n : Nat) (hn : 1 ≤ n) (l B b g0 cM cT : Nat) (A1 : Option Addr) (c0 c1 : Nat) (J : List MS → World → Prop) (hJ : Hid (∀ s A V, J s A → MvM B b g0 A1 A V → J s V))
    (hY : Hid (∀ pre x V, J pre V → pre.length < most → YieldAt Fence.wide (n - 1) Try.prog l #[stepV x] V fun e V' => e = .returned (.bool true) ∧ J (pre ++ [x]) V' ∧ KpM B b g0 cM cT A1 V V'))
    (W : World) (A3 : Option Addr) (c3 : Nat) (hM : MachAt B W b g0 A1 A3 c0 c1 c3 s) (hcM : W.cell? ⟨cM, 0, none⟩ = some (.pointer (some ⟨b, 0, none⟩))) (hcT : W.cell? ⟨cT, 0, none⟩ = some (.int .i64 most))
    (nM : ¬ MB b g0 A1 A3 cM) (hlM : cM < W.heap.size) (h0 : J [] W) :
    CallsIn Fence.wide n Try.prog 65 #[.func (.yield l) #[] #[], .pointer (some ⟨cT, 0, none⟩), .pointer (some ⟨cM, 0, none⟩)] W fun e W' => (∃ v, e = .returned v) ∧ ∃ xs, RanM B b g0 A1 c0 c1 most s xs W' ∧ J xs W' := by
  refine callsIn_of_wp Try.func65 rfl trivial ?_ rfl
  simp only [Try.ntmps65, List.size_toArray, List.length_cons, List.length_nil, Nat.reduceAdd, Nat.reduceSub, Array.replicate_succ, Array.replicate_zero, List.push_toArray, List.append_toArray, List.nil_append, List.cons_append]
  refine wideIn_scope ?_
  gi_wp2
  refine wpIn_label ?_
  gi_wp2
  gi_loopw [7] (fun i wr => ∃ k : Nat, k ≤ most ∧ i = .int .i64 k ∧ (∀ j, j < k → (MS.goN j s).ends = 0) ∧ J (MS.taken_ k s) wr ∧ ∃ A3 c3, MachAt B wr b g0 A1 A3 c0 c1 c3 (MS.goN k s) ∧ ¬ MB b g0 A1 A3 cM ∧ cM < wr.heap.size ∧ wr.cell? ⟨cM, 0, none⟩ = some (.pointer (some ⟨b, 0, none⟩))) (fun i _ => most - (intOf i).toNat)
  case atStart => exact ⟨0, by omega, rfl, fun j hj => by omega, h0, A3, c3, hM, nM, hlM, hcM⟩
  case round =>
    obtain ⟨k, hk, rfl, hgo, hJk, A3, c3, hMk, nMk, hlk, hck⟩ := hrel
    by_cases hlt : k < most
    · have hokk := hok.goN k hgo
      obtain ⟨t, ht⟩ : ∃ t, t = MS.goN k s := ⟨_, rfl⟩
      have HT := Lib.hid ht
      rw [← ht] at hMk hokk
      clear ht
      have HK := Lib.hid hgo
      have HJ := Lib.hid hJk
      have HM := Lib.hid hMk
      have HO := Lib.hid hokk
      clear hgo hJk hMk hokk
      gi_wp2_with fail
      refine ⟨trivial, ?_⟩
      refine (callsIn_wide.2 (comes_ok HO.out _ HM.out)).mono ?_; rintro e w1 ⟨rfl, hb1⟩; unfold stepV
      have R1 := rd_new HM.out hb1 nMk hlk hck 60
      clear hb1
      gi_wp2_with fail
      generalize w1.alloc (.cells #[.int .i64 t.at_, .int .i64 t.op, .int .i64 t.frm, .int .i64 t.to, .int .i64 t.nxt, .int .i64 t.time, .int .i64 t.until_] 60) = V at *
      generalize w1.heap.size = k0 at *
      have HR := Lib.hid R1
      have KE := Lib.hid (ends_any V.drew R1.mach.drew)
      unfold stepV at KE
      obtain ⟨v, s0, s1, s2, s3, s4, s5, s6⟩ := R1.sd
      clear R1 hck
      have hE : CoE cM b k0 t V := ⟨v, s0, s1, s2, s3, s4, s5, s6⟩
      have hEd : CoE cM b k0 t V.drew := hE
      have nMb : cM ≠ b := fun e => HR.out.nM (.inl e)
      have n0b : k0 ≠ b := fun e => HR.out.n0 (.inl e)
      refine wpIn_wide.2 ?_
      go_region_held3 (fun w' => w'.cell? ⟨cM, 0, none⟩ = some (.pointer (some ⟨b, 0, none⟩)) ∧ w'.cell? ⟨k0, 0, none⟩ = some (.int .i64 t.at_) ∧ w'.cell? ⟨k0, 1, none⟩ = some (.int .i64 t.op) ∧ w'.cell? ⟨k0, 2, none⟩ = some (.int .i64 t.frm) ∧ w'.cell? ⟨k0, 3, none⟩ = some (.int .i64 t.to) ∧ w'.cell? ⟨k0, 4, none⟩ = some (.int .i64 t.nxt) ∧ w'.cell? ⟨k0, 5, none⟩ = some (.int .i64 t.time) ∧ w'.cell? ⟨k0, 6, none⟩ = some (.int .i64 t.until_))
        (first | with_reducible exact hE2 | with_reducible exact CoE.set hE2 nMb n0b | with_reducible exact hE | with_reducible exact hEd)
        (first | (go_at_call 67; refine KE.out.mono ?_; rintro e w2 ⟨rfl, hb2⟩; have hb2' : Below V.heap.size V w2 := below_undrewR hb2; have hE2 : CoE cM b k0 t w2 := hE.keep hb2' HR.out.lM HR.out.l0; have R2 := HR.out.step (HR.out.mach.below hb2') (Moves.below hb2'); have x7 := R2.mach.st.c7; have f7 := R2.mach.fr 7) | fail)
      have R3 := R2.step (R2.mach.why t.ends) (Moves.set (p := ⟨b, 7, none⟩) (.inl rfl) _)
      have HR3 := Lib.hid R3
      clear R2 R3 hb2 hb2' KE s0 s1 s2 s3 s4 s5 s6 v hE hEd hE2 x7 f7
      generalize w2.setCell ⟨b, 7, none⟩ (.int .i64 t.ends) = V3 at *
      have y7 : V3.cell? ⟨b, 7, none⟩ = some (.int .i64 t.ends) := HR3.out.mach.st.c7
      obtain ⟨v, s0, s1, s2, s3, s4, s5, s6⟩ := HR3.out.sd
      by_cases he : t.ends = 0
      · have R4 := HR3.out
        have e3 : ({ t with why := t.ends } : MS) = t := ended_zero he
        rw [e3] at R4
        have KD := Lib.hid (do_any HO.out he V3 (by have := R4.mach.bB; have := R4.mach.lt; omega) R4.mach)
        have HR4 := Lib.hid R4
        have q : (t.ends == 0) = true := by simpa using he
        clear R4 HR3 e3
        gi_wp2_with fail
        refine ⟨trivial, ?_⟩
        refine (callsIn_wide.2 KD.out).mono ?_; rintro e w4 ⟨⟨vr, rfl⟩, A3', c3', h4, m4⟩
        have R5 := HR4.out.step h4 m4
        have x5 := R5.mach.st.c5
        have x4 := R5.mach.st.c4
        have f5 := R5.mach.fr 5
        have f4 := R5.mach.fr 4
        have hQ : CoQ cM b k0 t w4 := ⟨R5.sd.m, R5.sd.s6⟩
        have hQd : CoQ cM b k0 t w4.drew := hQ
        have HR5 := Lib.hid R5
        clear R5 h4 m4 KD HR4 v s0 s1 s2 s3 s4 s5 s6 y7 q
        gi_wp2_with fail
        refine wpIn_wide.2 ?_
        go_region_held3 (fun w' => w'.cell? ⟨cM, 0, none⟩ = some (.pointer (some ⟨b, 0, none⟩)) ∧ w'.cell? ⟨k0, 6, none⟩ = some (.int .i64 t.until_))
          (first | with_reducible exact hQ | with_reducible exact hQd | with_reducible exact CoQ.set hQ nMb n0b | with_reducible exact CoQ.setd hQ nMb n0b | with_reducible exact CoQ.set (CoQ.set hQ nMb n0b) nMb n0b | with_reducible exact CoQ.drew (CoQ.set (CoQ.set hQ nMb n0b) nMb n0b))
          (first | fail | fail)
        have R6 := (HR5.out.step (HR5.out.mach.at_ t.follow) (Moves.set (p := ⟨b, 5, none⟩) (.inl rfl) _))
        have R7 := R6.step (R6.mach.time t.until_) (Moves.set (p := ⟨b, 4, none⟩) (.inl rfl) _)
        have R8 := R7.step R7.mach.drew (Moves.refl _ _ _).drew
        have x6 := R8.mach.st.c6
        have f6 := R8.mach.fr 6
        have HR8 := Lib.hid R8
        have vm := R8.sd.m
        have hdn : 0 ≤ t.done ∧ t.done ≤ 1000000000 := by have := HO.out.done; have := HO.out.time; omega
        clear R6 R7 R8 HR5 x4 x5 f4 f5 hQ hQd
        generalize ((w4.setCell ⟨b, 5, none⟩ (.int .i64 t.follow)).setCell ⟨b, 4, none⟩ (.int .i64 t.until_)).drew = V5 at *
        have y6 : V5.cell? ⟨b, 6, none⟩ = some (.int .i64 t.done) := x6
        clear x6
        have R9 := HR8.out.step (HR8.out.mach.done (t.done + 1)) (Moves.set (p := ⟨b, 6, none⟩) (.inl rfl) (.int .i64 (t.done + 1)))
        have J9 := hJ.out _ _ _ HJ.out (MvM.of HM.out R9.mach R9.mv)
        have HR9 : Hid (Rd B b g0 cM k0 A1 A3 A3' c0 c1 c3' t t.go wr (V5.setCell ⟨b, 6, none⟩ (.int .i64 (t.done + 1)))) := Lib.hid R9
        clear R9
        obtain ⟨fn, tmps, assign, body, hy, hRy⟩ := hY.out _ t _ J9 (by rw [MS.taken_length]; exact hlt)
        unfold stepV at hy
        obtain ⟨v, s0, s1, s2, s3, s4, s5, s6⟩ := HR8.out.sd
        clear J9 HR8
        gi_wp2
        refine hRy.mono ?_
        rintro e W3 ⟨rfl, hJ3, hk3⟩
        have hgo2 : ∀ j, j < k + 1 → (MS.goN j s).ends = 0 := fun j hj => by
          rcases Nat.lt_succ_iff_lt_or_eq.1 hj with h | h
          · exact HK.out j h
          · subst h; rw [← HT.out]; exact he
        have HU := Lib.hid (show MS.taken_ (k + 1) s = MS.taken_ k s ++ [t] by rw [MS.taken_succ, ← HT.out])
        have R10 : MachAt B W3 b g0 A1 A3' c0 c1 c3' t.go := HR9.out.mach.keep (fun i hi => hk3.block i (.inl ((HR9.out.mach.mbw i).2 hi))) hk3.size
        have hm3 := (World.cell?_of_block (a := ⟨cM, 0, none⟩) (hk3.block cM (.inr (.inl rfl)))).trans HR9.out.sd.m
        have l3 := Nat.lt_of_lt_of_le HR9.out.lM hk3.size
        have n3 := HR9.out.nM
        have HG := Lib.hid (show MS.goN (k + 1) s = t.go by show (MS.goN k s).go = _; rw [← HT.out])
        have HA := Lib.hid (And.intro R10 hgo2)
        clear v vm s0 s1 s2 s3 s4 s5 s6 hy hRy hk3 R10 hgo2 y6 f6
        gi_wp2
        go_roundw
        case rel => exact ⟨k + 1, by omega, by go_num, HA.out.2, by rw [HU.out]; exact hJ3, A3', c3', by rw [HG.out]; exact HA.out.1, n3, l3, hm3⟩
        case measure => simp [intOf]; omega
      · have q : (t.ends == 0) = false := by simpa using he
        have HX := Lib.hid (And.intro HR3.out he)
        clear HR3 s0 s1 s2 s3 s4 s5 s6 nMk
        gi_wp2
        try simp only [go_sem]
        go_end0
        have hJ3 := hJ.out _ _ _ HJ.out (MvM.of HM.out HX.out.1.mach HX.out.1.mv)
        refine ⟨⟨_, rfl⟩, _, ⟨⟨A3, c3, ?_⟩, k, by omega, rfl, HK.out, fun _ => by rw [← HT.out]; exact he⟩, hJ3⟩
        rw [MS.run_ends hlt HK.out (by rw [← HT.out]; exact he), ← HT.out]
        exact HX.out.1.mach
    · obtain rfl : k = most := by omega
      have HF := Lib.hid (And.intro hMk hgo)
      gi_wp2
      try simp only [go_sem]
      go_end0
      refine ⟨⟨_, rfl⟩, _, ⟨⟨A3, c3, ?_⟩, k, by omega, rfl, HF.out.2, fun h => by omega⟩, hJk⟩
      rw [MS.run_goes HF.out.2]
      exact HF.out.1
end Go.Proofs.Ytmkcijecncdhpaa
namespace Go.Proofs.Ytmkcijecncdhpaa
open Go.RowKit Go.Shelf
set_option linter.unusedVariables false
set_option linter.unusedSimpArgs false

def errRun (c most : Int) : Int := if c ≠ 0 then c else if inB 5000 most = true then 0 else 7
set_option maxRecDepth 100000 in
set_option maxHeartbeats 4000000 in
theorem errorOfRun_of (A0 A1 A3 : Option Addr) (n0 n1 n3 : Nat) (z0 z1 z3 : List Int) (a2 a4 a5 a6 a7 most : Int) (v : Int × Int × Int) (W : World) (i0 : IntsAt W W.heap.size A0 z0) (i1 : IntsAt W W.heap.size A1 z1) (i3 : IntsAt W W.heap.size A3 z3)
    (K : Hid (∀ w, IntsAt w w.heap.size A0 z0 → IntsAt w w.heap.size A1 z1 → IntsAt w w.heap.size A3 z3 → Calls Try.prog 32 #[stV A0 A1 A3 n0 n1 n3 z0 z1 z3 a2 a4 a5 a6 a7] w (CheckIs w v))) :
    Calls Try.prog 44 #[stV A0 A1 A3 n0 n1 n3 z0 z1 z3 a2 a4 a5 a6 a7, .int .i64 most] W fun e W' => e = .returned (.int .i64 (errRun v.2.2 most)) ∧ Below W.heap.size W W' := by
  obtain ⟨p, i, c⟩ := v
  have H := Lib.hid (And.intro i0 (And.intro i1 i3))
  clear i0 i1 i3
  by_cases hc : c = 0
  · subst hc
    have hw := within_1 5000 most
    have HW := Lib.hid hw
    clear hw
    cases hm : inB 5000 most with
    | true =>
      have he : errRun 0 most = 0 := by unfold errRun; simp [hm]
      show Calls _ _ _ _ fun e W' => e = .returned (.int .i64 (errRun 0 most)) ∧ _
      rw [he]
      rw [hm] at HW
      go_enter Try.func44, Try.ntmps44
      go_wp2_with fail
      refine (K.out _ ?_ ?_ ?_).mono ?_
      · exact ints_at H.out.1 (by go_grown)
      · exact ints_at H.out.2.1 (by go_grown)
      · exact ints_at H.out.2.2 (by go_grown)
      rintro e w1 ⟨rfl, hb1⟩
      have HB := Lib.hid ((show Below W.heap.size W (W.alloc (.cells #[.slice A0 z0.length n0, .slice A1 z1.length n1, .int .i64 a2, .slice A3 z3.length n3, .int .i64 a4, .int .i64 a5, .int .i64 a6, .int .i64 a7] 24)) by go_grown).trans (below_lower (by simp) hb1))
      clear hb1
      go_wp2_with fail
      refine (HW.out _ _ _ _ (by simp [go_sem])).mono ?_; rintro e w2 ⟨rfl, rfl⟩
      go_wp2
      go_ret
      exact ⟨rfl, HB.out.alloc HB.out.size _⟩
    | false =>
      have he : errRun 0 most = 7 := by unfold errRun; simp [hm]
      show Calls _ _ _ _ fun e W' => e = .returned (.int .i64 (errRun 0 most)) ∧ _
      rw [he]
      rw [hm] at HW
      go_enter Try.func44, Try.ntmps44
      go_wp2_with fail
      refine (K.out _ ?_ ?_ ?_).mono ?_
      · exact ints_at H.out.1 (by go_grown)
      · exact ints_at H.out.2.1 (by go_grown)
      · exact ints_at H.out.2.2 (by go_grown)
      rintro e w1 ⟨rfl, hb1⟩
      have HB := Lib.hid ((show Below W.heap.size W (W.alloc (.cells #[.slice A0 z0.length n0, .slice A1 z1.length n1, .int .i64 a2, .slice A3 z3.length n3, .int .i64 a4, .int .i64 a5, .int .i64 a6, .int .i64 a7] 24)) by go_grown).trans (below_lower (by simp) hb1))
      clear hb1
      go_wp2_with fail
      refine (HW.out _ _ _ _ (by simp [go_sem])).mono ?_; rintro e w2 ⟨rfl, rfl⟩
      go_wp2
      go_ret
      exact ⟨rfl, HB.out.alloc HB.out.size _⟩
  · have he : errRun c most = c := by unfold errRun; simp [hc]
    show Calls _ _ _ _ fun e W' => e = .returned (.int .i64 (errRun c most)) ∧ _
    rw [he]
    have q : (c != 0) = true := by simpa using hc
    go_enter Try.func44, Try.ntmps44
    go_wp2_with fail
    refine (K.out _ ?_ ?_ ?_).mono ?_
    · exact ints_at H.out.1 (by go_grown)
    · exact ints_at H.out.2.1 (by go_grown)
    · exact ints_at H.out.2.2 (by go_grown)
    rintro e w1 ⟨rfl, hb1⟩
    have HB := Lib.hid ((show Below W.heap.size W (W.alloc (.cells #[.slice A0 z0.length n0, .slice A1 z1.length n1, .int .i64 a2, .slice A3 z3.length n3, .int .i64 a4, .int .i64 a5, .int .i64 a6, .int .i64 a7] 24)) by go_grown).trans (below_lower (by simp) hb1))
    clear hb1
    go_wp2
    go_ret
    exact ⟨rfl, HB.out⟩
theorem setSt_heap {U : World} {b k : Nat} {v0 v1 v3 : Value} {a2 a4 a5 a6 a7 : Int} (h : k ≠ b) : (setSt U b v0 v1 v3 a2 a4 a5 a6 a7).heap[k]? = U.heap[k]? := by
  unfold setSt
  rw [Below.heap_setCell _ _ _ k h, Below.heap_setCell _ _ _ k h, Below.heap_setCell _ _ _ k h, Below.heap_setCell _ _ _ k h, Below.heap_setCell _ _ _ k h, Below.heap_setCell _ _ _ k h, Below.heap_setCell _ _ _ k h, Below.heap_setCell _ _ _ k h]
/-- What a run hands back. -/
def StateOut (W : World) (s' : MS) (k : Int) (e : Ending) (W' : World) : Prop :=
  ∃ A0 A1 A3 c0 c1 c3, e = .returned (.tuple #[stV A0 A1 A3 c0 c1 c3 s'.store s'.tape s'.printed s'.taken s'.time s'.at_ s'.done s'.why, .int .i64 k]) ∧
    IntsAt W' W'.heap.size A0 s'.store ∧ IntsAt W' W'.heap.size A1 s'.tape ∧ IntsAt W' W'.heap.size A3 s'.printed ∧ Below W.heap.size W W'
/-- The same, with room for what is printed. -/
def StateOutC (W : World) (s' : MS) (k : Int) (e : Ending) (W' : World) : Prop :=
  ∃ A0 A1 A3 c0 c1 c3, e = .returned (.tuple #[stV A0 A1 A3 c0 c1 c3 s'.store s'.tape s'.printed s'.taken s'.time s'.at_ s'.done s'.why, .int .i64 k]) ∧
    IntsAt W' W'.heap.size A0 s'.store ∧ IntsAt W' W'.heap.size A1 s'.tape ∧ IntsAt W' W'.heap.size A3 s'.printed ∧ Below W.heap.size W W' ∧ s'.printed.length ≤ c3
theorem StateOutC.out {W W' : World} {s' : MS} {k : Int} {e : Ending} (h : StateOutC W s' k e W') : StateOut W s' k e W' := by
  obtain ⟨A0, A1, A3, c0, c1, c3, h1, h2, h3, h4, h5, _⟩ := h
  exact ⟨A0, A1, A3, c0, c1, c3, h1, h2, h3, h4, h5⟩
theorem own_cap {U : World} {base n size c : Nat} {e : TypeId} {A : Option Addr} {xs : List Value} (h : U.ownsRow base e size (.slice A n c) n xs) : n ≤ c := by
  rcases h.2 with ⟨_, e⟩ | ⟨g, cap, cur, e, _, _, hn, _⟩
  · omega
  · simp only [Value.slice.injEq] at e
    omega
/-- What stands in Run's blocks before the orders are done. -/
structure RuW (W : World) (v0 v1 v3 : Value) (a2 a4 a5 a6 a7 : Int) (U : World) : Prop where
  below : Below W.heap.size W U
  arg : StAt U W.heap.size v0 v1 v3 a2 a4 a5 a6 a7
  res : StAt U (W.heap.size + 1) (.slice none 0 0) (.slice none 0 0) (.slice none 0 0) 0 0 0 0 0
  fr : ∀ j, U.frozen? ⟨W.heap.size + 1, j, none⟩ = false
  size : W.heap.size + 2 ≤ U.heap.size
theorem RuW.after {W U V : World} {v0 v1 v3 : Value} {a2 a4 a5 a6 a7 : Int} {n : Nat} (h : RuW W v0 v1 v3 a2 a4 a5 a6 a7 U) (hb : Below n U V) (hn : W.heap.size + 2 ≤ n) : RuW W v0 v1 v3 a2 a4 a5 a6 a7 V :=
  ⟨h.below.trans (below_lower (by omega) hb), h.arg.below hb (by omega), h.res.below hb (by omega), fun j => (hb.frozen (p := ⟨W.heap.size + 1, j, none⟩) (by show W.heap.size + 1 < n; omega)).trans (h.fr j), Nat.le_trans h.size hb.size⟩
theorem ruW_new (W : World) (v0 v1 v3 : Value) (a2 a4 a5 a6 a7 : Int) (T : TypeId) : RuW W v0 v1 v3 a2 a4 a5 a6 a7 ((W.alloc (.cells #[v0, v1, .int .i64 a2, v3, .int .i64 a4, .int .i64 a5, .int .i64 a6, .int .i64 a7] T)).alloc (.cells #[.slice none 0 0, .slice none 0 0, .int .i64 0, .slice none 0 0, .int .i64 0, .int .i64 0, .int .i64 0, .int .i64 0] T)) := by
  refine ⟨by go_grown, (StAt.new W v0 v1 v3 a2 a4 a5 a6 a7 T).below ((Below.refl _ _).alloc (Nat.le_refl _) _) (by simp), ?_, fun j => by simp [go_sem], by simp⟩
  have := StAt.new (W.alloc (.cells #[v0, v1, .int .i64 a2, v3, .int .i64 a4, .int .i64 a5, .int .i64 a6, .int .i64 a7] T)) (.slice none 0 0) (.slice none 0 0) (.slice none 0 0) 0 0 0 0 0 T
  simpa using this
theorem ranM_own {B b g0 : Nat} {A1 : Option Addr} {c0 c1 most n : Nat} {s : MS} (hb : b < n) (hg : g0 < n) (h1 : ∀ k, blk A1 k → k < n) : OwnFrom n (RanM B b g0 A1 c0 c1 most s) := fun xs V V' row h hgr hr => by
  obtain ⟨⟨A3, c3, hm⟩, k⟩ := h
  refine ⟨⟨A3, c3, hm.keep (fun i hi => hgr.block i (hm.blocks hi).2 fun e => ?_) hgr.size⟩, k⟩
  obtain ⟨h2, o, ho, hc⟩ := hr i e.symm
  rcases (hm.mbw i).2 hi with ⟨_, e | e | e | ⟨a, m, c, _, _, cs, e, fz, h3⟩⟩
  · omega
  · omega
  · have := h1 _ e; omega
  · rw [ho] at h3
    cases h3
    simp [Obj.isCells] at hc
set_option maxRecDepth 100000 in
set_option maxHeartbeats 8000000 in
theorem run_okC (s : MS) (hok : s.Ok) (most : Nat) (hmost : most ≤ 5000) (A0 A1 A3 : Option Addr) (n0 n1 n3 : Nat) (W : World) (i0 : IntsAt W W.heap.size A0 s.store) (i1 : IntsAt W W.heap.size A1 s.tape) (i3 : IntsAt W W.heap.size A3 s.printed)
    (KE : Hid (∀ w, IntsAt w w.heap.size A0 s.store → IntsAt w w.heap.size A1 s.tape → IntsAt w w.heap.size A3 s.printed → Calls Try.prog 44 #[stV A0 A1 A3 n0 n1 n3 s.store s.tape s.printed s.taken s.time s.at_ s.done s.why, .int .i64 most] w fun e W' => e = .returned (.int .i64 0) ∧ Below w.heap.size w W')) :
    Calls Try.prog 19 #[stV A0 A1 A3 n0 n1 n3 s.store s.tape s.printed s.taken s.time s.at_ s.done s.why, .int .i64 most] W (StateOutC W (MS.run most s) 0) := by
  refine (callsIn_wide (n := 4)).1 ?_
  have H := Lib.hid (And.intro i0 (And.intro i1 i3))
  have HO := Lib.hid hok
  clear i0 i1 i3 hok
  refine callsIn_of_wp_marks Try.func19 rfl trivial ?_ rfl
  simp only [Try.ntmps19, List.size_toArray, List.length_cons, List.length_nil, Nat.reduceAdd, Nat.reduceSub, Array.replicate_succ, Array.replicate_zero, List.push_toArray, List.append_toArray, List.nil_append, List.cons_append]
  gi_wp2_with fail
  have R0 := ruW_new W (.slice A0 s.store.length n0) (.slice A1 s.tape.length n1) (.slice A3 s.printed.length n3) s.taken s.time s.at_ s.done s.why 24
  generalize (W.alloc (.cells #[.slice A0 s.store.length n0, .slice A1 s.tape.length n1, .int .i64 s.taken, .slice A3 s.printed.length n3, .int .i64 s.time, .int .i64 s.at_, .int .i64 s.done, .int .i64 s.why] 24)).alloc (.cells #[.slice none 0 0, .slice none 0 0, .int .i64 0, .slice none 0 0, .int .i64 0, .int .i64 0, .int .i64 0, .int .i64 0] 24) = V0 at *
  refine ⟨trivial, ?_⟩
  refine (callsIn_wide.2 (KE.out V0 (ints_at H.out.1 R0.below) (ints_at H.out.2.1 R0.below) (ints_at H.out.2.2 R0.below))).mono ?_; rintro e V1 ⟨rfl, hb1⟩
  have R1 := R0.after hb1 R0.size
  obtain ⟨q0, q1, q2, q3, q4, q5, q6, q7⟩ := R1.arg
  clear R0 hb1
  gi_wp2_with fail
  refine ⟨trivial, ?_⟩
  refine (callsIn_wide.2 (atWork_ok s HO.out A0 A1 A3 n0 n1 n3 V1 (ints_at H.out.1 R1.below) (ints_at H.out.2.1 R1.below) (ints_at H.out.2.2 R1.below))).mono ?_; rintro e V2 ⟨b, g0, D1, D3, c0, c1, c3, rfl, hM2, hb2⟩
  have R2 := R1.after hb2 R1.size
  have hBs := R1.size
  have hb12 := hb2.size
  clear R1 hb2 q0 q1 q2 q3 q4 q5 q6 q7
  gi_wp2_with fail
  refine ⟨trivial, ?_⟩
  refine (callsIn_wide.2 (steps_any b most V2)).mono ?_; rintro e V3 ⟨rfl, hV3⟩
  have hb3 : Below V2.heap.size V2 V3 := by rw [hV3]; go_grown
  have hs3 : V3.heap.size = V2.heap.size + 2 := by rw [hV3]; simp
  have hcM : V3.cell? ⟨V2.heap.size, 0, none⟩ = some (.pointer (some ⟨b, 0, none⟩)) := by rw [hV3]; simp [go_sem]
  have hcT : V3.cell? ⟨V2.heap.size + 1, 0, none⟩ = some (.int .i64 most) := by rw [hV3]; simp [go_sem]
  have hM3 := hM2.below hb3
  have R3 := R2.after hb3 R2.size
  clear hV3 R2
  gi_wp2_with fail
  have EG := fun args w => enters_of Try.func65 (by kernel_rfl) rfl args w
  have lb3 : b < V3.heap.size := hM3.lt
  have lg3 : g0 < V3.heap.size := (hM3.blocks (.inr (.inl rfl))).2
  have l13 : ∀ k, blk D1 k → k < V3.heap.size := fun k hk => (hM3.blocks (.inr (.inr (.inl hk)))).2
  have nM : ¬ MB b g0 D1 D3 V2.heap.size := fun e => by have := (hM2.blocks e).2; omega
  have hseq : SeqMoves Fence.wide 3 Try.prog 65 #[.pointer (some ⟨V2.heap.size + 1, 0, none⟩), .pointer (some ⟨V2.heap.size, 0, none⟩)] (fun x : MS => #[stepV x]) (MvM (V1.heap.size + 1) b g0 D1) (KpM (V1.heap.size + 1) b g0 V2.heap.size (V2.heap.size + 1) D1) (RanM (V1.heap.size + 1) b g0 D1 c0 c1 most s) most V3 := fun l J W' hW hJ hY h0 =>
    steps_in s HO.out most hmost 3 (by decide) l (V1.heap.size + 1) b g0 V2.heap.size (V2.heap.size + 1) D1 c0 c1 J (Lib.hid hJ) (Lib.hid hY) W' D3 c3 (hM3.below hW) ((hW.cell (p := ⟨V2.heap.size, 0, none⟩) (by show V2.heap.size < _; omega)).trans hcM) ((hW.cell (p := ⟨V2.heap.size + 1, 0, none⟩) (by show V2.heap.size + 1 < _; omega)).trans hcT) nM (by have := hW.size; omega) h0
  have HR3 := Lib.hid R3
  clear hcM hcT hM2 R3 KE
  refine wpIn_rangeMoves rfl (by decide) (gf := 65) (lb := #[.pointer (some ⟨V2.heap.size + 1, 0, none⟩), .pointer (some ⟨V2.heap.size, 0, none⟩)]) rfl trivial EG hseq (Below.refl _ _) (fun _ => rfl)
    (fun h k => h.trans k) (kpM_turn lb3 lg3 l13 (by omega) (by omega)) (mvM_stays lb3 lg3 l13)
    (fun _ V => Below (V1.heap.size + 1) V3 V) (ownFrom_below (by omega) (by omega)) (fun _ A C h m => h.trans (m.under (by have := h.size; omega))) (ranM_own lb3 lg3 l13) (Below.refl _ _)
    (fun x => { tmps := #[stV A0 A1 A3 n0 n1 n3 s.store s.tape s.printed s.taken s.time s.at_ s.done s.why, .int .i64 most, .pointer (some ⟨W.heap.size, 0, none⟩), undef, .pointer (some ⟨W.heap.size + 1, 0, none⟩), .int .i64 0, .int .i64 0, .pointer (some ⟨b, 0, none⟩),
      .agg #[.slice A0 s.store.length n0, .slice A1 s.tape.length n1, .int .i64 s.taken, .slice A3 s.printed.length n3, .int .i64 s.time, .int .i64 s.at_, .int .i64 s.done, .int .i64 s.why], .int .i64 most, .int .i64 0, .int .i64 0, .bool false, undef, undef,
      .agg #[.slice A0 s.store.length n0, .slice A1 s.tape.length n1, .int .i64 s.taken, .slice A3 s.printed.length n3, .int .i64 s.time, .int .i64 s.at_, .int .i64 s.done, .int .i64 s.why], .pointer (some ⟨b, 0, none⟩), .pointer (some ⟨b, 0, none⟩), .int .i64 most,
      .func (.func 65) #[] #[.pointer (some ⟨V2.heap.size + 1, 0, none⟩), .pointer (some ⟨V2.heap.size, 0, none⟩)], stepV x, undef, undef, undef, undef], defers := [] }) ?assign ?body ?done
  case assign =>
    intro l x W K hK
    gi_wp2
    first | exact hK | (simp; exact hK) | simpa using hK | simpa [go_sem] using hK
  case body =>
    intro l pre x W hI hlen
    gi_wp2
    exact ⟨KeepsOthers.refl _, KpM.refl _ _ _ _ _ _ _, hI⟩
  case done =>
    rintro D ys V hD hS hI hK
    clear hseq EG
    obtain ⟨⟨E3, e3, hM⟩, _⟩ := hS
    have R4 := HR3.out.after hI (by omega)
    have hMr := Lib.hid hM
    obtain ⟨q0, q1, q2, q3, q4, q5, q6, q7⟩ := hM.st
    obtain ⟨z0, z1, z2, z3, z4, z5, z6, z7⟩ := R4.res
    have f := R4.fr
    have f0 := f 0
    have f1 := f 1
    have f2 := f 2
    have f3 := f 3
    have f4 := f 4
    have f5 := f 5
    have f6 := f 6
    have f7 := f 7
    have HR4 := Lib.hid R4
    clear f R4 hM hI
    generalize MS.run most s = r at *
    gi_wp2
    have HD := Lib.hid (show W.heap.size + 1 < D by omega)
    have hS := StAt.put (v0 := .slice (some ⟨g0, 0, none⟩) r.store.length c0) (v1 := .slice D1 r.tape.length c1) (v3 := .slice E3 r.printed.length e3) (a2 := r.taken) (a4 := r.time) (a5 := r.at_) (a6 := r.done) (a7 := r.why) HR4.out.res
    have hZb := setSt_below (U := V) (b := W.heap.size + 1) (n := W.heap.size) (v0 := .slice (some ⟨g0, 0, none⟩) r.store.length c0) (v1 := .slice D1 r.tape.length c1) (v3 := .slice E3 r.printed.length e3) (a2 := r.taken) (a4 := r.time) (a5 := r.at_) (a6 := r.done) (a7 := r.why) (by omega)
    have hZh := fun k h => setSt_heap (U := V) (b := W.heap.size + 1) (k := k) (v0 := .slice (some ⟨g0, 0, none⟩) r.store.length c0) (v1 := .slice D1 r.tape.length c1) (v3 := .slice E3 r.printed.length e3) (a2 := r.taken) (a4 := r.time) (a5 := r.at_) (a6 := r.done) (a7 := r.why) h
    have hZs := setSt_size (U := V) (b := W.heap.size + 1) (v0 := .slice (some ⟨g0, 0, none⟩) r.store.length c0) (v1 := .slice D1 r.tape.length c1) (v3 := .slice E3 r.printed.length e3) (a2 := r.taken) (a4 := r.time) (a5 := r.at_) (a6 := r.done) (a7 := r.why)
    unfold setSt at hS hZb hZh hZs
    generalize ((((((((V.setCell ⟨W.heap.size + 1, 0, none⟩ (.slice (some ⟨g0, 0, none⟩) r.store.length c0)).setCell ⟨W.heap.size + 1, 1, none⟩ (.slice D1 r.tape.length c1)).setCell ⟨W.heap.size + 1, 2, none⟩ (.int .i64 r.taken)).setCell ⟨W.heap.size + 1, 3, none⟩ (.slice E3 r.printed.length e3)).setCell ⟨W.heap.size + 1, 4, none⟩ (.int .i64 r.time)).setCell ⟨W.heap.size + 1, 5, none⟩ (.int .i64 r.at_)).setCell ⟨W.heap.size + 1, 6, none⟩ (.int .i64 r.done)).setCell ⟨W.heap.size + 1, 7, none⟩ (.int .i64 r.why)) = Z at *
    have hKZ : Z.heap[D]? = some (.deferred (some [])) := (hZh D (by have := HD.out; omega)).trans hK
    have hDl : D < Z.heap.size := (Array.getElem?_eq_some_iff.1 hKZ).1
    have hP : ∀ k, k ≠ D → (Z.putObj D (.deferred none)).heap[k]? = Z.heap[k]? := fun k h => World.putObj_heap_other (by omega)
    have hS2 := st_same hS (hP (W.heap.size + 1) (by have := HD.out; omega))
    have hmk : MachAt (V1.heap.size + 1) (Z.putObj D (.deferred none)) b g0 D1 E3 c0 c1 e3 r := hMr.out.keep (fun i hi => by
      have hb := hMr.out.blocks hi
      refine (hP i ?_).trans (hZh i (by omega))
      rintro rfl
      rcases (hMr.out.mbw i).2 hi with ⟨_, e | e | e | ⟨a, m, c, _, _, cs, e, fz, h3⟩⟩
      · omega
      · omega
      · have := l13 _ e; omega
      · rw [hK] at h3
        cases h3) (Nat.le_of_eq ((show (Z.putObj D (.deferred none)).heap.size = Z.heap.size by simp).trans hZs).symm)
    obtain ⟨k0, k1, k2, k3, k4, k5, k6, k7⟩ := hS2
    refine ⟨by simp, .inl ⟨_, _, rfl, run_takeDeferred hKZ, ?_⟩⟩
    refine ⟨.tuple #[.agg #[.slice (some ⟨g0, 0, none⟩) r.store.length c0, .slice D1 r.tape.length c1, .int .i64 r.taken, .slice E3 r.printed.length e3, .int .i64 r.time, .int .i64 r.at_, .int .i64 r.done, .int .i64 r.why], .int .i64 0], by simp [results, Try.results19, k0, k1, k2, k3, k4, k5, k6, k7, go_sem], ?_⟩
    exact ⟨_, _, _, _, _, _, rfl, own_ints hmk.r0, own_ints hmk.r1, own_ints hmk.r3, (HR4.out.below.trans hZb).trans (belowK_b (w := W) (Nat.le_refl _) Z D _ _ (by have := HD.out; omega) hKZ rfl rfl), own_cap hmk.r3⟩
theorem run_ok (s : MS) (hok : s.Ok) (most : Nat) (hmost : most ≤ 5000) (A0 A1 A3 : Option Addr) (n0 n1 n3 : Nat) (W : World) (i0 : IntsAt W W.heap.size A0 s.store) (i1 : IntsAt W W.heap.size A1 s.tape) (i3 : IntsAt W W.heap.size A3 s.printed)
    (KE : Hid (∀ w, IntsAt w w.heap.size A0 s.store → IntsAt w w.heap.size A1 s.tape → IntsAt w w.heap.size A3 s.printed → Calls Try.prog 44 #[stV A0 A1 A3 n0 n1 n3 s.store s.tape s.printed s.taken s.time s.at_ s.done s.why, .int .i64 most] w fun e W' => e = .returned (.int .i64 0) ∧ Below w.heap.size w W')) :
    Calls Try.prog 19 #[stV A0 A1 A3 n0 n1 n3 s.store s.tape s.printed s.taken s.time s.at_ s.done s.why, .int .i64 most] W (StateOut W (MS.run most s) 0) :=
  (run_okC s hok most hmost A0 A1 A3 n0 n1 n3 W i0 i1 i3 KE).mono fun e W' h => h.out
end Go.Proofs.Ytmkcijecncdhpaa
