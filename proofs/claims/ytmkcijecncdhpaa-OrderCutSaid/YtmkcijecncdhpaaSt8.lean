/-
  THE ORDERS THAT ARE DONE, AS A LIST: AppendSeq, Collect, Trace. No statement is proved here.
-/
import Derived.Test.YtmkcijecncdhpaaSt7
import Derived.Maps.AppendAt
namespace Go.Proofs.Ytmkcijecncdhpaa
open Go.RowKit Go.Shelf
set_option linter.unusedVariables false
set_option linter.unusedSimpArgs false
attribute [local go_sem] Oper.semAt_some

/-- As wpIn_rangeMoves; the loop's variables may be laid anew in every round. -/
theorem wpIn_rangeMovesA {F : Fence} {n : Nat} {P : Program} {α : Type} {g : Operand} {ps : Array Tmp} {assign body : Code} {Q : Exit → Act → World → Prop} {a : Act} {w : World}
    (hro : F.round = none) (h1 : 1 ≤ n) {gf : Nat} {lb : Array Value} (hg : a.eval g = .func (.func gf) #[] lb) (hF : F.fn gf) (eg : ∀ args w, (callFunc gf args).run P w = .ok (.enter gf args) w)
    {encs : α → Array Value} {Mv Kp : World → World → Prop} {S : List α → World → Prop} {N : Nat} {w0 : World} (hseq : SeqMoves F (n - 1) P gf lb encs Mv Kp S N w0) (hb0 : Below w0.heap.size w0 w) (hps : ∀ x, (encs x).size = ps.size)
    (hKt : ∀ {A B C : World}, Kp A B → Kp B C → Kp A C) (hKb : TurnOk w.heap.size Kp) (hMs : StaysOk w.heap.size Mv)
    (I : List α → World → Prop) (hI : OwnFrom w.heap.size I) (hIM : ∀ s A B, I s A → Mv A B → I s B) (hS : OwnFrom w.heap.size S) (h0 : I [] w)
    (I' : List α → α → Act → World → Prop) (hI' : ∀ pre x a, OwnFrom w.heap.size (fun (_ : Unit) W => I' pre x a W))
    (hassign : ∀ (l : Nat) (pre : List α) (x : α) (W : World), I pre W → pre.length < N →
      assign.wpIn (F.inRound l) (n - 1 - 1) P (Exit.then (fun a₁ V => KeepsOthers W V ∧ Kp W V ∧ I' pre x a₁ V) (fun _ _ _ => False)) { tmps := (ps.zip (encs x)).foldl (fun t (p, v) => t.setIfInBounds p v) a.tmps, defers := [] } W)
    (hbody : ∀ (l : Nat) (pre : List α) (x : α) (a₁ : Act) (W : World), I' pre x a₁ W → body.wpIn (F.inRound l) (n - 1 - 1) P (GoesOn Kp I (pre ++ [x]) W) a₁ W)
    (hdone : ∀ (D : Nat) (xs : List α) (W : World), w.heap.size ≤ D → S xs W → I xs W → W.heap[D]? = some (.deferred (some [])) → Q .normal { a with defers := { target := .collected D, args := #[] } :: a.defers } W) :
    (Code.rangeFunc g ps assign body).wpIn F n P Q a w := by
  refine wpIn_rangeFunc fun fn hfn => ?_
  rw [hro]
  generalize hD : w.heap.size = D at *
  let rec0 : LoopState → Option Code → Loop := fun st pe => { state := st, pending := pe, fn, tmps := a.tmps, params := ps, assign, body, defers := D }
  let Two : LoopState → World → Prop := fun st V => V.heap[D + 1]? = some (.loop (rec0 st none)) ∧ V.heap[D]? = some (.deferred (some []))
  let Start : World := (w.alloc (.deferred (some []))).alloc (.loop (rec0 .ready none))
  have hTwo : Two .ready Start := by
    constructor
    · have := World.alloc_heap_new (w.alloc (.deferred (some []))) (.loop (rec0 .ready none))
      rwa [World.size_alloc, hD] at this
    · have := World.alloc_heap_new w (.deferred (some []))
      rw [hD] at this
      exact (Below.heap_alloc _ _ _ (by simp [hD])).trans this
  have put : ∀ {st : LoopState} (st' : LoopState) {V : World}, Two st V → Two st' (V.putObj (D + 1) (.loop (rec0 st' none))) := fun st' V h =>
    ⟨World.putObj_heap_same (Array.getElem?_eq_some_iff.1 h.1).1, (World.putObj_heap_other (by omega)).trans h.2⟩
  have enter : (Instr.enterLoop fn a.tmps ps assign body none).run P w = .ok (D + 1, [{ target := .collected D, args := #[] }]) Start := by
    have := run_enterLoop_outer (P := P) (w := w) fn a.tmps ps assign body
    rw [hD] at this
    exact this
  refine ⟨D + 1, [{ target := .collected D, args := #[] }], Start, { target := .fn (.func gf) lb, args := #[.func (.yield (D + 1)) #[] #[]] }, Start, gf, #[.func (.yield (D + 1)) #[] #[]] ++ lb, Start, enter, ?_, ?_, ?_, fun _ => h1, ?_⟩
  · simp only [resolve, hg]
    simp [go_sem]
  · intro f' hf'
    simp [Target.leads] at hf'
    exact hf' ▸ hF
  · simp [invoke, go_sem, eg]
  have hbS : Below w0.heap.size w0 Start := by
    refine hb0.trans ⟨rfl, rfl, rfl, by simp [Start]; omega, fun k hk => ?_⟩
    have := hb0.size
    exact (Below.heap_alloc _ _ k (by rw [World.size_alloc]; omega)).trans (Below.heap_alloc _ _ k (by omega))
  refine (hseq (D + 1) (fun pre V => I pre V ∧ Two .ready V) Start hbS (fun s A B h hm => ⟨hIM s A B h.1 hm, hMs A B _ _ hm (by omega) h.2.1 rfl, hMs A B _ _ hm (Nat.le_refl _) h.2.2 rfl⟩) ?round ⟨hI.alloc _ (hI.alloc _ h0), hTwo⟩).mono ?behind
  case round =>
    rintro pre x V ⟨hi, ht⟩ hlen
    have hy := run_yield (P := P) (args := encs x) ht.1 (hps x)
    refine ⟨fn, _, assign, body, hy, roundIn_of_wpIn hfn (wpIn_mono (hassign _ pre x V hi hlen) ?_)⟩
    rintro e1 a1 V1 hp1
    cases e1 with
    | normal =>
      obtain ⟨hk1, hkp1, hi1⟩ := hp1
      have t1 : Two .ready V1 := ⟨hk1.same _ _ ht.1 rfl, hk1.same _ _ ht.2 rfl⟩
      refine ⟨_, run_beginRound t1.1 rfl, ?_⟩
      have hb := put .busy t1
      refine wpIn_mono (hbody _ pre x a1 _ ((hI' pre x a1).putObj (s := ()) _ hi1 (by omega) t1.1 rfl)) ?_
      rintro e a3 W3 hp
      cases e with
      | normal =>
        obtain ⟨hk, hkp, hi3⟩ := hp
        have h3 : Two .busy W3 := ⟨hk.same _ _ hb.1 rfl, hk.same _ _ hb.2 rfl⟩
        exact ⟨_, _, run_endRound (P := P) none h3.1, rfl, ⟨hI.putObj _ hi3 (by omega) h3.1 rfl, put .ready h3⟩, hKt hkp1 (hKt (hKt (hKb V1 _ _ _ (by omega) t1.1 rfl rfl) hkp) (hKb W3 _ _ _ (by omega) h3.1 rfl rfl))⟩
      | _ => exact hp.elim
    | _ => exact hp1.elim
  case behind =>
    rintro e W2 ⟨⟨v, rfl⟩, xs, hs, hi, ht⟩
    exact ⟨none, _, run_endLoop (P := P) ht.1 (by simp [rec0]), hdone D xs _ (Nat.le_refl _) (hS.putObj _ hs (by omega) ht.1 rfl) (hI.putObj _ hi (by omega) ht.1 rfl) ((World.putObj_heap_other (by omega)).trans ht.2)⟩

/-- append within a round: the new row is the old one, or a new block. -/
theorem wpListIn_append_at {F : Fence} {n : Nat} {P : Program} (w : World) {ops : Array Oper} {rest : List Oper} {o : Oper} {a : Act} {Q : Exit → Act → World → Prop}
    (hg : o.guard = none) (s x : Operand) (t : TypeId) (hop : o.op = Op.call { callee := Callee.builtin Builtin.append, args := #[s, x], argTypes := #[t, t] })
    (base : Nat) (e : TypeId) (i : TypeInfo) (z : Value) (size bytes : Nat) (h1 : P.underlying t = some (.slice e)) (h2 : P.info? e = some i) (h3 : i.zero = some z) (h4 : i.size = size) (h5 : i.bytes = bytes) (h6 : z.cells.size = size) (h7 : 0 < size)
    (v : Value) (k : Nat) (xs : List Value) (hs : a.eval s = v) (hown : w.ownsRow base e size v k xs) (ad : Addr) (m c : Nat) (news : List Value) (hx : a.eval x = .slice (some ad) m c) (hn : news.length = m * size)
    (hc : ∀ j u, news[j]? = some u → w.cell? (ad.add j) = some u) (h1c : ∀ u ∈ news, u.oneCell' = true) (b1 : k + m ≤ maxLen) (b2 : (k + m) * bytes ≤ 140737488355328) (b3 : base ≤ w.heap.size)
    (hK : ∀ v' w', w'.ownsRow base e size v' (k + m) (xs ++ news) → w.grownBy w' v.ownBlock → (v'.ownBlock = v.ownBlock ∨ v'.ownBlock = some w.heap.size) → wpListIn F n P ops Q rest (a.put o.dst v') w') :
    wpListIn F n P ops Q (o :: rest) a w := by
  refine wpListIn_plain hg fun K hK' => ?_
  obtain ⟨v', w', hrun, r1, r2, _, r4⟩ := run_append_own_at (P := P) w base t o.type e i z size bytes h1 h2 h3 h4 h5 h6 h7 v k xs hown ad m c news hn hc h1c b1 b2 b3
  unfold Oper.wpIn
  constructor
  · simp [Oper.about, hop, resolve, Target.leads, Sem.run_pure]
  · rw [Oper.semAt_plain F _ _ (by rw [hop]; intro c hc'; cases hc')]
    simp [execOp, hop, resolve, invoke, builtin, hs, hx, hrun, Result.andThen]
    exact hK' _ _ (hK v' w' r1 r2 r4)
/-- The cells of an order that is done. -/
def stepC (x : MS) : List Value := [.int .i64 x.at_, .int .i64 x.op, .int .i64 x.frm, .int .i64 x.to, .int .i64 x.nxt, .int .i64 x.time, .int .i64 x.until_]
def stepsC (xs : List MS) : List Value := xs.flatMap stepC
theorem stepsC_snoc (xs : List MS) (x : MS) : stepsC (xs ++ [x]) = stepsC xs ++ stepC x := by simp [stepsC]
theorem infoStep : (Try.prog.info? 60).map (fun i => (i.zero, i.size, i.bytes)) = some (some (.agg #[.int .i64 0, .int .i64 0, .int .i64 0, .int .i64 0, .int .i64 0, .int .i64 0, .int .i64 0]), 7, 56) := by kernel_rfl
/-- What AppendSeq has so far. -/
structure ApI (B b g0 : Nat) (A1 : Option Addr) (W : World) (pre : List MS) (V : World) : Prop where
  row : ∃ v, V.cell? ⟨W.heap.size, 0, none⟩ = some v ∧ V.ownsRow (W.heap.size + 1) 60 7 v pre.length (stepsC pre) ∧ ∀ k, v.ownBlock = some k → ¬ MBw B b g0 A1 V k
  fr : V.frozen? ⟨W.heap.size, 0, none⟩ = false
  far : ¬ MBw B b g0 A1 V W.heap.size
  below : Below B W V
  lt : W.heap.size < V.heap.size
  pb : ∀ a n c, V.cell? ⟨b, 3, none⟩ = some (.slice (some a) n c) → a.block < V.heap.size
section
variable {B b g0 : Nat} {A1 : Option Addr} {W : World} {pre : List MS} {V C : World}
theorem ApI.mv (h : ApI B b g0 A1 W pre V) (hB : B ≤ W.heap.size) (m : MvM B b g0 A1 V C) : ApI B b g0 A1 W pre C := by
  obtain ⟨⟨v, hv, hr, hn⟩, hf, hfar, hb, hl, _⟩ := h
  obtain ⟨m0, mp⟩ := m
  have hbB := (show MvM B b g0 A1 V C from ⟨m0, mp⟩).under (by omega)
  have m := m0
  have hs := m.block _ hl hfar
  refine ⟨⟨v, (World.cell?_of_block (a := ⟨W.heap.size, 0, none⟩) hs).trans hv, own_same hr fun k e => m.block k (hr.lt k e).2 (hn k e), fun k e hk => (m.fresh k hk).elim (hn k e) (fun e2 => by have := (hr.lt k e).2; omega)⟩,
    (World.frozen?_of_block (a := ⟨W.heap.size, 0, none⟩) hs).trans hf, fun hk => (m.fresh _ hk).elim hfar (fun e => by omega), hb.trans hbB, Nat.lt_of_lt_of_le hl m.size, mp⟩
theorem mbw_grown {row : Option Nat} (hg : V.grownBy C row) (hbl : b < V.heap.size) (hbr : some b ≠ row) {k : Nat} (hk : k < V.heap.size) (hkr : some k ≠ row) (h : MBw B b g0 A1 C k) : MBw B b g0 A1 V k := by
  obtain ⟨h0, h1 | h1 | h1 | ⟨a, n, c, h1, rfl, cs, e, fz, h2⟩⟩ := h
  · exact ⟨h0, .inl h1⟩
  · exact ⟨h0, .inr (.inl h1)⟩
  · exact ⟨h0, .inr (.inr (.inl h1))⟩
  · exact ⟨h0, .inr (.inr (.inr ⟨a, n, c, (World.cell?_of_block (a := ⟨b, 3, none⟩) (hg.block b hbl hbr)).symm.trans h1, rfl, cs, e, fz, (hg.block _ hk hkr).symm.trans h2⟩))⟩
theorem own_cells {size n base k : Nat} {e : TypeId} {v : Value} {xs : List Value} (h : V.ownsRow base e size v n xs) (hk : v.ownBlock = some k) : ∃ cs e fz, V.heap[k]? = some (.cells cs e fz) := by
  rcases h.2 with ⟨rfl, _⟩ | ⟨g, cap, cur, rfl, _, hg, _⟩
  · simp [Value.ownBlock] at hk
  · simp [Value.ownBlock] at hk
    subst hk
    exact ⟨_, _, _, hg⟩
theorem ApI.grown {row : Option Nat} {n : Nat} (h : ApI B b g0 A1 W pre V) (hB : B ≤ W.heap.size) (hb : b < n) (hbV : n ≤ V.heap.size) (hn : W.heap.size < n) (hg : V.grownBy C row) (hr : ∀ r, row = some r → n ≤ r ∧ ∃ o : Obj, V.heap[r]? = some o ∧ o.isCells = false) : ApI B b g0 A1 W pre C := by
  obtain ⟨⟨v, hv, ho, hnm⟩, hf, hfar, hbl, hl, hpb⟩ := h
  have ne : ∀ k, k < n → some k ≠ row := fun k hk e => by have := (hr k e.symm).1; omega
  have nc : ∀ k, (∃ cs e fz, V.heap[k]? = some (.cells cs e fz)) → some k ≠ row := fun k ⟨cs, e, fz, hk⟩ e2 => by
    obtain ⟨_, o, ho, hc⟩ := hr k e2.symm
    rw [hk] at ho
    cases ho
    simp [Obj.isCells] at hc
  have hs := hg.block _ hl (ne _ hn)
  refine ⟨⟨v, (World.cell?_of_block (a := ⟨W.heap.size, 0, none⟩) hs).trans hv, own_same ho fun k e => hg.block k (ho.lt k e).2 (nc k (own_cells ho e)), fun k e hk => hnm k e (mbw_grown hg (by omega) (ne b hb) (ho.lt k e).2 (nc k (own_cells ho e)) hk)⟩,
    (World.frozen?_of_block (a := ⟨W.heap.size, 0, none⟩) hs).trans hf, fun hk => hfar (mbw_grown hg (by omega) (ne b hb) hl (ne _ hn) hk), hbl.grown hg (Nat.le_trans hB (Nat.le_of_lt hl)) (fun k e => by have := (hr k e).1; omega), Nat.lt_of_lt_of_le hl hg.size, fun a n c e => Nat.lt_of_lt_of_le (hpb a n c ((World.cell?_of_block (a := ⟨b, 3, none⟩) (hg.block b (by omega) (ne b hb))).symm.trans e)) hg.size⟩
theorem ApI.own {n : Nat} (hB : B ≤ W.heap.size) (hb : b < n) (hn : W.heap.size < n) {V0 : World} : OwnFrom n (fun (pre : List MS) V => ApI B b g0 A1 W pre V ∧ n ≤ V.heap.size) := fun pre V C row h hg hr =>
  ⟨h.1.grown hB hb h.2 hn hg hr, Nat.le_trans h.2 hg.size⟩
end
theorem ApI.push {B b g0 cM cT : Nat} {A1 : Option Addr} {W : World} {pre : List MS} {V : World} (h : ApI B b g0 A1 W pre V) (v : Value) (hv : V.cell? ⟨W.heap.size, 0, none⟩ = some v) (ho : V.ownsRow (W.heap.size + 1) 60 7 v pre.length (stepsC pre)) (hnm : ∀ k, v.ownBlock = some k → ¬ MBw B b g0 A1 V k)
    (hB : B ≤ W.heap.size) (hb : b < W.heap.size) (hg0 : g0 < W.heap.size) (h1 : ∀ k, blk A1 k → k < W.heap.size) (hM : cM < W.heap.size) (hT : cT < W.heap.size) (x : MS) (o : Obj) (v' : Value) (w1 : World)
    (hown : w1.ownsRow (W.heap.size + 1) 60 7 v' (pre.length + 1) (stepsC pre ++ stepC x)) (hgrow : (V.alloc o).grownBy w1 v.ownBlock) (hat : v'.ownBlock = v.ownBlock ∨ v'.ownBlock = some (V.alloc o).heap.size) (hx0 : w1.cell? ⟨W.heap.size, 0, none⟩ = some v) :
    KeepsOthers V (w1.setCell ⟨W.heap.size, 0, none⟩ v') ∧ KpM B b g0 cM cT A1 V (w1.setCell ⟨W.heap.size, 0, none⟩ v') ∧ ApI B b g0 A1 W (pre ++ [x]) (w1.setCell ⟨W.heap.size, 0, none⟩ v') := by
  have hl := h.lt
  have hsz : (V.alloc o).heap.size = V.heap.size + 1 := by simp
  have hgs := hgrow.size
  have hvn : ∀ k, v.ownBlock = some k → W.heap.size + 1 ≤ k ∧ k < V.heap.size := fun k e => ho.lt k e
  have hv'n : ∀ k, v'.ownBlock = some k → W.heap.size + 1 ≤ k ∧ k < w1.heap.size := fun k e => hown.lt k e
  have same : ∀ k, k < V.heap.size → k ≠ W.heap.size → v.ownBlock ≠ some k → (w1.setCell ⟨W.heap.size, 0, none⟩ v').heap[k]? = V.heap[k]? := fun k hk hne hvk =>
    ((Below.heap_setCell w1 ⟨W.heap.size, 0, none⟩ v' k hne).trans (hgrow.block k (by omega) (fun e => hvk e.symm))).trans (Below.heap_alloc V o k hk)
  have hbs := same b (by omega) (by omega) (fun e => by have := (hvn b e).1; omega)
  have hss : (w1.setCell ⟨W.heap.size, 0, none⟩ v').heap.size = w1.heap.size := by simp [World.setCell]
  have mlt : ∀ k, MBw B b g0 A1 V k → k < V.heap.size := fun k ⟨_, e⟩ => by
    rcases e with e | e | e | ⟨a, m, c, _, _, cs, e, fz, h2⟩
    · omega
    · omega
    · have := h1 _ e; omega
    · exact (Array.getElem?_eq_some_iff.1 h2).1
  have back : ∀ k, k < V.heap.size → v.ownBlock ≠ some k → k ≠ W.heap.size → MBw B b g0 A1 (w1.setCell ⟨W.heap.size, 0, none⟩ v') k → MBw B b g0 A1 V k := fun k hk hvk hne ⟨e0, e⟩ => by
    rcases e with e | e | e | ⟨a, m, c, e1, rfl, cs, e, fz, h2⟩
    · exact ⟨e0, .inl e⟩
    · exact ⟨e0, .inr (.inl e)⟩
    · exact ⟨e0, .inr (.inr (.inl e))⟩
    · exact ⟨e0, .inr (.inr (.inr ⟨a, m, c, (World.cell?_of_block (a := ⟨b, 3, none⟩) hbs).symm.trans e1, rfl, cs, e, fz, (same _ hk hne hvk).symm.trans h2⟩))⟩
  have pbV : ∀ a m c, (w1.setCell ⟨W.heap.size, 0, none⟩ v').cell? ⟨b, 3, none⟩ = some (.slice (some a) m c) → a.block < V.heap.size := fun a m c e => h.pb a m c ((World.cell?_of_block (a := ⟨b, 3, none⟩) hbs).symm.trans e)
  have notb : ∀ k, W.heap.size ≤ k → MBw B b g0 A1 (w1.setCell ⟨W.heap.size, 0, none⟩ v') k → ∃ a m c, (w1.setCell ⟨W.heap.size, 0, none⟩ v').cell? ⟨b, 3, none⟩ = some (.slice (some a) m c) ∧ a.block = k := fun k hk ⟨_, e⟩ => by
    rcases e with e | e | e | ⟨a, m, c, e1, e2, _⟩
    · omega
    · omega
    · have := h1 _ e; omega
    · exact ⟨a, m, c, e1, e2⟩
  have farB : ∀ k, W.heap.size ≤ k → k < V.heap.size → ¬ MBw B b g0 A1 V k → (∃ cs e fz, V.heap[k]? = some (.cells cs e fz)) → ¬ MBw B b g0 A1 (w1.setCell ⟨W.heap.size, 0, none⟩ v') k := fun k hk hkV hn ⟨cs, e, fz, hc⟩ hm => by
    obtain ⟨a, m, c, e1, e2⟩ := notb k hk hm
    exact hn ⟨hm.1, .inr (.inr (.inr ⟨a, m, c, (World.cell?_of_block (a := ⟨b, 3, none⟩) hbs).symm.trans e1, e2, cs, e, fz, hc⟩))⟩
  refine ⟨?_, ⟨by omega, fun k hk => ?_⟩, ⟨⟨v', World.cell?_setCell_same _ _ _ hx0, ?_, fun k e hm => ?_⟩, ?_, ?_, ?_, by omega, fun a m c e => by have := pbV a m c e; omega⟩⟩
  · refine ((KeepsOthers.alloc V o).trans (KeepsOthers.of_grownBy hgrow fun j o' e ho' => ?_)).trans (KeepsOthers.setCell _ _ _)
    obtain ⟨cs, e2, fz, hc⟩ := own_cells ho e
    rw [Below.heap_alloc V o j (hvn j e).2, hc] at ho'
    cases ho'
    rfl
  · have hkV : k < V.heap.size := by
      rcases hk with e | e | e | e
      · exact mlt k e
      · omega
      · omega
      · omega
    have hkn : v.ownBlock ≠ some k := fun e => by
      rcases hk with e2 | e2 | e2 | e2
      · exact hnm k e e2
      · have := (hvn k e).1; omega
      · have := (hvn k e).1; omega
      · have := (hvn k e).1; omega
    have hks : k ≠ W.heap.size := fun e => by
      rcases hk with e2 | e2 | e2 | e2
      · exact h.far (e ▸ e2)
      · omega
      · omega
      · omega
    exact same k hkV hks hkn
  · rw [stepsC_snoc, List.length_append, List.length_singleton]
    exact ownsRow_setCell_other hown (fun e => by have := (hv'n _ e).1; simp only at this; omega) _
  · rcases hat with e2 | e2
    · rw [e2] at e
      exact farB k (by have := (hvn k e).1; omega) (hvn k e).2 (hnm k e) (own_cells ho e) hm
    · rw [e2, Option.some.injEq] at e
      obtain ⟨a, m, c, e1, e3⟩ := notb k (by omega) hm
      have := pbV a m c e1
      omega
  · have hsb : w1.heap[W.heap.size]? = V.heap[W.heap.size]? := (hgrow.block _ (by omega) (fun e => by have := (hvn _ e.symm).1; omega)).trans (Below.heap_alloc V _ _ hl)
    rw [World.frozen?_setCell]
    exact (World.frozen?_of_block (a := ⟨W.heap.size, 0, none⟩) hsb).trans h.fr
  · have hcV : ∃ cs e fz, V.heap[W.heap.size]? = some (.cells cs e fz) := by
      unfold World.cell? at hv
      cases hh : V.heap[W.heap.size]? with
      | none => rw [hh] at hv; simp at hv
      | some ob =>
        cases ob with
        | cells cs e fz => exact ⟨cs, e, fz, rfl⟩
        | _ => rw [hh] at hv; simp at hv
    exact farB _ (Nat.le_refl _) hl h.far hcV
  · refine h.below.trans ⟨hgrow.os, hgrow.tape, hgrow.output, by omega, fun k hk => ?_⟩
    exact same k (by omega) (by omega) (fun e => by have := (hvn k e).1; omega)
/-- The orders that a run does, in a list. -/
def TakenOf (most : Nat) (s : MS) (xs : List MS) : Prop := ∃ k, k ≤ most ∧ xs = MS.taken_ k s ∧ (∀ j, j < k → (MS.goN j s).ends = 0) ∧ (k < most → (MS.goN k s).ends ≠ 0)
def ApOut (B : Nat) (W : World) (most : Nat) (s : MS) (e : Ending) (W' : World) : Prop :=
  ∃ v xs, e = .returned v ∧ TakenOf most s xs ∧ W'.ownsRow (W.heap.size + 1) 60 7 v xs.length (stepsC xs) ∧ Below B W W'
set_option maxRecDepth 100000 in
set_option maxHeartbeats 4000000 in
theorem appendSeq_ok (s : MS) (hok : s.Ok) (most : Nat) (hmost : most ≤ 5000) (B b g0 cM cT : Nat) (A1 A3 : Option Addr) (c0 c1 c3 : Nat) (W : World) (hB : B ≤ W.heap.size) (hM : MachAt B W b g0 A1 A3 c0 c1 c3 s) (hcM : W.cell? ⟨cM, 0, none⟩ = some (.pointer (some ⟨b, 0, none⟩))) (hcT : W.cell? ⟨cT, 0, none⟩ = some (.int .i64 most))
    (nM : ¬ MB b g0 A1 A3 cM) (hlM : cM < W.heap.size) (hlT : cT < W.heap.size) :
    Calls Try.prog 74 #[.slice none 0 0, .func (.func 65) #[] #[.pointer (some ⟨cT, 0, none⟩), .pointer (some ⟨cM, 0, none⟩)]] W (ApOut B W most s) := by
  refine (callsIn_wide (n := 4)).1 ?_
  refine callsIn_of_wp_marks Try.func74 rfl trivial ?_ rfl
  simp only [Try.ntmps74, List.size_toArray, List.length_cons, List.length_nil, Nat.reduceAdd, Nat.reduceSub, Array.replicate_succ, Array.replicate_zero, List.push_toArray, List.append_toArray, List.nil_append, List.cons_append]
  gi_wp2_with fail
  have EG := fun args w => enters_of Try.func65 (by kernel_rfl) rfl args w
  have lb3 : b < W.heap.size := hM.lt
  have lg3 : g0 < W.heap.size := (hM.blocks (.inr (.inl rfl))).2
  have l13 : ∀ k, blk A1 k → k < W.heap.size := fun k hk => (hM.blocks (.inr (.inr (.inl hk)))).2
  have hbA := alloc_below W (.cells #[.slice none 0 0] 54)
  have hs0 : (W.alloc (.cells #[.slice none 0 0] 54)).heap.size = W.heap.size + 1 := by simp
  have hv0 : (W.alloc (.cells #[.slice none 0 0] 54)).cell? ⟨W.heap.size, 0, none⟩ = some (.slice none 0 0) := by simp [go_sem]
  have hf0 : (W.alloc (.cells #[.slice none 0 0] 54)).frozen? ⟨W.heap.size, 0, none⟩ = false := by simp [go_sem]
  have hM0 := hM.below hbA
  have hcM0 := (hbA.cell (p := ⟨cM, 0, none⟩) hlM).trans hcM
  have hcT0 := (hbA.cell (p := ⟨cT, 0, none⟩) hlT).trans hcT
  have hfar0 : ¬ MBw B b g0 A1 (W.alloc (.cells #[.slice none 0 0] 54)) W.heap.size := fun e => by
    have := (hM.blocks ((hM0.mbw _).1 e)).2
    omega
  generalize W.alloc (.cells #[.slice none 0 0] 54) = V0 at *
  have hI0 : ApI B b g0 A1 W [] V0 := ⟨⟨_, hv0, World.ownsRow_nil _ _ _ _, fun k e => by simp [Value.ownBlock] at e⟩, hf0, hfar0, below_lower hB hbA, by omega, hM0.pb⟩
  have hseq : SeqMoves Fence.wide 3 Try.prog 65 #[.pointer (some ⟨cT, 0, none⟩), .pointer (some ⟨cM, 0, none⟩)] (fun x : MS => #[stepV x]) (MvM B b g0 A1) (KpM B b g0 cM cT A1) (fun xs _ => TakenOf most s xs) most V0 := fun l J W' hW hJ hY h0 =>
    (steps_in s hok most hmost 3 (by decide) l B b g0 cM cT A1 c0 c1 J (Lib.hid hJ) (Lib.hid hY) W' A3 c3 (hM0.below hW) ((hW.cell (p := ⟨cM, 0, none⟩) (by show cM < _; omega)).trans hcM0) ((hW.cell (p := ⟨cT, 0, none⟩) (by show cT < _; omega)).trans hcT0) nM (by have := hW.size; omega) h0).mono fun e V h => ⟨h.1, by
      obtain ⟨xs, hx, hj⟩ := h.2
      exact ⟨xs, hx.2, hj⟩⟩
  have hBn : B ≤ V0.heap.size := by omega
  obtain ⟨i0, hi0, hi1, hi2, hi3⟩ := info_parts infoStep
  clear hM hM0 hcM hcT hcM0 hcT0 hv0 hf0 hfar0 nM hbA
  refine wpIn_rangeMovesA rfl (by decide) (gf := 65) (lb := #[.pointer (some ⟨cT, 0, none⟩), .pointer (some ⟨cM, 0, none⟩)]) rfl trivial EG hseq (Below.refl _ _) (fun _ => rfl)
    (fun h k => h.trans k) (kpM_turn (by omega) (by omega) (fun k hk => by have := l13 k hk; omega) (by omega) (by omega)) (mvM_stays (by omega) (by omega) (fun k hk => by have := l13 k hk; omega))
    (fun pre V => ApI B b g0 A1 W pre V ∧ V0.heap.size ≤ V.heap.size) (ApI.own hB (by omega) (by omega) (V0 := V0)) (fun pre A C h m => ⟨h.1.mv hB m, Nat.le_trans h.2 m.1.size⟩) (fun xs V C row h _ _ => h) ⟨hI0, Nat.le_refl _⟩
    (fun pre x a V => ∃ kv, a = { tmps := #[.slice none 0 0, .func (.func 65) #[] #[.pointer (some ⟨cT, 0, none⟩), .pointer (some ⟨cM, 0, none⟩)], .pointer (some ⟨W.heap.size, 0, none⟩), undef, .slice none 0 0, .pointer (some ⟨kv, 0, none⟩), .func (.func 65) #[] #[.pointer (some ⟨cT, 0, none⟩), .pointer (some ⟨cM, 0, none⟩)], stepV x, undef, undef, undef, undef, undef], defers := [] } ∧ (ApI B b g0 A1 W pre V ∧ V0.heap.size ≤ V.heap.size) ∧ RowIs V kv 60 (stepC x) ∧ pre.length < most)
    (fun pre x a s' V C row h hg hr => ?own) ?assign ?body ?done
  case own =>
    obtain ⟨kv, ha, hi, hrow, hlen⟩ := h
    refine ⟨kv, ha, ApI.own hB (by omega) (by omega) (V0 := V0) pre V C row hi hg hr, (hg.block kv hrow.lt fun e => ?_).trans hrow, hlen⟩
    obtain ⟨_, o, ho, hc⟩ := hr kv e.symm
    unfold RowIs at hrow
    rw [hrow] at ho
    cases ho
    simp [Obj.isCells] at hc
  case assign =>
    intro l pre x V hI hlen
    have hab := alloc_below V (.cells (stepC x).toArray 60)
    have hrow := RowIs.new V 60 (stepC x)
    have hI2 : ApI B b g0 A1 W pre (V.alloc (.cells (stepC x).toArray 60)) := hI.1.grown hB (n := V0.heap.size) (by omega) hI.2 (by omega) (World.grownBy_alloc V _ none) (fun r e => by cases e)
    have hk : KpM B b g0 cM cT A1 V (V.alloc (.cells (stepC x).toArray 60)) := ⟨hab.size, fun k hk => hab.block k (by
      rcases hk with ⟨_, e | e | e | ⟨a, m, c, _, _, cs, e, fz, h2⟩⟩ | e | e | e
      · omega
      · omega
      · have := l13 _ e; omega
      · exact (Array.getElem?_eq_some_iff.1 h2).1
      · omega
      · omega
      · omega)⟩
    have hko := KeepsOthers.alloc V (.cells (stepC x).toArray 60)
    have hsz : V0.heap.size ≤ (V.alloc (.cells (stepC x).toArray 60)).heap.size := Nat.le_trans hI.2 hab.size
    have HA := Lib.hid (And.intro hko (And.intro hk (And.intro hI2 (And.intro hsz hrow))))
    clear hko hk hI2 hsz hrow hab
    unfold stepC at HA
    unfold stepV
    gi_wp2
    exact ⟨HA.out.1, HA.out.2.1, V.heap.size, rfl, ⟨HA.out.2.2.1, HA.out.2.2.2.1⟩, HA.out.2.2.2.2, hlen⟩
  case body =>
    rintro l pre x a1 V ⟨kv, rfl, ⟨hI, hn⟩, hrow, hlen⟩
    obtain ⟨⟨v, hv, ho, hnm⟩, hf, hfar, hbl, hl, hpb⟩ := hI
    have s0 : V.cell? ⟨kv, 0, none⟩ = some (.int .i64 x.at_) := hrow.cell 0
    have s1 : V.cell? ⟨kv, 1, none⟩ = some (.int .i64 x.op) := hrow.cell 1
    have s2 : V.cell? ⟨kv, 2, none⟩ = some (.int .i64 x.frm) := hrow.cell 2
    have s3 : V.cell? ⟨kv, 3, none⟩ = some (.int .i64 x.to) := hrow.cell 3
    have s4 : V.cell? ⟨kv, 4, none⟩ = some (.int .i64 x.nxt) := hrow.cell 4
    have s5 : V.cell? ⟨kv, 5, none⟩ = some (.int .i64 x.time) := hrow.cell 5
    have s6 : V.cell? ⟨kv, 6, none⟩ = some (.int .i64 x.until_) := hrow.cell 6
    gi_wp2_with (gi_at_builtin; refine wpListIn_append_at _ rfl (.tmp 8) (.tmp 10) 54 rfl (W.heap.size + 1) 60 i0 (.agg #[.int .i64 0, .int .i64 0, .int .i64 0, .int .i64 0, .int .i64 0, .int .i64 0, .int .i64 0]) 7 56 Try.underlying54 hi0 hi1 hi2 hi3 rfl (by decide) v pre.length (stepsC pre) rfl (ho.alloc _) ⟨V.heap.size, 0, none⟩ 1 1 (stepC x) rfl rfl ?c1 ?c2 ?c3 ?c4 ?c5 ?_)
    case c1 =>
      intro j u hj
      have hr2 := RowIs.new V 60 (stepC x)
      rw [add_zero_off]
      exact (hr2.cell j).trans hj
    case c2 => intro u hu; simp only [stepC, List.mem_cons, List.not_mem_nil, or_false] at hu; rcases hu with rfl | rfl | rfl | rfl | rfl | rfl | rfl <;> rfl
    case c3 => unfold maxLen; omega
    case c4 => omega
    case c5 => simp; omega
    intro v' w1 hown hgrow hat
    obtain ⟨g, cap, rfl⟩ : ∃ g cap, v' = .slice (some ⟨g, 0, none⟩) (pre.length + 1) cap := by
      rcases hown.2 with ⟨_, e⟩ | ⟨g, cap, cur, e, _⟩
      · omega
      · exact ⟨g, cap, e⟩
    have hne : some W.heap.size ≠ v.ownBlock := fun e => by have := (ho.lt _ e.symm).1; omega
    have hsb : w1.heap[W.heap.size]? = V.heap[W.heap.size]? := (hgrow.block _ (by simp; omega) hne).trans (Below.heap_alloc V _ _ hl)
    have x0 := (World.cell?_of_block (a := ⟨W.heap.size, 0, none⟩) hsb).trans hv
    have xf := (World.frozen?_of_block (a := ⟨W.heap.size, 0, none⟩) hsb).trans hf
    have HP := Lib.hid (ApI.push (cM := cM) (cT := cT) ⟨⟨v, hv, ho, hnm⟩, hf, hfar, hbl, hl, hpb⟩ v hv ho hnm hB lb3 lg3 l13 hlM hlT x _ _ w1 hown hgrow (by simpa using hat) x0)
    have HN := Lib.hid (show V0.heap.size ≤ (w1.setCell ⟨W.heap.size, 0, none⟩ (.slice (some ⟨g, 0, none⟩) (pre.length + 1) cap)).heap.size by have := hgrow.size; simp [World.setCell] at this ⊢; omega)
    clear hown hgrow hat hsb hv ho hnm hf hfar hbl hpb hrow s0 s1 s2 s3 s4 s5 s6
    gi_wp2
    exact ⟨HP.out.1, HP.out.2.1, HP.out.2.2, HN.out⟩
  case done =>
    rintro D xs V hD hS ⟨hI, hn⟩ hK
    obtain ⟨⟨v, hv, ho, hnm⟩, hf, hfar, hbl, hl, hpb⟩ := hI
    clear hseq EG
    gi_wp2
    have hDl : D < V.heap.size := (Array.getElem?_eq_some_iff.1 hK).1
    have ho2 : (V.putObj D (.deferred none)).ownsRow (W.heap.size + 1) 60 7 v xs.length (stepsC xs) := ownsRow_putObj ho _ hK rfl
    refine ⟨by simp, .inl ⟨_, _, rfl, run_takeDeferred hK, ?_⟩⟩
    exact ⟨v, by simp [results, Try.results74, go_sem], v, xs, rfl, hS, ho2, hbl.grown (grownBy_putObj' _ D _) (by omega) (fun k e => by cases e; omega)⟩
set_option maxHeartbeats 1000000 in
theorem collect_ok (s : MS) (hok : s.Ok) (most : Nat) (hmost : most ≤ 5000) (B b g0 cM cT : Nat) (A1 A3 : Option Addr) (c0 c1 c3 : Nat) (W : World) (hB : B ≤ W.heap.size) (hM : MachAt B W b g0 A1 A3 c0 c1 c3 s) (hcM : W.cell? ⟨cM, 0, none⟩ = some (.pointer (some ⟨b, 0, none⟩))) (hcT : W.cell? ⟨cT, 0, none⟩ = some (.int .i64 most))
    (nM : ¬ MB b g0 A1 A3 cM) (hlM : cM < W.heap.size) (hlT : cT < W.heap.size) :
    Calls Try.prog 64 #[.func (.func 65) #[] #[.pointer (some ⟨cT, 0, none⟩), .pointer (some ⟨cM, 0, none⟩)]] W (ApOut B W most s) := by
  have H := Lib.hid (appendSeq_ok s hok most hmost B b g0 cM cT A1 A3 c0 c1 c3 W hB hM hcM hcT nM hlM hlT)
  clear hM hcM hcT nM
  go_enter Try.func64, Try.ntmps64
  go_wp2_with fail
  refine H.out.mono ?_; rintro e w' ⟨v, xs, rfl, h1, h2, h3⟩
  go_wp2
  go_ret
  exact ⟨v, xs, rfl, h1, h2, h3⟩
/-- What Trace hands back. -/
def TraceOut (W : World) (most : Nat) (s : MS) (e : Ending) (W' : World) : Prop :=
  ∃ v xs, e = .returned (.tuple #[v, .int .i64 0]) ∧ TakenOf most s xs ∧ W'.ownsRow W.heap.size 60 7 v xs.length (stepsC xs) ∧ Below W.heap.size W W'
set_option maxRecDepth 100000 in
set_option maxHeartbeats 2000000 in
theorem trace_ok (s : MS) (hok : s.Ok) (most : Nat) (hmost : most ≤ 5000) (A0 A1 A3 : Option Addr) (n0 n1 n3 : Nat) (W : World) (i0 : IntsAt W W.heap.size A0 s.store) (i1 : IntsAt W W.heap.size A1 s.tape) (i3 : IntsAt W W.heap.size A3 s.printed)
    (KE : Hid (∀ w, IntsAt w w.heap.size A0 s.store → IntsAt w w.heap.size A1 s.tape → IntsAt w w.heap.size A3 s.printed → Calls Try.prog 44 #[stV A0 A1 A3 n0 n1 n3 s.store s.tape s.printed s.taken s.time s.at_ s.done s.why, .int .i64 most] w fun e W' => e = .returned (.int .i64 0) ∧ Below w.heap.size w W')) :
    Calls Try.prog 37 #[stV A0 A1 A3 n0 n1 n3 s.store s.tape s.printed s.taken s.time s.at_ s.done s.why, .int .i64 most] W (TraceOut W most s) := by
  have H := Lib.hid (And.intro i0 (And.intro i1 i3))
  have HO := Lib.hid hok
  clear i0 i1 i3 hok
  have S0 := StAt.new W (.slice A0 s.store.length n0) (.slice A1 s.tape.length n1) (.slice A3 s.printed.length n3) s.taken s.time s.at_ s.done s.why 24
  have hb0 := alloc_below W (.cells #[.slice A0 s.store.length n0, .slice A1 s.tape.length n1, .int .i64 s.taken, .slice A3 s.printed.length n3, .int .i64 s.time, .int .i64 s.at_, .int .i64 s.done, .int .i64 s.why] 24)
  have hs0 : W.heap.size < (W.alloc (.cells #[.slice A0 s.store.length n0, .slice A1 s.tape.length n1, .int .i64 s.taken, .slice A3 s.printed.length n3, .int .i64 s.time, .int .i64 s.at_, .int .i64 s.done, .int .i64 s.why] 24)).heap.size := by simp
  go_enter Try.func37, Try.ntmps37
  go_wp2_with fail
  generalize W.alloc (.cells #[.slice A0 s.store.length n0, .slice A1 s.tape.length n1, .int .i64 s.taken, .slice A3 s.printed.length n3, .int .i64 s.time, .int .i64 s.at_, .int .i64 s.done, .int .i64 s.why] 24) = V0 at *
  refine (KE.out V0 (ints_at H.out.1 hb0) (ints_at H.out.2.1 hb0) (ints_at H.out.2.2 hb0)).mono ?_; rintro e V1 ⟨rfl, hb1⟩
  have S1 := S0.below hb1 hs0
  have hb01 := hb0.trans (below_lower (Nat.le_of_lt hs0) hb1)
  have hs1 := Nat.lt_of_lt_of_le hs0 hb1.size
  obtain ⟨q0, q1, q2, q3, q4, q5, q6, q7⟩ := S1
  clear S0 hb0 hb1 hs0 KE
  go_wp2_with fail
  refine (atWork_ok s HO.out A0 A1 A3 n0 n1 n3 V1 (ints_at H.out.1 hb01) (ints_at H.out.2.1 hb01) (ints_at H.out.2.2 hb01)).mono ?_; rintro e V2 ⟨b, g0, D1, D3, c0, c1, c3, rfl, hM2, hb2⟩
  have hb02 := hb01.trans (below_lower hb01.size hb2)
  have hb12 := hb2.size
  have hlb := hM2.lt
  have hbB := hM2.bB
  clear hb2 q0 q1 q2 q3 q4 q5 q6 q7
  go_wp2_with fail
  refine (steps_any b most V2).mono ?_; rintro e V3 ⟨rfl, hV3⟩
  have hb3 : Below V2.heap.size V2 V3 := by rw [hV3]; go_grown
  have hs3 : V3.heap.size = V2.heap.size + 2 := by rw [hV3]; simp
  have hcM : V3.cell? ⟨V2.heap.size, 0, none⟩ = some (.pointer (some ⟨b, 0, none⟩)) := by rw [hV3]; simp [go_sem]
  have hcT : V3.cell? ⟨V2.heap.size + 1, 0, none⟩ = some (.int .i64 most) := by rw [hV3]; simp [go_sem]
  have nM : ¬ MB b g0 D1 D3 V2.heap.size := fun e => by have := (hM2.blocks e).2; omega
  have KC := Lib.hid (collect_ok s HO.out most hmost (V1.heap.size + 1) b g0 V2.heap.size (V2.heap.size + 1) D1 D3 c0 c1 c3 V3 (by omega) (hM2.below hb3) hcM hcT nM (by omega) (by omega))
  have HB3 := Lib.hid (hb02.trans (below_lower hb02.size hb3))
  clear hV3 hcM hcT nM hM2 hb3 hb02
  go_wp2_with fail
  refine KC.out.mono ?_; rintro e V4 ⟨v, xs, rfl, h1, h2, h3⟩
  have HF := Lib.hid (And.intro h1 (And.intro (own_mono h2 (show W.heap.size ≤ V3.heap.size + 1 by omega)) (HB3.out.trans (below_lower (by omega) h3))))
  clear h1 h2 h3 KC
  go_wp2
  go_ret2
  exact ⟨v, xs, rfl, HF.out⟩
end Go.Proofs.Ytmkcijecncdhpaa
