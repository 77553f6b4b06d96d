/-
  WHAT moments YIELDS. No statement is proved here.
-/
import Derived.Test.YtplipfcnjmgicaaHt5
import Derived.Test.YtplipfcnjmgicaaSafe1
import Derived.Shelf.Abstract
import Derived.Shelf.RegionOpen
import Derived.OwnWalkIn
import Derived.TacticsInMore
import Derived.LoopNIn
import Derived.LoopIn
namespace Go.Proofs.Ytplipfcnjmgicaa
open Go.RowKit Go.Shelf
set_option linter.unusedVariables false
set_option linter.unusedSimpArgs false
attribute [local go_sem] Oper.semAt_some

theorem HeatAt.reset {base sB fB mB : Nat} {p : Pq} {v : Value} {U : World} (h : HeatAt base sB fB mB p v U) : HeatAt U.heap.size sB fB mB ⟨p.all, []⟩ (.slice none 0 0) (U.setCell ⟨fB, 0, none⟩ (.slice none 0 0)) := by
  have l1 := h.h1
  have l2 := h.h2
  have l3 := h.h3
  have l4 := h.h4
  refine ⟨?_, h.seen.keep (Below.heap_setCell _ _ _ _ h.n2), World.cell?_setCell_same _ _ _ h.fc, ?_, World.ownsRow_nil _ _ _ _, by omega, by omega, by omega, by simp [World.setCell], h.n1, h.n2, h.n3⟩
  · rw [World.cell?_setCell_far _ _ _ _ (fun e => h.n1 e.symm)]; exact h.sc
  · rw [World.frozen?_setCell]; exact h.ff
/-- The captured variables of the iterator. -/
structure CapAt (Bo Bt Bh Bm : Nat) (o : Ov) (tl th : Int) (h : Bool) (mi : Int) (U : World) : Prop where
  ov : OvenAt Bo o U
  t0 : U.cell? ⟨Bt, 0, none⟩ = some (.int .i64 tl)
  t1 : U.cell? ⟨Bt, 1, none⟩ = some (.int .i64 th)
  hc : U.cell? ⟨Bh, 0, none⟩ = some (.bool h)
  mc : U.cell? ⟨Bm, 0, none⟩ = some (.int .i64 mi)
theorem CapAt.keep {Bo Bt Bh Bm : Nat} {o : Ov} {tl th mi : Int} {h : Bool} {U V : World} (c : CapAt Bo Bt Bh Bm o tl th h mi U) (hk : ∀ k, k = Bo ∨ k = Bt ∨ k = Bh ∨ k = Bm → V.heap[k]? = U.heap[k]?) : CapAt Bo Bt Bh Bm o tl th h mi V :=
  ⟨c.ov.keep (hk _ (.inl rfl)), (World.cell?_of_block (a := ⟨Bt, 0, none⟩) (hk _ (.inr (.inl rfl)))).trans c.t0, (World.cell?_of_block (a := ⟨Bt, 1, none⟩) (hk _ (.inr (.inl rfl)))).trans c.t1,
    (World.cell?_of_block (a := ⟨Bh, 0, none⟩) (hk _ (.inr (.inr (.inl rfl))))).trans c.hc, (World.cell?_of_block (a := ⟨Bm, 0, none⟩) (hk _ (.inr (.inr (.inr rfl))))).trans c.mc⟩
theorem CapAt.lt {Bo Bt Bh Bm : Nat} {o : Ov} {tl th mi : Int} {h : Bool} {U : World} (c : CapAt Bo Bt Bh Bm o tl th h mi U) : Bo < U.heap.size ∧ Bt < U.heap.size ∧ Bh < U.heap.size ∧ Bm < U.heap.size :=
  ⟨c.ov.lt, World.block_lt_of_cell? U _ c.t0, World.block_lt_of_cell? U _ c.hc, World.block_lt_of_cell? U _ c.mc⟩
def MomOut (o : Ov) (tl th : Int) (h : Bool) (mi : Nat) (J Jx : List (Int × Mo) → World → Prop) (V : World) : Prop :=
  (∃ xs, xs = Pq.upto o tl th h (mi + 1) ∧ J xs V) ∨ ∃ pre, pre <+: Pq.upto o tl th h (mi + 1) ∧ Jx pre V
abbrev yieldV (x : Int × Mo) : Array Value := #[.int .i64 x.1, .agg #[.int .i64 x.2.1, .bool x.2.2]]

/-- What holds within a minute; the row of the moments that are gone through lies in block g. -/
structure MinAt (N base Bo Bt Bh Bm : Nat) (o : Ov) (tl th : Int) (h : Bool) (mi : Int) (g : Nat) (G : Option Obj) (p : Pq) (v : Value) (U : World) : Prop where
  heat : HeatAt base (N + 1 + 1) (N + 1 + 1 + 1) (N + 1) p v U
  cap : CapAt Bo Bt Bh Bm o tl th h mi U
  ov : OvenAt N o U
  gk : U.heap[g]? = G
  gl : g < base
  gN : N + 1 + 1 + 1 + 1 ≤ g
  cN : Bo < N ∧ Bt < N ∧ Bh < N ∧ Bm < N
section
variable {N base Bo Bt Bh Bm : Nat} {o : Ov} {tl th mi : Int} {h : Bool} {g : Nat} {G : Option Obj} {p : Pq} {v : Value} {U V : World}
theorem MinAt.sz (m : MinAt N base Bo Bt Bh Bm o tl th h mi g G p v U) : N + 1 + 1 + 1 + 1 ≤ base ∧ base ≤ U.heap.size ∧ N ≤ U.heap.size := by
  have := m.gl
  have := m.gN
  have := m.heat.h4
  omega
theorem MinAt.under (m : MinAt N base Bo Bt Bh Bm o tl th h mi g G p v U) (hb : Below U.heap.size U V) : MinAt N base Bo Bt Bh Bm o tl th h mi g G p v V :=
  have s := m.sz
  have gl := m.gl
  have cN := m.cN
  ⟨m.heat.below hb, m.cap.keep fun k hk => hb.block k (by omega), m.ov.keep (hb.block _ (by omega)), (hb.block _ (by omega)).trans m.gk, gl, m.gN, cN⟩
theorem MinAt.yield {lo hi l : Nat} (m : MinAt N base Bo Bt Bh Bm o tl th h mi g G p v U) (ha : AroundL lo hi l U V) (hl : l < N) (hhi : hi ≤ N) (hout : ∀ k, k = Bo ∨ k = Bt ∨ k = Bh ∨ k = Bm → k ≠ l ∧ (k < lo ∨ hi ≤ k)) : MinAt N base Bo Bt Bh Bm o tl th h mi g G p v V :=
  have s := m.sz
  have gl := m.gl
  have gN := m.gN
  have cN := m.cN
  ⟨m.heat.keep ha.size fun k hk hc => ha.block k hk (by omega) (.inr (by omega)), m.cap.keep fun k hk => ha.block k (by omega) (hout k hk).1 (hout k hk).2, m.ov.keep (ha.block _ (by omega) (by omega) (.inr (by omega))), (ha.block _ (by omega) (by omega) (.inr (by omega))).trans m.gk, gl, gN, cN⟩
theorem MinAt.touch {p' : Pq} {v' : Value} (m : MinAt N base Bo Bt Bh Bm o tl th h mi g G p v U) (hH : HeatAt base (N + 1 + 1) (N + 1 + 1 + 1) (N + 1) p' v' V) (ht : Touch base (N + 1 + 1 + 1) (N + 1) U V) : MinAt N base Bo Bt Bh Bm o tl th h mi g G p' v' V :=
  have s := m.sz
  have gl := m.gl
  have gN := m.gN
  have cN := m.cN
  ⟨hH, m.cap.keep fun k hk => ht.block k (by omega) (by omega) (by omega), m.ov.keep (ht.block _ (by omega) (by omega) (by omega)), (ht.block _ gl (by omega) (by omega)).trans m.gk, gl, gN, cN⟩
end
theorem below_three {N base : Nat} {A B : World} (h : N + 1 + 1 + 1 + 1 ≤ base) (t : Touch base (N + 1 + 1 + 1) (N + 1) A B) : Below N A B := t.below (by omega) (by omega) (by omega)
theorem ne_of_two {a n l lo hi : Nat} (h : n ≤ a) (hl : l < n) (hhi : hi ≤ n) : a ≠ l ∧ (a < lo ∨ hi ≤ a) := ⟨by omega, .inr (by omega)⟩
theorem minutes_less {a mi : Nat} (h : a ≤ mi) (hm : mi ≤ 200) : wrap64 ((a : Int) + 1) = (a : Int) + 1 ∧ Value.int .i64 (wrap64 ((a : Int) + 1)) = .int .i64 ((a + 1 : Nat) : Int) ∧ ((mi : Int) + 1 - intOf (.int .i64 ((a : Int) + 1))).toNat < ((mi : Int) + 1 - intOf (.int .i64 (a : Int))).toNat := by
  have e : wrap64 ((a : Int) + 1) = (a : Int) + 1 := wrap_in (by omega) (by omega)
  refine ⟨e, by rw [e]; rfl, ?_⟩
  simp [intOf]
  omega
theorem part_less {i n : Nat} (h : i < n) (hm : n ≤ 3402) : Value.int .i64 (wrap64 ((i : Int) + 1)) = .int .i64 ((i + 1 : Nat) : Int) ∧ n - (intOf (.int .i64 (wrap64 ((i : Int) + 1)))).toNat < n - (intOf (.int .i64 (i : Int))).toNat := by
  have e : wrap64 ((i : Int) + 1) = (i : Int) + 1 := wrap_in (by omega) (by omega)
  refine ⟨by rw [e]; rfl, ?_⟩
  rw [e]
  simp [intOf]
  omega
set_option maxRecDepth 100000 in
set_option maxHeartbeats 1000000 in
theorem moments_in (o : Ov) (ok : o.Ok) (tl th : Int) (h : Bool) (b1 : -500 ≤ tl) (b2 : th ≤ 1000) (hs : tl ≤ th) (mi : Nat) (hmi : mi ≤ 200) (n : Nat) (hn : 1 ≤ n) (l lo hi Bo Bt Bh Bm : Nat) (J Jx : List (Int × Mo) → World → Prop) (W : World)
    (hJ : Hid (∀ s A B, J s A → Below W.heap.size A B → J s B)) (hJx : Hid (∀ s A B, Jx s A → Below W.heap.size A B → Jx s B))
    (hY : Hid (∀ pre x V, J pre V → YieldAt Fence.wide (n - 1) Try.prog l (yieldV x) V fun e V' =>
      (e = .returned (.bool true) ∧ J (pre ++ [x]) V' ∧ AroundL lo hi l V V') ∨ (e = .returned (.bool false) ∧ Jx (pre ++ [x]) V' ∧ AroundL lo hi l V V')))
    (hC : CapAt Bo Bt Bh Bm o tl th h mi W) (hout : Hid (∀ k, k = Bo ∨ k = Bt ∨ k = Bh ∨ k = Bm → k ≠ l ∧ (k < lo ∨ hi ≤ k))) (hl : l < W.heap.size) (hhi : hi ≤ W.heap.size) (h0 : J [] W) :
    CallsIn Fence.wide n Try.prog 91 #[.func (.yield l) #[] #[], .pointer (some ⟨Bo, 0, none⟩), .pointer (some ⟨Bt, 0, none⟩), .pointer (some ⟨Bh, 0, none⟩), .pointer (some ⟨Bm, 0, none⟩)] W fun e V =>
      (∃ v, e = .returned v) ∧ MomOut o tl th h mi J Jx V := by
  have hmm := @run_makeMap Try.prog
  have hlt := hC.lt
  have ⟨⟨o0, o1, o2, o3, o4, o5⟩, t0, t1, hc, mc⟩ := hC
  refine callsIn_of_wp Try.func91 rfl trivial ?_ rfl
  simp only [Try.ntmps91, List.size_toArray, List.length_cons, List.length_nil, Nat.reduceAdd, Nat.reduceSub, Array.replicate_succ, Array.replicate_zero, List.push_toArray, List.append_toArray, List.nil_append, List.cons_append]
  gi_wp2_with fail
  refine ⟨trivial, ?_⟩
  refine (callsIn_wide.2 (minuteOf_any o _)).mono ?_; rintro e U ⟨rfl, hU⟩
  have hUb : Below W.heap.size W U := by rw [hU]; exact (Below.refl _ _).alloc (Nat.le_refl _) _
  have hUs : U.heap.size = W.heap.size + 1 := by rw [hU]; simp
  have hUo : OvenAt W.heap.size o U := by rw [hU]; exact OvenAt.new o W _
  have hCU : CapAt Bo Bt Bh Bm o tl th h mi U := hC.keep fun k hk => hUb.block k (by omega)
  clear hU o0 o1 o2 o3 o4 o5 t0 t1 hc mc
  have hCU4 : CapAt Bo Bt Bh Bm o tl th h mi (((U.alloc (.map #[] 0)).alloc (.cells #[.map (some (W.heap.size + 1))] 124)).alloc (.cells #[.slice none 0 0] 125)) :=
    hCU.keep fun k hk => by
      have := ((((Below.refl U.heap.size U).alloc (Nat.le_refl _) (.map #[] 0)).alloc (by simp) (.cells #[.map (some (W.heap.size + 1))] 124)).alloc (by simp; omega) (.cells #[.slice none 0 0] 125)).block k (by omega)
      exact this
  have ⟨⟨o0, o1, o2, o3, o4, o5⟩, t0, t1, hc, mc⟩ := hCU4
  have hXb : Below U.heap.size U (((U.alloc (.map #[] 0)).alloc (.cells #[.map (some (W.heap.size + 1))] 124)).alloc (.cells #[.slice none 0 0] 125)) :=
    (((Below.refl U.heap.size U).alloc (Nat.le_refl _) _).alloc (by simp) _).alloc (by simp; omega) _
  have hX : HeatAt (W.heap.size + 1 + 1 + 1 + 1) (W.heap.size + 1 + 1) (W.heap.size + 1 + 1 + 1) (W.heap.size + 1) ⟨[], []⟩ (.slice none 0 0) (((U.alloc (.map #[] 0)).alloc (.cells #[.map (some (W.heap.size + 1))] 124)).alloc (.cells #[.slice none 0 0] 125)) := by
    refine ⟨?_, ?_, ?_, ?_, World.ownsRow_nil _ _ _ _, by omega, by omega, by omega, by simp; omega, by omega, by omega, by omega⟩
    · rw [← hUs]; simp [go_sem]
    · have e : (((U.alloc (.map #[] 0)).alloc (.cells #[.map (some (W.heap.size + 1))] 124)).alloc (.cells #[.slice none 0 0] 125)).heap[W.heap.size + 1]? = (U.alloc (.map #[] 0)).heap[W.heap.size + 1]? :=
        (Below.heap_alloc _ _ _ (by simp; omega)).trans (Below.heap_alloc _ _ _ (by simp; omega))
      refine SeenIn.keep ?_ e
      have := SeenIn.new moV U
      rw [hUs] at this
      exact this
    · rw [← hUs]; simp [go_sem]
    · rw [← hUs]; simp [go_sem]
  have KR := Lib.hid (reach_any (W.heap.size + 1 + 1 + 1 + 1) (W.heap.size + 1 + 1) (W.heap.size + 1 + 1 + 1) (W.heap.size + 1) ⟨[], []⟩ ⟨by simp, by simp, by simp⟩ tl th h (by omega) (by omega) (by omega) _ _ hX)
  have hXs : (((U.alloc (.map #[] 0)).alloc (.cells #[.map (some (W.heap.size + 1))] 124)).alloc (.cells #[.slice none 0 0] 125)).heap.size = W.heap.size + 4 := by simp; omega
  gi_wp2_with fail
  refine ⟨trivial, ?_⟩
  refine (callsIn_wide.2 KR.out).mono ?_; rintro e V ⟨rfl, ⟨v0, hH⟩, hT⟩
  have hWV : Below W.heap.size W V := hUb.trans ((hXb.mono (by omega)).trans (hT.below (by omega) (by omega) (by omega)))
  have hC1 : CapAt Bo Bt Bh Bm o tl th h mi V := hC.keep fun k hk => hWV.block k (by omega)
  have hO1 : OvenAt W.heap.size o V := (hUo.keep (hXb.block _ (by omega))).keep (hT.block _ (by omega) (by omega) (by omega))
  have hJ1 : J [] V := hJ.out _ _ _ h0 hWV
  clear KR hX hXb hCU4 o0 o1 o2 o3 o4 o5 t0 t1 hc mc hCU hUb hUo hC h0 hT hXs hUs U
  gi_wp2_with fail
  gi_loopw [10] (fun i wr => ∃ (a base : Nat) (v : Value), a ≤ mi + 1 ∧ i = .int .i64 a ∧ J (Pq.upto o tl th h a) wr ∧ HeatAt base (W.heap.size + 1 + 1) (W.heap.size + 1 + 1 + 1) (W.heap.size + 1) (Pq.level o tl th h a) v wr ∧ CapAt Bo Bt Bh Bm o tl th h mi wr ∧ OvenAt W.heap.size o wr ∧ W.heap.size + 1 + 1 + 1 + 1 ≤ base) (fun i _ => (mi + 1 - intOf i).toNat)
  case atStart => exact ⟨0, _, v0, by omega, rfl, hJ1, hH, hC1, hO1, Nat.le_refl _⟩
  case round =>
    clear hH hC1 hO1 hWV hJ1
    obtain ⟨a, base, v, ha, rfl, hJa, hHa, hCa, hOa, hb0⟩ := hrel
    obtain ⟨wo, hwo⟩ : ∃ wo, wo = wr := ⟨_, rfl⟩
    subst hwo
    have hmc := hCa.mc
    have hfc := hHa.fc
    have hfine : (Pq.level o tl th h a).Fine := Pq.level_fine ok b1 b2 hs a
    have hlen := hfine.fr_length
    by_cases ham : a = mi + 1
    · subst ham
      have d1 : decide (((mi + 1 : Nat) : Int) ≤ (mi : Int)) = false := by simp; omega
      gi_wp2
      go_end0
      exact ⟨⟨_, rfl⟩, .inl ⟨_, rfl, hJa⟩⟩
    · have d1 : decide ((a : Int) ≤ (mi : Int)) = true := by simp; omega
      by_cases hfe : (Pq.level o tl th h a).fr = []
      · have hup : Pq.upto o tl th h (mi + 1) = Pq.upto o tl th h a := by
          have := Pq.upto_empty hfe (mi + 1 - a)
          rwa [show a + (mi + 1 - a) = mi + 1 by omega] at this
        have hl0 : (Pq.level o tl th h a).fr.length = 0 := by rw [hfe]; rfl
        have hrow := hHa.row
        rw [hl0] at hrow
        have HUP := Lib.hid hup
        clear hup hlen
        rcases hrow.2 with ⟨rfl, _⟩ | ⟨g, cap, cur, rfl, _⟩
        · gi_wp2
          go_end0
          exact ⟨⟨_, rfl⟩, .inl ⟨_, rfl, by rw [HUP.out]; exact hJa⟩⟩
        · gi_wp2
          go_end0
          exact ⟨⟨_, rfl⟩, .inl ⟨_, rfl, by rw [HUP.out]; exact hJa⟩⟩
      · have hpos : 0 < (Pq.level o tl th h a).fr.length := List.length_pos_iff.2 hfe
        have hR := hHa.reset
        have hsz := hHa.h4
        have A1 : Hid (a + 1 ≤ mi + 1) := Lib.hid (by omega)
        have A2 : Hid (W.heap.size + 1 + 1 + 1 + 1 ≤ wo.heap.size) := Lib.hid (by omega)
        have hle : a ≤ mi := by omega
        have A3 := Lib.hid (minutes_less hle hmi)
        have HLEN := Lib.hid hlen
        clear hle
        obtain ⟨g, cap, cur, rfl, hbg, hg, hcap, _, _, htake⟩ : ∃ g cap cur, v = .slice (some ⟨g, 0, none⟩) (Pq.level o tl th h a).fr.length cap ∧ base ≤ g ∧ wo.heap[g]? = some (.cells cur 107 (0, 0)) ∧ (Pq.level o tl th h a).fr.length ≤ cap ∧ cap ≤ maxLen ∧ cur.size = cap * 2 ∧ cur.toList.take ((Pq.level o tl th h a).fr.length * 2) = moC (Pq.level o tl th h a).fr := by
          rcases hHa.row.2 with ⟨_, e⟩ | ⟨g, cap, cur, r⟩
          · omega
          · exact ⟨g, cap, cur, r⟩
        have hgl : g < wo.heap.size := (Array.getElem?_eq_some_iff.1 hg).1
        have hcells : Hid (∀ i (hi : i < (Pq.level o tl th h a).fr.length), ∀ U : World, U.heap[g]? = wo.heap[g]? → U.cell? ⟨g, i * 2, none⟩ = some (.int .i64 (Pq.level o tl th h a).fr[i].1) ∧ U.cell? ⟨g, i * 2 + 1, none⟩ = some (.bool (Pq.level o tl th h a).fr[i].2)) := Lib.hid (fun i hi U hU => by
          obtain ⟨e0, e1⟩ := moC_get _ i hi
          rw [World.cell?_of_block (a := ⟨g, i * 2, none⟩) hU, World.cell?_of_block (a := ⟨g, i * 2 + 1, none⟩) hU]
          have r0 := hHa.row.cellAt (i * 2) (by omega)
          have r1 := hHa.row.cellAt (i * 2 + 1) (by omega)
          exact ⟨r0.trans e0, r1.trans e1⟩)
        have hnext : Hid (Pq.level o tl th h (a + 1) = (Pq.mk (Pq.level o tl th h a).all []).minute o (Pq.level o tl th h a).fr) := Lib.hid rfl
        have hupn : Hid (Pq.upto o tl th h (a + 1) = Pq.upto o tl th h a ++ (Pq.level o tl th h a).fr.map fun m => ((a : Int), m)) := Lib.hid (Pq.upto_succ a)
        have hpart : Hid (∀ i, Pq.upto o tl th h a ++ ((Pq.level o tl th h a).fr.take i).map (fun m => ((a : Int), m)) <+: Pq.upto o tl th h (mi + 1)) := Lib.hid fun i => Pq.upto_part (by omega) i
        have hboxr : Hid (∀ x ∈ (Pq.level o tl th h a).fr, -600 ≤ x.1 ∧ x.1 ≤ 1100) := Lib.hid fun x hx => Ov.at_in ok b1 b2 (((Pq.level_mem ok hs a x).2).1 hx).1
        have hrf : Hid (Pq.Fine ⟨(Pq.level o tl th h a).all, []⟩) := Lib.hid hfine.reset
        have hYe : ∀ k, k ≠ W.heap.size + 1 + 1 + 1 → (wo.setCell ⟨W.heap.size + 1 + 1 + 1, 0, none⟩ (.slice none 0 0)).heap[k]? = wo.heap[k]? := fun k hk => Below.heap_setCell _ _ _ _ hk
        have hYC : CapAt Bo Bt Bh Bm o tl th h mi (wo.setCell ⟨W.heap.size + 1 + 1 + 1, 0, none⟩ (.slice none 0 0)) := hCa.keep fun k hk => hYe k (by omega)
        have hYO : OvenAt W.heap.size o (wo.setCell ⟨W.heap.size + 1 + 1 + 1, 0, none⟩ (.slice none 0 0)) := hOa.keep (hYe _ (by omega))
        have hYJ : J (Pq.upto o tl th h a) (wo.setCell ⟨W.heap.size + 1 + 1 + 1, 0, none⟩ (.slice none 0 0)) := hJ.out _ _ _ hJa ((Below.refl _ _).setCell (by show W.heap.size ≤ W.heap.size + 1 + 1 + 1; omega) _)
        have hYg : (wo.setCell ⟨W.heap.size + 1 + 1 + 1, 0, none⟩ (.slice none 0 0)).heap[g]? = wo.heap[g]? := hYe _ (by omega)
        have hff := hHa.ff
        have hdp : decide (0 < ((Pq.level o tl th h a).fr.length : Int)) = true := by simp; omega
        have HM0 : Hid (MinAt W.heap.size wo.heap.size Bo Bt Bh Bm o tl th h mi g (wo.heap[g]?) ⟨(Pq.level o tl th h a).all, []⟩ (.slice none 0 0) (wo.setCell ⟨W.heap.size + 1 + 1 + 1, 0, none⟩ (.slice none 0 0))) := Lib.hid ⟨hR, hYC, hYO, hYg, hgl, by omega, hlt⟩
        have HJ := Lib.hid hYJ
        generalize (Pq.level o tl th h a).fr = fr at *
        generalize (Pq.level o tl th h a).all = al at *
        clear hHa hCa hOa hJa hYC hYO hR hYJ hYg hYe htake hfe hlen hfine hg
        gi_wp2_with fail
        gi_loopw [35] (fun j wq => ∃ (i : Nat) (vi : Value), i ≤ fr.length ∧ j = .int .i64 i ∧ J (Pq.upto o tl th h a ++ (fr.take i).map (fun m => ((a : Int), m))) wq ∧ MinAt W.heap.size wo.heap.size Bo Bt Bh Bm o tl th h mi g (wo.heap[g]?) ((Pq.mk al []).minute o (fr.take i)) vi wq) (fun j _ => (fr.length - (intOf j).toNat))
        case atStart => exact ⟨0, _, Nat.zero_le _, rfl, by simpa using HJ.out, HM0.out⟩
        case round =>
          obtain ⟨i, vi, hile, rfl, hJi, hMi⟩ := hrel
          by_cases hlt3 : i < fr.length
          · obtain ⟨⟨t, hh⟩, hm⟩ : ∃ m : Mo, m = fr[i] := ⟨_, rfl⟩
            obtain ⟨e0, e1⟩ := hcells.out i hlt3 wr hMi.gk
            rw [← hm] at e0 e1
            have hbx := hboxr.out _ (List.getElem_mem hlt3)
            rw [← hm] at hbx
            have htk : fr.take (i + 1) = fr.take i ++ [(t, hh)] := by rw [List.take_succ_eq_append_getElem hlt3, hm]
            have hpre : Hid (Pq.upto o tl th h a ++ (fr.take i).map (fun m => ((a : Int), m)) ++ [((a : Int), (t, hh))] = Pq.upto o tl th h a ++ (fr.take (i + 1)).map (fun m => ((a : Int), m))) := Lib.hid (by rw [htk]; simp)
            have hst : Hid ((Pq.mk al []).minute o (fr.take (i + 1)) = ((Pq.mk al []).minute o (fr.take i)).step o (t, hh)) := Lib.hid (by rw [htk]; exact Pq.minute_snoc _ _ _ _)
            have hfi : Hid ((Pq.mk al []).minute o (fr.take i)).Fine := Lib.hid (Pq.Fine.minute ok _ hrf.out fun x hx => hboxr.out x (List.mem_of_mem_take hx))
            have A5 := Lib.hid (part_less hlt3 HLEN.out)
            clear hm htk
            have hab := (Below.refl wr.heap.size wr).alloc (Nat.le_refl _) (.cells #[.int .i64 t, .bool hh] 107)
            have hMz := hMi.under hab
            have hJz := hJ.out _ _ _ hJi (hab.mono hMi.sz.2.2)
            obtain ⟨fn, tmps, assign, body, hy, hRr⟩ := hY.out _ ((a : Int), (t, hh)) _ hJz
            have HMZ := Lib.hid hMz
            have hnw : wr.heap.size < (wr.alloc (.cells #[.int .i64 t, .bool hh] 107)).heap.size := by simp
            have m0 : (wr.alloc (.cells #[.int .i64 t, .bool hh] 107)).cell? ⟨wr.heap.size, 0, none⟩ = some (.int .i64 t) := by simp [go_sem]
            have m1 : (wr.alloc (.cells #[.int .i64 t, .bool hh] 107)).cell? ⟨wr.heap.size, 1, none⟩ = some (.bool hh) := by simp [go_sem]
            have HNW := Lib.hid (show wr.heap.size ≠ l ∧ (wr.heap.size < lo ∨ hi ≤ wr.heap.size) from ne_of_two hMi.sz.2.2 hl hhi)
            clear hMi hMz hJi hJz
            gi_wp2_with fail
            refine hRr.mono ?_
            rintro e V3 (⟨rfl, hJv, har⟩ | ⟨rfl, hJxv, har⟩)
            · have hM3 := HMZ.out.yield har hl hhi hout.out
              rw [hpre.out] at hJv
              have c0 : V3.cell? ⟨wr.heap.size, 0, none⟩ = some (.int .i64 t) := (har.cell (p := ⟨wr.heap.size, 0, none⟩) hnw HNW.out.1 HNW.out.2).trans m0
              have c1 : V3.cell? ⟨wr.heap.size, 1, none⟩ = some (.bool hh) := (har.cell (p := ⟨wr.heap.size, 1, none⟩) hnw HNW.out.1 HNW.out.2).trans m1
              have KM := Lib.hid (minute_any o ok t hh hbx W.heap.size V3 hM3.ov)
              have HM3 := Lib.hid hM3
              have HJ3 := Lib.hid hJv
              clear hM3 hJv har m0 m1 hnw hRr hy e0 e1
              gi_wp2_with fail
              refine ⟨trivial, ?_⟩
              refine (callsIn_wide.2 KM.out).mono ?_; rintro e V4 ⟨rfl, hb4⟩
              have hM4 := HM3.out.under hb4
              have hbox := Ov.in_box (p := (t, hh)) ok hbx
              have KR := Lib.hid (reach_any wo.heap.size (W.heap.size + 1 + 1) (W.heap.size + 1 + 1 + 1) (W.heap.size + 1) _ hfi.out (o.lo (t, hh)) (o.hi (t, hh)) (o.heats (t, hh)) hbox.1 hbox.2 (Int.le_trans (Ov.lo_hi ok (t, hh)) (Int.le_add_one (Int.le_refl _))) V4 _ hM4.heat)
              have HM4 := Lib.hid hM4
              have HB4 := Lib.hid hb4
              clear hM4 hb4 hbox c0 c1
              gi_wp2_with fail
              refine ⟨trivial, ?_⟩
              refine (callsIn_wide.2 KR.out).mono ?_; rintro e V5 ⟨rfl, ⟨v5, hH5⟩, hT5⟩
              have hM5 := HM4.out.touch hH5 hT5
              have hb5 : Below W.heap.size V3 V5 := (HB4.out.mono HM3.out.sz.2.2).trans (below_three HM3.out.sz.1 hT5)
              have hJ5 := hJ.out _ _ _ HJ3.out hb5
              have HM5 : Hid (MinAt W.heap.size wo.heap.size Bo Bt Bh Bm o tl th h mi g (wo.heap[g]?) ((Pq.mk al []).minute o (fr.take (i + 1))) v5 V5) := by
                rw [hst.out]
                exact hM5
              have HJ5 := Lib.hid hJ5
              clear hM5 hJ5 hH5 hT5 hb5
              gi_wp2
              go_roundw
              case rel => exact ⟨i + 1, v5, hlt3, A5.out.1, HJ5.out, HM5.out⟩
              case measure => exact A5.out.2
            · rw [hpre.out] at hJxv
              have HX3 := Lib.hid hJxv
              clear hJxv har m0 m1 hnw hRr hy e0 e1
              gi_wp2
              refine bodyPost_ret (results_none rfl _ _ _) rfl ?_
              exact ⟨⟨_, rfl⟩, .inr ⟨_, hpart.out (i + 1), HX3.out⟩⟩
          · obtain rfl : i = fr.length := Nat.le_antisymm hile (Nat.not_lt.1 hlt3)
            have ht : fr.take fr.length = fr := List.take_length
            rw [ht] at hJi hMi
            rw [← hupn.out] at hJi
            rw [← hnext.out] at hMi
            have HJ2 := Lib.hid hJi
            have HH2 := Lib.hid hMi
            clear hJi hMi
            gi_wp2
            go_roundw
            case rel => exact ⟨a + 1, _, _, A1.out, rfl, HJ2.out, HH2.out.heat, HH2.out.cap, HH2.out.ov, A2.out⟩
            case measure => exact A3.out.2.2
end Go.Proofs.Ytplipfcnjmgicaa
