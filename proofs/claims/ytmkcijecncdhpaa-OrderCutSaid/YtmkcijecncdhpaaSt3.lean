/-
  WHAT ORDER COMES, AND WHETHER THE RUN ENDS. No statement is proved here.
-/
import Derived.Test.YtmkcijecncdhpaaSt2
import Derived.Deep.DeepCutAuto
namespace Go.Proofs.Ytmkcijecncdhpaa
open Go.RowKit
set_option linter.unusedVariables false
set_option linter.unusedSimpArgs false

def stepV (s : MS) : Value := .agg #[.int .i64 s.at_, .int .i64 s.op, .int .i64 s.frm, .int .i64 s.to, .int .i64 s.nxt, .int .i64 s.time, .int .i64 s.until_]
section
variable {B : Nat} {b g0 : Nat} {A1 A3 : Option Addr} {c0 c1 c3 : Nat} {s : MS}
def endsV (why op taken nt np u : Int) : Int :=
  if why ≠ 0 then why else if op = 0 then 1 else if op = 6 ∧ taken = nt then 2 else if op = 7 ∧ np = 200 then 3 else if 1000000000 < u then 4 else 0
theorem ends_eq (s : MS) : s.ends = endsV s.why s.op s.taken s.tape.length s.printed.length s.until_ := by
  unfold MS.ends endsV
  have e : (s.op = 7 ∧ s.printed.length = 200) ↔ (s.op = 7 ∧ (s.printed.length : Int) = 200) := by omega
  simp only [e]
set_option maxRecDepth 100000 in
set_option maxHeartbeats 4000000 in
theorem ends_v (a op f t n tm u : Int) (W : World) (h : MachAt B W b g0 A1 A3 c0 c1 c3 s) :
    Calls Try.prog 67 #[.pointer (some ⟨b, 0, none⟩), .agg #[.int .i64 a, .int .i64 op, .int .i64 f, .int .i64 t, .int .i64 n, .int .i64 tm, .int .i64 u]] W fun e W' => e = .returned (.int .i64 (endsV s.why op s.taken s.tape.length s.printed.length u)) ∧ Below W.heap.size W W' := by
  obtain ⟨q0, q1, q2, q3, q4, q5, q6, q7⟩ := h.st
  have hbl := h.lt
  clear h
  generalize s.why = why at *
  generalize s.taken = tk at *
  generalize s.tape.length = nt at *
  generalize s.printed.length = np at *
  by_cases h1 : why = 0
  · subst h1
    by_cases h2 : op = 0
    · subst h2
      have he : endsV 0 0 tk nt np u = 1 := by unfold endsV; simp
      rw [he]
      go_enter Try.func67, Try.ntmps67
      go_wp2
      go_ret
      exact ⟨rfl, by go_grown⟩
    · by_cases h3 : op = 6
      · subst h3
        by_cases h4 : tk = nt
        · subst h4
          have he : endsV 0 6 (nt : Int) nt np u = 2 := by unfold endsV; simp
          rw [he]
          go_enter Try.func67, Try.ntmps67
          go_wp2_with fail
          go_quiet (fail)
          go_wp2
          go_ret
          exact ⟨rfl, below_drewN (by go_grown)⟩
        · have he : endsV 0 6 tk nt np u = if 1000000000 < u then 4 else 0 := by unfold endsV; simp [h4]
          have q : (tk == (nt : Int)) = false := by simpa using h4
          rw [he]
          by_cases h5 : 1000000000 < u
          · rw [if_pos h5]
            go_enter Try.func67, Try.ntmps67
            go_wp2_with fail
            go_quiet (fail)
            go_wp2
            go_ret
            exact ⟨rfl, below_drewN (by go_grown)⟩
          · rw [if_neg h5]
            go_enter Try.func67, Try.ntmps67
            go_wp2_with fail
            go_quiet (fail)
            go_wp2
            go_ret
            exact ⟨rfl, below_drewN (by go_grown)⟩
      · by_cases h4 : op = 7 ∧ (np : Int) = 200
        · obtain ⟨rfl, h4⟩ := h4
          have he : endsV 0 7 tk nt np u = 3 := by unfold endsV; simp [h4]
          have q : ((np : Int) == 200) = true := by simpa using h4
          rw [he]
          go_enter Try.func67, Try.ntmps67
          go_wp2_with fail
          go_quiet (fail)
          go_wp2
          go_ret
          exact ⟨rfl, below_drewN (by go_grown)⟩
        · have he : endsV 0 op tk nt np u = if 1000000000 < u then 4 else 0 := by unfold endsV; simp [h2, h3, h4]
          have p2 : (op == 0) = false := by simpa using h2
          have p3 : (op == 6) = false := by simpa using h3
          rw [he]
          by_cases h7 : op = 7
          · subst h7
            have q : ((np : Int) == 200) = false := by simp at h4; simpa using h4
            by_cases h5 : 1000000000 < u
            · rw [if_pos h5]
              go_enter Try.func67, Try.ntmps67
              go_wp2_with fail
              go_quiet (fail)
              go_wp2
              go_ret
              exact ⟨rfl, below_drewN (by go_grown)⟩
            · rw [if_neg h5]
              go_enter Try.func67, Try.ntmps67
              go_wp2_with fail
              go_quiet (fail)
              go_wp2
              go_ret
              exact ⟨rfl, below_drewN (by go_grown)⟩
          · have p4 : (op == 7) = false := by simpa using h7
            by_cases h5 : 1000000000 < u
            · rw [if_pos h5]
              go_enter Try.func67, Try.ntmps67
              go_wp2_with fail
              go_quiet (fail)
              go_wp2
              go_ret
              exact ⟨rfl, below_drewN (by go_grown)⟩
            · rw [if_neg h5]
              go_enter Try.func67, Try.ntmps67
              go_wp2_with fail
              go_quiet (fail)
              go_wp2
              go_ret
              exact ⟨rfl, below_drewN (by go_grown)⟩
  · have he : endsV why op tk nt np u = why := by unfold endsV; simp [h1]
    have q : (why != 0) = true := by simpa using h1
    rw [he]
    go_enter Try.func67, Try.ntmps67
    go_wp2
    go_ret
    exact ⟨rfl, by go_grown⟩
theorem ends_any (W : World) (h : MachAt B W b g0 A1 A3 c0 c1 c3 s) :
    Calls Try.prog 67 #[.pointer (some ⟨b, 0, none⟩), stepV s] W fun e W' => e = .returned (.int .i64 s.ends) ∧ Below W.heap.size W W' := by
  rw [ends_eq]
  exact ends_v _ _ _ _ _ _ _ W h
end
end Go.Proofs.Ytmkcijecncdhpaa
namespace Go.Proofs.Ytmkcijecncdhpaa
open Go.RowKit
set_option linter.unusedVariables false
set_option linter.unusedSimpArgs false

theorem bcellR {W w1 : World} (hb : Below W.heap.size W w1) : (∀ b o, b < W.heap.size → w1.cell? ⟨b, o, none⟩ = W.cell? ⟨b, o, none⟩) ∧ (∀ b o, b < W.heap.size → w1.frozen? ⟨b, o, none⟩ = W.frozen? ⟨b, o, none⟩) :=
  ⟨fun b o h => hb.cell (p := ⟨b, o, none⟩) h, fun b o h => hb.frozen (p := ⟨b, o, none⟩) h⟩
theorem below_ltR {W w1 : World} (hb : Below W.heap.size W w1) : ∀ b, b < W.heap.size → b < w1.heap.size := fun b h => Nat.lt_of_lt_of_le h hb.size
theorem below_undrewR {n : Nat} {U X : World} (h : Below n U.drew X) : Below n U X := ⟨h.os, h.tape, h.output, h.size, h.block⟩
/-- What the variables of comes hold. -/
structure CoW (W : World) (k : Nat) (a f t n : Int) (U : World) : Prop where
  below : Below W.heap.size W U
  z : ∀ j, j < 7 → U.cell? ⟨W.heap.size, j, none⟩ = some (.int .i64 0)
  fr : ∀ j, U.frozen? ⟨W.heap.size, j, none⟩ = false
  c0 : U.cell? ⟨k, 0, none⟩ = some (.int .i64 a)
  c1 : U.cell? ⟨k, 1, none⟩ = some (.int .i64 f)
  c2 : U.cell? ⟨k, 2, none⟩ = some (.int .i64 t)
  c3 : U.cell? ⟨k, 3, none⟩ = some (.int .i64 n)
  lo : W.heap.size < k
  hi : k < U.heap.size
theorem CoW.after {W U V : World} {k : Nat} {a f t n : Int} (h : CoW W k a f t n U) (hb : Below U.heap.size U V) : CoW W k a f t n V := by
  have h1 := h.lo
  have h2 := h.hi
  have h3 := h.below.size
  have c : ∀ b j, b < U.heap.size → V.cell? ⟨b, j, none⟩ = U.cell? ⟨b, j, none⟩ := fun b j hj => hb.cell (p := ⟨b, j, none⟩) hj
  exact ⟨h.below.trans (below_lower h3 hb), fun j hj => (c _ _ (by omega)).trans (h.z j hj), fun j => (hb.frozen (p := ⟨W.heap.size, j, none⟩) (by show W.heap.size < _; omega)).trans (h.fr j),
    (c _ _ h2).trans h.c0, (c _ _ h2).trans h.c1, (c _ _ h2).trans h.c2, (c _ _ h2).trans h.c3, h1, Nat.lt_of_lt_of_le h2 hb.size⟩
structure CoZ (W U : World) : Prop where
  below : Below W.heap.size W U
  z : ∀ j, j < 7 → U.cell? ⟨W.heap.size, j, none⟩ = some (.int .i64 0)
  fr : ∀ j, U.frozen? ⟨W.heap.size, j, none⟩ = false
theorem coZ_new (W : World) : CoZ W (W.alloc (.cells #[.int .i64 0, .int .i64 0, .int .i64 0, .int .i64 0, .int .i64 0, .int .i64 0, .int .i64 0] 60)) := by
  refine ⟨by go_grown, fun j hj => ?_, fun j => by simp [go_sem]⟩
  match j, hj with
  | 0, _ => simp [go_sem]
  | 1, _ => simp [go_sem]
  | 2, _ => simp [go_sem]
  | 3, _ => simp [go_sem]
  | 4, _ => simp [go_sem]
  | 5, _ => simp [go_sem]
  | 6, _ => simp [go_sem]
/-- What the order's fetching reads. -/
abbrev CoS (b g0 a c0 : Nat) (s : MS) (w' : World) : Prop :=
  w'.cell? ⟨b, 0, none⟩ = some (.slice (some ⟨g0, 0, none⟩) s.store.length c0) ∧ w'.cell? ⟨b, 5, none⟩ = some (.int .i64 (a : Int)) ∧ w'.cell? ⟨g0, a, none⟩ = some (.int .i64 s.word) ∧ b < w'.heap.size ∧ g0 < w'.heap.size
theorem CoS.keep {b g0 a c0 : Nat} {s : MS} {w w' : World} (h : CoS b g0 a c0 s w) (hb : Below w.heap.size w w') : CoS b g0 a c0 s w' :=
  ⟨(hb.cell (p := ⟨b, 0, none⟩) h.2.2.2.1).trans h.1, (hb.cell (p := ⟨b, 5, none⟩) h.2.2.2.1).trans h.2.1, (hb.cell (p := ⟨g0, a, none⟩) h.2.2.2.2).trans h.2.2.1, Nat.lt_of_lt_of_le h.2.2.2.1 hb.size, Nat.lt_of_lt_of_le h.2.2.2.2 hb.size⟩
theorem CoS.alloc {b g0 a c0 : Nat} {s : MS} {w : World} (h : CoS b g0 a c0 s w) (o : Obj) : CoS b g0 a c0 s (w.alloc o) := h.keep ((Below.refl _ _).alloc (Nat.le_refl _) o)
theorem CoS.set4 {b g0 a c0 k : Nat} {s : MS} {w : World} {u0 u1 u2 u3 : Value} (h : CoS b g0 a c0 s w) (hb : b ≠ k) (hg : g0 ≠ k) : CoS b g0 a c0 s ((((w.setCell ⟨k, 0, none⟩ u0).setCell ⟨k, 1, none⟩ u1).setCell ⟨k, 2, none⟩ u2).setCell ⟨k, 3, none⟩ u3) := by
  obtain ⟨h0, h1, h2, h3, h4⟩ := h
  refine ⟨?_, ?_, ?_, by simpa [World.setCell] using h3, by simpa [World.setCell] using h4⟩ <;> simp [go_sem, hb, hg, h0, h1, h2]
theorem CoZ.after {W U V : World} (h : CoZ W U) (hU : W.heap.size < U.heap.size) (hb : Below U.heap.size U V) : CoZ W V :=
  ⟨h.below.trans (below_lower h.below.size hb), fun j hj => (hb.cell (p := ⟨W.heap.size, j, none⟩) hU).trans (h.z j hj), fun j => (hb.frozen (p := ⟨W.heap.size, j, none⟩) hU).trans (h.fr j)⟩
theorem CoZ.put {W U : World} {k : Nat} {a f t n : Int} {T : TypeId} (h : CoZ W U) (hk : RowIs U k T [.int .i64 0, .int .i64 0, .int .i64 0, .int .i64 0]) (lo : W.heap.size < k) :
    CoW W k a f t n ((((U.setCell ⟨k, 0, none⟩ (.int .i64 a)).setCell ⟨k, 1, none⟩ (.int .i64 f)).setCell ⟨k, 2, none⟩ (.int .i64 t)).setCell ⟨k, 3, none⟩ (.int .i64 n)) := by
  have r0 : U.cell? ⟨k, 0, none⟩ = some (.int .i64 0) := hk.cell 0
  have r1 : U.cell? ⟨k, 1, none⟩ = some (.int .i64 0) := hk.cell 1
  have r2 : U.cell? ⟨k, 2, none⟩ = some (.int .i64 0) := hk.cell 2
  have r3 : U.cell? ⟨k, 3, none⟩ = some (.int .i64 0) := hk.cell 3
  have hne : W.heap.size ≠ k := by omega
  refine ⟨(((h.below.setCell (p := ⟨k, 0, none⟩) (Nat.le_of_lt lo) _).setCell (p := ⟨k, 1, none⟩) (Nat.le_of_lt lo) _).setCell (p := ⟨k, 2, none⟩) (Nat.le_of_lt lo) _).setCell (p := ⟨k, 3, none⟩) (Nat.le_of_lt lo) _, fun j hj => ?_, fun j => ?_, ?_, ?_, ?_, ?_, lo, ?_⟩
  · have := h.z j hj
    simp [go_sem, hne, this]
  · have := h.fr j
    simp [go_sem, this]
  · simp [go_sem, r0]
  · simp [go_sem, r1]
  · simp [go_sem, r2]
  · simp [go_sem, r3]
  · have := hk.lt
    simpa [World.setCell] using this
theorem CoZ.new {W U : World} {a f t n : Int} {T : TypeId} (h : CoZ W U) (hU : W.heap.size < U.heap.size) :
    CoW W U.heap.size a f t n (U.alloc (.cells #[.int .i64 a, .int .i64 f, .int .i64 t, .int .i64 n] T)) := by
  have h1 := h.after hU ((Below.refl _ U).alloc (Nat.le_refl _) (.cells #[.int .i64 a, .int .i64 f, .int .i64 t, .int .i64 n] T))
  exact ⟨h1.below, h1.z, h1.fr, by simp [go_sem], by simp [go_sem], by simp [go_sem], by simp [go_sem], hU, by simp⟩
/-- What is read for the time of an order. -/
abbrev CoT (b g0 f k c0 : Nat) (s : MS) (w' : World) : Prop :=
  w'.cell? ⟨b, 0, none⟩ = some (.slice (some ⟨g0, 0, none⟩) s.store.length c0) ∧ w'.cell? ⟨b, 4, none⟩ = some (.int .i64 s.time) ∧ w'.cell? ⟨g0, f, none⟩ = some (.int .i64 s.operand) ∧ w'.cell? ⟨k, 0, none⟩ = some (.int .i64 s.op) ∧ w'.cell? ⟨k, 1, none⟩ = some (.int .i64 (f : Int)) ∧ w'.cell? ⟨k, 2, none⟩ = some (.int .i64 s.to) ∧ w'.cell? ⟨k, 3, none⟩ = some (.int .i64 s.nxt) ∧ b < w'.heap.size ∧ g0 < w'.heap.size ∧ k < w'.heap.size
theorem CoT.keep {b g0 f k c0 : Nat} {s : MS} {w w' : World} (h : CoT b g0 f k c0 s w) (hb : Below w.heap.size w w') : CoT b g0 f k c0 s w' := by
  obtain ⟨h0, h1, h2, h3, h4, h5, h6, h7, h8, h9⟩ := h
  exact ⟨(hb.cell (p := ⟨b, 0, none⟩) h7).trans h0, (hb.cell (p := ⟨b, 4, none⟩) h7).trans h1, (hb.cell (p := ⟨g0, f, none⟩) h8).trans h2, (hb.cell (p := ⟨k, 0, none⟩) h9).trans h3, (hb.cell (p := ⟨k, 1, none⟩) h9).trans h4, (hb.cell (p := ⟨k, 2, none⟩) h9).trans h5, (hb.cell (p := ⟨k, 3, none⟩) h9).trans h6,
    Nat.lt_of_lt_of_le h7 hb.size, Nat.lt_of_lt_of_le h8 hb.size, Nat.lt_of_lt_of_le h9 hb.size⟩
/-- What is read for the answer. -/
abbrev CoR (b k a f : Nat) (s : MS) (w' : World) : Prop :=
  w'.cell? ⟨b, 4, none⟩ = some (.int .i64 s.time) ∧ w'.cell? ⟨b, 5, none⟩ = some (.int .i64 (a : Int)) ∧ w'.cell? ⟨k, 0, none⟩ = some (.int .i64 s.op) ∧ w'.cell? ⟨k, 1, none⟩ = some (.int .i64 (f : Int)) ∧ w'.cell? ⟨k, 2, none⟩ = some (.int .i64 s.to) ∧ w'.cell? ⟨k, 3, none⟩ = some (.int .i64 s.nxt)
theorem CoR.drew {b k a f : Nat} {s : MS} {w : World} (h : CoR b k a f s w) : CoR b k a f s w.drew := h
theorem CoR.set7 {b k a f j : Nat} {s : MS} {w : World} {u0 u1 u2 u3 u4 u5 u6 : Value} (h : CoR b k a f s w) (hb : b ≠ j) (hk : k ≠ j) :
    CoR b k a f s (((((((w.setCell ⟨j, 0, none⟩ u0).setCell ⟨j, 1, none⟩ u1).setCell ⟨j, 2, none⟩ u2).setCell ⟨j, 3, none⟩ u3).setCell ⟨j, 4, none⟩ u4).setCell ⟨j, 5, none⟩ u5).setCell ⟨j, 6, none⟩ u6) := by
  obtain ⟨h0, h1, h2, h3, h4, h5⟩ := h
  refine ⟨?_, ?_, ?_, ?_, ?_, ?_⟩ <;> simp [go_sem, hb, hk, h0, h1, h2, h3, h4, h5]
theorem CoR.set7d {b k a f j : Nat} {s : MS} {w : World} {u0 u1 u2 u3 u4 u5 u6 : Value} (h : CoR b k a f s w) (hb : b ≠ j) (hk : k ≠ j) :
    CoR b k a f s (((((((w.setCell ⟨j, 0, none⟩ u0).setCell ⟨j, 1, none⟩ u1).setCell ⟨j, 2, none⟩ u2).setCell ⟨j, 3, none⟩ u3).setCell ⟨j, 4, none⟩ u4).setCell ⟨j, 5, none⟩ u5).setCell ⟨j, 6, none⟩ u6).drew := CoR.drew (h.set7 hb hk)
section
variable {B : Nat} {b g0 : Nat} {A1 A3 : Option Addr} {c0 c1 c3 : Nat} {s : MS}
set_option maxRecDepth 100000 in
set_option maxHeartbeats 8000000 in
theorem comes_ok (hok : s.Ok) (W : World) (h : MachAt B W b g0 A1 A3 c0 c1 c3 s) :
    Calls Try.prog 66 #[.pointer (some ⟨b, 0, none⟩)] W fun e W' => e = .returned (.tuple #[stepV s, .int .i64 s.follow]) ∧ Below W.heap.size W W' := by
  have ho := hok.order
  obtain ⟨a, ha⟩ := Int.eq_ofNat_of_zero_le hok.at_.1
  obtain ⟨f, hf⟩ := Int.eq_ofNat_of_zero_le ho.from_.1
  have hn0 := hok.n0
  have hal : a < s.store.length := by have := hok.at_; omega
  have hfl : f < s.store.length := by have := ho.from_; omega
  have hW : s.word = getI s.store a := by unfold MS.word; rw [ha]
  have hF : s.operand = getI s.store f := by unfold MS.operand; rw [hf]
  have hst := h.st
  rw [ha] at hst
  obtain ⟨q0, q1, q2, q3, q4, q5, q6, q7⟩ := hst
  obtain ⟨g, e, k0, _, _, hgl⟩ := own_cell h.r0 hal
  simp only [Option.some.injEq, Addr.mk.injEq, and_true] at e
  subst e
  obtain ⟨g, e, k1, _, _, _⟩ := own_cell h.r0 hfl
  simp only [Option.some.injEq, Addr.mk.injEq, and_true] at e
  subst e
  have hbl := h.lt
  have KW := Lib.hid (written_any s.word hok.word)
  have KS := Lib.hid (signed_any s.operand hok.operand)
  have KN : Hid (∀ w, Calls Try.prog 49 #[.agg #[.int .i64 s.op, .int .i64 (f : Int), .int .i64 s.to, .int .i64 s.nxt], .int .i64 s.time, .bool (decide (signO s.operand < 0))] w fun e w' => e = .returned (.tuple #[.int .i64 s.follow, .int .i64 s.until_]) ∧ Below w.heap.size w w') := Lib.hid (by
    rw [← hf]
    exact when_any s.op s.frm s.to s.nxt s.time s.neg ho ⟨hok.time.1, by have := hok.time; omega⟩)
  rw [← hW] at k0
  rw [← hF] at k1
  have E := Lib.hid (And.intro ha hf)
  clear h ha hf hF hW hok hn0 q1 q2 q3 q6 q7
  go_enter Try.func66, Try.ntmps66
  go_upto_region 1 with fail
  have u0 : (W.alloc (.cells #[.int .i64 0, .int .i64 0, .int .i64 0, .int .i64 0, .int .i64 0, .int .i64 0, .int .i64 0] 60)).cell? ⟨b, 0, none⟩ = some (.slice (some ⟨g0, 0, none⟩) s.store.length c0) := by simp [go_sem, hbl, q0]
  have u5 : (W.alloc (.cells #[.int .i64 0, .int .i64 0, .int .i64 0, .int .i64 0, .int .i64 0, .int .i64 0, .int .i64 0] 60)).cell? ⟨b, 5, none⟩ = some (.int .i64 (a : Int)) := by simp [go_sem, hbl, q5]
  have ug : (W.alloc (.cells #[.int .i64 0, .int .i64 0, .int .i64 0, .int .i64 0, .int .i64 0, .int .i64 0, .int .i64 0] 60)).cell? ⟨g0, a, none⟩ = some (.int .i64 s.word) := by simp [go_sem, hgl, k0]
  have us : (W.alloc (.cells #[.int .i64 0, .int .i64 0, .int .i64 0, .int .i64 0, .int .i64 0, .int .i64 0, .int .i64 0] 60)).heap.size = W.heap.size + 1 := by simp
  have hV0 : CoZ W (W.alloc (.cells #[.int .i64 0, .int .i64 0, .int .i64 0, .int .i64 0, .int .i64 0, .int .i64 0, .int .i64 0] 60)) := coZ_new W
  generalize W.alloc (.cells #[.int .i64 0, .int .i64 0, .int .i64 0, .int .i64 0, .int .i64 0, .int .i64 0, .int .i64 0] 60) = V at *
  have HV := Lib.hid hV0
  clear hV0
  go_cut [4] (fun s4 wx => ∃ k, s4 = .pointer (some ⟨k, 0, none⟩) ∧ CoW W k s.op s.frm s.to s.nxt wx)
  case first J K hJ hK =>
    have KW' := Lib.hid (fun w (hs : CoS b g0 a c0 s w) => (KW.out w).mono (fun e w' (h : _ ∧ _) => And.intro h.1 (And.intro (hs.keep h.2) h.2)))
    have hS0 : CoS b g0 a c0 s V := ⟨u0, u5, ug, by omega, by omega⟩
    have hSd : CoS b g0 a c0 s V.drew := hS0
    have hSa : ∀ o, CoS b g0 a c0 s (V.alloc o).drew := fun o => hS0.alloc o
    clear KW u0 u5 ug k0 k1 q0 q4 q5 KS KN
    go_region_held3 (fun w' => w'.cell? ⟨b, 0, none⟩ = some (.slice (some ⟨g0, 0, none⟩) s.store.length c0) ∧ w'.cell? ⟨b, 5, none⟩ = some (.int .i64 (a : Int)) ∧ w'.cell? ⟨g0, a, none⟩ = some (.int .i64 s.word) ∧ b < w'.heap.size ∧ g0 < w'.heap.size)
      (first | with_reducible exact hsX | (with_reducible refine CoS.set4 hsX ?_ ?_ <;> omega) | (with_reducible refine CoS.set4 (CoS.alloc hsX _) ?_ ?_ <;> (have := hsX.2.2.2; omega)) | with_reducible exact CoS.alloc hsX _ | with_reducible exact hSd | with_reducible exact hS0 | with_reducible exact hSa _ | with_reducible exact CoS.alloc hS0 _)
      (first
        | (go_at_call 52; refine (KW'.out _ hSd).mono ?_; rintro e X ⟨rfl, hsX, hbX⟩; obtain ⟨qcX, qfX⟩ := bcellR hbX; have hlX := below_ltR hbX)
        | (go_at_call 52; refine (KW'.out _ (hSa _)).mono ?_; rintro e X ⟨rfl, hsX, hbX⟩; obtain ⟨qcX, qfX⟩ := bcellR hbX; have hlX := below_ltR hbX))
    all_goals (refine hK _ _ (Met.intro (hJ _ _ ?_)); (repeat apply Exists.intro); refine ⟨?_, rfl⟩)
    · exact ⟨_, rfl, (HV.out.after (by omega) (below_undrewR hbX)).new (by have := hbX.size; have e := us; simp at this; omega)⟩
    · refine ⟨_, rfl, CoZ.put (T := 33) ?_ ?_ ?_⟩
      · have h1 := (Below.refl _ V).alloc (Nat.le_refl _) (.cells #[.int .i64 0, .int .i64 0, .int .i64 0, .int .i64 0] 33)
        exact (HV.out.after (by omega) h1).after (by simp; omega) (below_undrewR hbX)
      · have h1 := RowIs.new V 33 [.int .i64 0, .int .i64 0, .int .i64 0, .int .i64 0]
        rw [us] at h1
        exact h1.below (below_undrewR hbX) (by simp [us])
      · omega
  case rest =>
    obtain ⟨k, rfl, P⟩ := hcut
    have hbW := P.below
    have hT : CoT b g0 f k c0 s wc := ⟨(hbW.cell (p := ⟨b, 0, none⟩) hbl).trans q0, (hbW.cell (p := ⟨b, 4, none⟩) hbl).trans q4, (hbW.cell (p := ⟨g0, f, none⟩) hgl).trans k1, P.c0, by rw [← E.out.2]; exact P.c1, P.c2, P.c3, Nat.lt_of_lt_of_le hbl hbW.size, Nat.lt_of_lt_of_le hgl hbW.size, P.hi⟩
    have x5 := (hbW.cell (p := ⟨b, 5, none⟩) hbl).trans q5
    have HP := Lib.hid (And.intro P x5)
    have KS' := Lib.hid (fun w (hs : CoT b g0 f k c0 s w) => (KS.out w).mono (fun e w' (h : _ ∧ _) => And.intro h.1 (And.intro (show CoT b g0 f k c0 s w' from h.2 ▸ hs) h.2)))
    have KN' := Lib.hid (fun w (hs : CoT b g0 f k c0 s w) => (KN.out w).mono (fun e w' (h : _ ∧ _) => And.intro h.1 (And.intro (hs.keep h.2) h.2)))
    have hTd : CoT b g0 f k c0 s wc.drew := hT
    clear P x5 KS KN KW q0 q4 q5 k0 k1 u0 u5 ug hbW
    go_wp2_with fail
    go_region_held3 (fun w' => w'.cell? ⟨b, 0, none⟩ = some (.slice (some ⟨g0, 0, none⟩) s.store.length c0) ∧ w'.cell? ⟨b, 4, none⟩ = some (.int .i64 s.time) ∧ w'.cell? ⟨g0, f, none⟩ = some (.int .i64 s.operand) ∧ w'.cell? ⟨k, 0, none⟩ = some (.int .i64 s.op) ∧ w'.cell? ⟨k, 1, none⟩ = some (.int .i64 (f : Int)) ∧ w'.cell? ⟨k, 2, none⟩ = some (.int .i64 s.to) ∧ w'.cell? ⟨k, 3, none⟩ = some (.int .i64 s.nxt) ∧ b < w'.heap.size ∧ g0 < w'.heap.size ∧ k < w'.heap.size)
      (first | with_reducible exact hsY | with_reducible exact hsX | with_reducible exact hTd | with_reducible exact hT)
      (first
        | (go_at_call 54; refine (KS'.out _ hTd).mono ?_; rintro e X ⟨rfl, hsX, rfl⟩)
        | (go_at_call 49; refine (KN'.out _ hTd).mono ?_; rintro e Y ⟨rfl, hsY, hbY⟩))
    have P := HP.out.1.after (below_undrewR hbY)
    have y5 : Y.cell? ⟨b, 5, none⟩ = some (.int .i64 (a : Int)) := ((below_undrewR hbY).cell (p := ⟨b, 5, none⟩) hT.2.2.2.2.2.2.2.1).trans HP.out.2
    obtain ⟨y0, y4, yg, k0, k1, k2, k3, yb, yl, yk⟩ := hsY
    have z0 := P.z 0 (by decide)
    have z1 := P.z 1 (by decide)
    have z2 := P.z 2 (by decide)
    have z3 := P.z 3 (by decide)
    have z4 := P.z 4 (by decide)
    have z5 := P.z 5 (by decide)
    have z6 := P.z 6 (by decide)
    have zf0 := P.fr 0
    have zf1 := P.fr 1
    have zf2 := P.fr 2
    have zf3 := P.fr 3
    have zf4 := P.fr 4
    have zf5 := P.fr 5
    have zf6 := P.fr 6
    have hPb := Lib.hid P.below
    have hR : CoR b k a f s Y := ⟨y4, y5, k0, k1, k2, k3⟩
    have hRd : CoR b k a f s Y.drew := hR
    have hlo := P.lo
    clear P hT hTd hbY y0 yg KS' KN' us
    go_wp2_with fail
    go_region_held3 (fun w' => w'.cell? ⟨b, 4, none⟩ = some (.int .i64 s.time) ∧ w'.cell? ⟨b, 5, none⟩ = some (.int .i64 (a : Int)) ∧ w'.cell? ⟨k, 0, none⟩ = some (.int .i64 s.op) ∧ w'.cell? ⟨k, 1, none⟩ = some (.int .i64 (f : Int)) ∧ w'.cell? ⟨k, 2, none⟩ = some (.int .i64 s.to) ∧ w'.cell? ⟨k, 3, none⟩ = some (.int .i64 s.nxt))
      (first | with_reducible exact hR | with_reducible exact hRd | (with_reducible refine CoR.set7d hR ?_ ?_ <;> omega) | (with_reducible refine CoR.set7 hR ?_ ?_ <;> omega))
      (first | fail | fail)
    go_wp2
    refine bodyPost_ret (v := .tuple #[.agg #[.int .i64 (a : Int), .int .i64 s.op, .int .i64 (f : Int), .int .i64 s.to, .int .i64 s.nxt, .int .i64 s.time, .int .i64 s.until_], .int .i64 s.follow]) (by simp [results, Try.results66, go_sem, z0, z1, z2, z3, z4, z5, z6]) rfl ⟨?_, ?_⟩
    · rw [← E.out.1, ← E.out.2]
      rfl
    · have hb := hPb.out
      exact ((((((((hb.setCell (p := ⟨W.heap.size, 0, none⟩) (Nat.le_refl _) _).setCell (p := ⟨W.heap.size, 1, none⟩) (Nat.le_refl _) _).setCell (p := ⟨W.heap.size, 2, none⟩) (Nat.le_refl _) _).setCell (p := ⟨W.heap.size, 3, none⟩) (Nat.le_refl _) _).setCell (p := ⟨W.heap.size, 4, none⟩) (Nat.le_refl _) _).setCell (p := ⟨W.heap.size, 5, none⟩) (Nat.le_refl _) _).setCell (p := ⟨W.heap.size, 6, none⟩) (Nat.le_refl _) _).drew)
end
end Go.Proofs.Ytmkcijecncdhpaa
