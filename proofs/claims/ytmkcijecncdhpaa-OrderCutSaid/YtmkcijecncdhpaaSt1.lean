/-
  THE MACHINE ORDER BY ORDER, as lists and in memory. No statement is proved here.
-/
import Derived.Test.YtmkcijecncdhpaaOw15
import Derived.OneCell
namespace Go.Proofs.Ytmkcijecncdhpaa
open Go.RowKit
set_option linter.unusedVariables false
set_option linter.unusedSimpArgs false

/-- A state of the machine. -/
structure MS where
  store : List Int
  tape : List Int
  printed : List Int
  taken : Int
  time : Int
  at_ : Int
  done : Int
  why : Int
def getI (l : List Int) (i : Int) : Int := l.getD i.toNat 0
def setI (l : List Int) (i u : Int) : List Int := l.set i.toNat u
def IsW (x : Int) : Prop := 0 ≤ x ∧ x ≤ 16777215
namespace MS
def word (s : MS) : Int := getI s.store s.at_
def op (s : MS) : Int := opO s.word
def frm (s : MS) : Int := fromO s.word
def to (s : MS) : Int := toO s.word
def nxt (s : MS) : Int := nextO s.word
def operand (s : MS) : Int := getI s.store s.frm
def other (s : MS) : Int := getI s.store s.to
def neg (s : MS) : Bool := decide (signO s.operand < 0)
def follow (s : MS) : Int := atO s.op s.to s.nxt s.neg
def until_ (s : MS) : Int := untilO s.op s.frm s.to s.nxt s.time s.neg
def ends (s : MS) : Int :=
  if s.why ≠ 0 then s.why else if s.op = 0 then 1 else if s.op = 6 ∧ s.taken = s.tape.length then 2 else if s.op = 7 ∧ s.printed.length = 200 then 3 else if 1000000000 < s.until_ then 4 else 0
def result (s : MS) : Int :=
  if s.op = 1 then s.operand else if s.op = 2 then (s.other + s.operand) % 16777216 else if s.op = 3 then (s.other - s.operand) % 16777216 else if s.op = 4 then (signO s.operand * signO s.other / 8388608) % 16777216 else if s.op = 6 then getI s.tape s.taken else s.other
def does (s : MS) : MS :=
  { s with store := setI s.store s.to s.result, taken := if s.op = 6 then s.taken + 1 else s.taken, printed := if s.op = 7 then s.printed ++ [s.operand] else s.printed }
def go (s : MS) : MS := { s.does with at_ := s.follow, time := s.until_, done := s.done + 1 }
def ended (s : MS) : MS := { s with why := s.ends }
def run : Nat → MS → MS
  | 0, s => s
  | n + 1, s => if s.ends = 0 then run n s.go else s.ended
/-- An order that is done: its address, the order, when it is taken, when the next one is. -/
def step (s : MS) : Array Value := #[.int .i64 s.at_, .int .i64 s.op, .int .i64 s.frm, .int .i64 s.to, .int .i64 s.nxt, .int .i64 s.time, .int .i64 s.until_]
structure Ok (s : MS) : Prop where
  n0 : s.store.length = 128
  w0 : s.store.all (inB 16777215) = true
  n1 : s.tape.length ≤ 200
  w1 : s.tape.all (inB 16777215) = true
  n3 : s.printed.length ≤ 200
  w3 : s.printed.all (inB 16777215) = true
  taken : 0 ≤ s.taken ∧ s.taken ≤ s.tape.length
  time : 0 ≤ s.time ∧ s.time ≤ 1000000000
  at_ : 0 ≤ s.at_ ∧ s.at_ ≤ 127
  done : 0 ≤ s.done ∧ s.done ≤ s.time
  why : 0 ≤ s.why ∧ s.why ≤ 4
  place : s.time % 16 = s.at_ % 16
theorem all_get {l : List Int} {i : Int} (h : l.all (inB 16777215) = true) (h0 : 0 ≤ i) (h1 : i < l.length) : IsW (getI l i) := by
  have hi : i.toNat < l.length := by omega
  have hm := List.all_eq_true.1 h _ (List.getElem_mem hi)
  unfold getI
  rw [List.getD_eq_getElem?_getD, List.getElem?_eq_getElem hi, Option.getD_some]
  unfold inB at hm
  unfold IsW
  simpa using hm
theorem all_set {l : List Int} {i u : Int} (h : l.all (inB 16777215) = true) (hu : IsW u) : (setI l i u).all (inB 16777215) = true := by
  rw [List.all_eq_true] at h ⊢
  intro x hx
  rcases List.mem_or_eq_of_mem_set hx with hx | rfl
  · exact h x hx
  · unfold IsW at hu; exact inB_t hu
theorem isW_emod (x : Int) : IsW (x % 16777216) := by unfold IsW; omega
section
variable {s : MS} (h : s.Ok)
include h
theorem Ok.word : IsW s.word := all_get h.w0 h.at_.1 (by have := h.at_; have := h.n0; omega)
theorem Ok.order : OkOrder s.op s.frm s.to s.nxt := unpack_ok h.word
theorem Ok.operand : IsW s.operand := all_get h.w0 h.order.from_.1 (by have := h.order.from_; have := h.n0; omega)
theorem Ok.other : IsW s.other := all_get h.w0 h.order.to_.1 (by have := h.order.to_; have := h.n0; omega)
theorem Ok.follow : 0 ≤ s.follow ∧ s.follow ≤ 127 := by
  have h1 := h.order.to_
  have h2 := h.order.next
  unfold MS.follow atO
  split <;> assumption
theorem Ok.until_ : s.time + 1 ≤ s.until_ ∧ s.until_ ≤ s.time + 112 ∧ s.until_ % 16 = s.follow % 16 := by
  have h1 : s.until_ = aft (lastC s.time (waitsO s.op s.frm s.to) + 0) s.follow := by
    show lastC s.time (waitsO s.op s.frm s.to ++ [(s.follow, 0)]) = _
    rw [lastC_snoc]
  have h2 := lastC_bd (waitsO s.op s.frm s.to) s.time (fun x hx => waitsO_ok h.order x (List.mem_append_left _ hx))
  have h3 := waitsO_len s.op s.frm s.to
  have h4 := aft_bd (lastC s.time (waitsO s.op s.frm s.to) + 0) s.follow
  have h5 := aft_mod (lastC s.time (waitsO s.op s.frm s.to) + 0) s.follow
  rw [h1]
  refine ⟨by omega, by omega, h5⟩
end
section
variable {s : MS}
theorem ends_zero (he : s.ends = 0) : s.why = 0 ∧ s.op ≠ 0 ∧ ¬ (s.op = 6 ∧ s.taken = s.tape.length) ∧ ¬ (s.op = 7 ∧ s.printed.length = 200) ∧ s.until_ ≤ 1000000000 := by
  unfold MS.ends at he
  split at he
  · omega
  · split at he
    · omega
    · split at he
      · omega
      · split at he
        · omega
        · split at he
          · omega
          · exact ⟨by omega, by assumption, by assumption, by assumption, by omega⟩
theorem ends_bd (h : s.Ok) : 0 ≤ s.ends ∧ s.ends ≤ 4 := by
  have := h.why
  unfold MS.ends
  repeat' split
  all_goals omega
theorem Ok.result (h : s.Ok) (ht : s.op = 6 → s.taken < s.tape.length) : IsW s.result := by
  unfold MS.result
  repeat' split
  · exact h.operand
  · exact isW_emod _
  · exact isW_emod _
  · exact isW_emod _
  · exact all_get h.w1 h.taken.1 (ht (by assumption))
  · exact h.other
theorem setI_length (l : List Int) (i u : Int) : (setI l i u).length = l.length := List.length_set
theorem Ok.go (h : s.Ok) (he : s.ends = 0) : s.go.Ok := by
  obtain ⟨e1, e2, e3, e4, e5⟩ := ends_zero he
  have ht := h.taken
  have ho := h.order.op
  have hu := h.until_
  have hd := h.done
  have hti := h.time
  refine ⟨?_, ?_, h.n1, h.w1, ?_, ?_, ?_, ?_, h.follow, ?_, h.why, hu.2.2⟩
  · show (setI s.store s.to s.result).length = 128
    rw [setI_length]; exact h.n0
  · exact all_set h.w0 (h.result fun e => by omega)
  · show (if s.op = 7 then s.printed ++ [s.operand] else s.printed).length ≤ 200
    have := h.n3
    split
    · rw [List.length_append, List.length_singleton]; omega
    · exact h.n3
  · show (if s.op = 7 then s.printed ++ [s.operand] else s.printed).all (inB 16777215) = true
    split
    · rw [List.all_append, h.w3]
      have := h.operand
      unfold IsW at this
      simp [inB_t this]
    · exact h.w3
  · show 0 ≤ (if s.op = 6 then s.taken + 1 else s.taken) ∧ (if s.op = 6 then s.taken + 1 else s.taken) ≤ s.tape.length
    split <;> omega
  · show 0 ≤ s.until_ ∧ s.until_ ≤ 1000000000
    omega
  · show 0 ≤ s.done + 1 ∧ s.done + 1 ≤ s.until_
    omega
theorem Ok.ended (h : s.Ok) : s.ended.Ok := ⟨h.n0, h.w0, h.n1, h.w1, h.n3, h.w3, h.taken, h.time, h.at_, h.done, ends_bd h, h.place⟩
theorem Ok.run (n : Nat) : ∀ {s : MS}, s.Ok → (MS.run n s).Ok := by
  induction n with
  | zero => intro s h; exact h
  | succ n ih =>
    intro s h
    unfold MS.run
    split
    · exact ih (h.go (by assumption))
    · exact h.ended
end
end MS
end Go.Proofs.Ytmkcijecncdhpaa
namespace Go.Proofs.Ytmkcijecncdhpaa
open Go.RowKit
set_option linter.unusedVariables false
set_option linter.unusedSimpArgs false

def blk (A : Option Addr) (k : Nat) : Prop := ∃ a, A = some a ∧ a.block = k
theorem own_same {U V : World} {base n size : Nat} {e : TypeId} {v : Value} {xs : List Value} (h : U.ownsRow base e size v n xs) (hk : ∀ k, v.ownBlock = some k → V.heap[k]? = U.heap[k]?) : V.ownsRow base e size v n xs := by
  refine ⟨h.1, ?_⟩
  rcases h.2 with h2 | ⟨g, cap, cur, rfl, hb, hg, r⟩
  · exact .inl h2
  · exact .inr ⟨g, cap, cur, rfl, hb, (hk g rfl).trans hg, r⟩
theorem own_blk {A : Option Addr} {n c k : Nat} (h : (Value.slice A n c).ownBlock = some k) : blk A k := by
  cases A with
  | none => simp [Value.ownBlock] at h
  | some a => simp [Value.ownBlock] at h; exact ⟨a, rfl, h⟩
theorem own_ints {U : World} {base c : Nat} {A : Option Addr} {l : List Int} (h : U.ownsRow base 3 1 (.slice A l.length c) l.length (l.map (Value.int .i64))) : IntsAt U U.heap.size A l := by
  obtain ⟨A', c', e, _, _, _, hl⟩ := ListAt.own (f := Value.int .i64) (xs := l) (by simpa using h)
  simp only [Value.slice.injEq] at e
  rw [e.1]
  exact hl
theorem own_cell {U : World} {base c : Nat} {A : Option Addr} {l : List Int} (h : U.ownsRow base 3 1 (.slice A l.length c) l.length (l.map (Value.int .i64))) {k : Nat} (hk : k < l.length) :
    ∃ g, A = some ⟨g, 0, none⟩ ∧ U.cell? ⟨g, k, none⟩ = some (.int .i64 (getI l k)) ∧ U.frozen? ⟨g, k, none⟩ = false ∧ base ≤ g ∧ g < U.heap.size := by
  rcases h.2 with ⟨_, h0⟩ | ⟨g, cap, cur, e, hb, hg, _⟩
  · omega
  · simp only [Value.slice.injEq] at e
    obtain ⟨rfl, _, rfl⟩ := e
    refine ⟨g, rfl, ?_, h.frozenAt k, hb, (Array.getElem?_eq_some_iff.1 hg).1⟩
    rw [h.cellAt k (by omega)]
    unfold getI
    rw [List.getD_eq_getElem?_getD, Int.toNat_natCast, List.getElem?_eq_getElem hk, List.getElem?_eq_getElem (by simpa using hk)]
    simp

/-- A machine at work: its block b, its rows. -/
structure MachAt (B : Nat) (U : World) (b g0 : Nat) (A1 A3 : Option Addr) (c0 c1 c3 : Nat) (s : MS) : Prop where
  st : StAt U b (.slice (some ⟨g0, 0, none⟩) s.store.length c0) (.slice A1 s.tape.length c1) (.slice A3 s.printed.length c3) s.taken s.time s.at_ s.done s.why
  fr : ∀ j, U.frozen? ⟨b, j, none⟩ = false
  bB : B ≤ b
  lt : b < U.heap.size
  r0 : U.ownsRow B 3 1 (.slice (some ⟨g0, 0, none⟩) s.store.length c0) s.store.length (s.store.map (Value.int .i64))
  r1 : U.ownsRow B 3 1 (.slice A1 s.tape.length c1) s.tape.length (s.tape.map (Value.int .i64))
  r3 : U.ownsRow B 3 1 (.slice A3 s.printed.length c3) s.printed.length (s.printed.map (Value.int .i64))
  n0 : g0 ≠ b
  n1 : ¬ blk A1 b
  n3 : ¬ blk A3 b
  n01 : ¬ blk A1 g0
  n03 : ¬ blk A3 g0
  n13 : ∀ k, blk A1 k → ¬ blk A3 k
/-- The machine's own blocks. -/
def MB (b g0 : Nat) (A1 A3 : Option Addr) (k : Nat) : Prop := k = b ∨ k = g0 ∨ blk A1 k ∨ blk A3 k
theorem st_same {U V : World} {b : Nat} {v0 v1 v3 : Value} {a2 a4 a5 a6 a7 : Int} (h : StAt U b v0 v1 v3 a2 a4 a5 a6 a7) (hk : V.heap[b]? = U.heap[b]?) : StAt V b v0 v1 v3 a2 a4 a5 a6 a7 :=
  have c : ∀ j, V.cell? ⟨b, j, none⟩ = U.cell? ⟨b, j, none⟩ := fun j => World.cell?_of_block hk
  ⟨(c 0).trans h.c0, (c 1).trans h.c1, (c 2).trans h.c2, (c 3).trans h.c3, (c 4).trans h.c4, (c 5).trans h.c5, (c 6).trans h.c6, (c 7).trans h.c7⟩
section
variable {B : Nat} {U V : World} {b g0 : Nat} {A1 A3 : Option Addr} {c0 c1 c3 : Nat} {s : MS}
theorem own_lt {base n c : Nat} {A : Option Addr} {xs : List Value} (h : U.ownsRow base 3 1 (.slice A n c) n xs) {k : Nat} (hk : blk A k) : base ≤ k ∧ k < U.heap.size := by
  obtain ⟨a, rfl, rfl⟩ := hk
  exact h.lt _ rfl
theorem MachAt.blocks (h : MachAt B U b g0 A1 A3 c0 c1 c3 s) {k : Nat} (hk : MB b g0 A1 A3 k) : B ≤ k ∧ k < U.heap.size := by
  rcases hk with rfl | rfl | hk | hk
  · exact ⟨h.bB, h.lt⟩
  · exact h.r0.lt _ rfl
  · exact own_lt h.r1 hk
  · exact own_lt h.r3 hk
theorem MachAt.keep (h : MachAt B U b g0 A1 A3 c0 c1 c3 s) (hk : ∀ k, MB b g0 A1 A3 k → V.heap[k]? = U.heap[k]?) (hs : U.heap.size ≤ V.heap.size) : MachAt B V b g0 A1 A3 c0 c1 c3 s :=
  ⟨st_same h.st (hk b (.inl rfl)), fun j => (World.frozen?_of_block (hk b (.inl rfl))).trans (h.fr j), h.bB, Nat.lt_of_lt_of_le h.lt hs,
    own_same h.r0 fun k e => hk k (by simp [Value.ownBlock] at e; exact .inr (.inl e.symm)), own_same h.r1 fun k e => hk k (.inr (.inr (.inl (own_blk e)))), own_same h.r3 fun k e => hk k (.inr (.inr (.inr (own_blk e)))),
    h.n0, h.n1, h.n3, h.n01, h.n03, h.n13⟩
theorem MachAt.below (h : MachAt B U b g0 A1 A3 c0 c1 c3 s) (hb : Below U.heap.size U V) : MachAt B V b g0 A1 A3 c0 c1 c3 s :=
  h.keep (fun k hk => hb.block k (h.blocks hk).2) hb.size
/-- A cell of the state is written, no list. -/
theorem MachAt.num (h : MachAt B U b g0 A1 A3 c0 c1 c3 s) (j : Nat) (u : Value) (s' : MS) (e0 : s'.store = s.store) (e1 : s'.tape = s.tape) (e3 : s'.printed = s.printed)
    (hst : StAt (U.setCell ⟨b, j, none⟩ u) b (.slice (some ⟨g0, 0, none⟩) s.store.length c0) (.slice A1 s.tape.length c1) (.slice A3 s.printed.length c3) s'.taken s'.time s'.at_ s'.done s'.why) : MachAt B (U.setCell ⟨b, j, none⟩ u) b g0 A1 A3 c0 c1 c3 s' := by
  refine ⟨by rw [e0, e1, e3]; exact hst, fun i => ?_, h.bB, by simpa [World.setCell] using h.lt, ?_, ?_, ?_, h.n0, h.n1, h.n3, h.n01, h.n03, h.n13⟩
  · rw [World.frozen?_setCell]; exact h.fr i
  · rw [e0]; exact ownsRow_setCell_other h.r0 (by simp [Value.ownBlock]; exact h.n0) u
  · rw [e1]; exact ownsRow_setCell_other h.r1 (fun e => h.n1 (own_blk e)) u
  · rw [e3]; exact ownsRow_setCell_other h.r3 (fun e => h.n3 (own_blk e)) u
theorem MachAt.taken (h : MachAt B U b g0 A1 A3 c0 c1 c3 s) (x : Int) : MachAt B (U.setCell ⟨b, 2, none⟩ (.int .i64 x)) b g0 A1 A3 c0 c1 c3 { s with taken := x } := by
  obtain ⟨q0, q1, q2, q3, q4, q5, q6, q7⟩ := h.st
  exact h.num 2 _ _ rfl rfl rfl (by constructor <;> simp [go_sem, q0, q1, q2, q3, q4, q5, q6, q7])
theorem MachAt.time (h : MachAt B U b g0 A1 A3 c0 c1 c3 s) (x : Int) : MachAt B (U.setCell ⟨b, 4, none⟩ (.int .i64 x)) b g0 A1 A3 c0 c1 c3 { s with time := x } := by
  obtain ⟨q0, q1, q2, q3, q4, q5, q6, q7⟩ := h.st
  exact h.num 4 _ _ rfl rfl rfl (by constructor <;> simp [go_sem, q0, q1, q2, q3, q4, q5, q6, q7])
theorem MachAt.at_ (h : MachAt B U b g0 A1 A3 c0 c1 c3 s) (x : Int) : MachAt B (U.setCell ⟨b, 5, none⟩ (.int .i64 x)) b g0 A1 A3 c0 c1 c3 { s with at_ := x } := by
  obtain ⟨q0, q1, q2, q3, q4, q5, q6, q7⟩ := h.st
  exact h.num 5 _ _ rfl rfl rfl (by constructor <;> simp [go_sem, q0, q1, q2, q3, q4, q5, q6, q7])
theorem MachAt.done (h : MachAt B U b g0 A1 A3 c0 c1 c3 s) (x : Int) : MachAt B (U.setCell ⟨b, 6, none⟩ (.int .i64 x)) b g0 A1 A3 c0 c1 c3 { s with done := x } := by
  obtain ⟨q0, q1, q2, q3, q4, q5, q6, q7⟩ := h.st
  exact h.num 6 _ _ rfl rfl rfl (by constructor <;> simp [go_sem, q0, q1, q2, q3, q4, q5, q6, q7])
theorem MachAt.why (h : MachAt B U b g0 A1 A3 c0 c1 c3 s) (x : Int) : MachAt B (U.setCell ⟨b, 7, none⟩ (.int .i64 x)) b g0 A1 A3 c0 c1 c3 { s with why := x } := by
  obtain ⟨q0, q1, q2, q3, q4, q5, q6, q7⟩ := h.st
  exact h.num 7 _ _ rfl rfl rfl (by constructor <;> simp [go_sem, q0, q1, q2, q3, q4, q5, q6, q7])
theorem map_setI (l : List Int) (k : Nat) (u : Int) : (l.map (Value.int .i64)).set k (.int .i64 u) = (setI l k u).map (Value.int .i64) := by
  unfold setI
  rw [List.map_set, Int.toNat_natCast]
/-- A word of the store is written. -/
theorem MachAt.word (h : MachAt B U b g0 A1 A3 c0 c1 c3 s) (k : Nat) (u : Int) : MachAt B (U.setCell ⟨g0, k, none⟩ (.int .i64 u)) b g0 A1 A3 c0 c1 c3 { s with store := setI s.store k u } := by
  have hl : (setI s.store k u).length = s.store.length := List.length_set
  have hne : ∀ j, (⟨b, j, none⟩ : Addr).block ≠ (⟨g0, k, none⟩ : Addr).block := fun j e => h.n0 e.symm
  have hb : (U.setCell ⟨g0, k, none⟩ (.int .i64 u)).heap[b]? = U.heap[b]? := Below.heap_setCell U _ _ b (fun e => h.n0 e.symm)
  refine ⟨?_, fun i => ?_, h.bB, by simpa [World.setCell] using h.lt, ?_, ?_, ?_, h.n0, h.n1, h.n3, h.n01, h.n03, h.n13⟩
  · show StAt _ b (.slice (some ⟨g0, 0, none⟩) (setI s.store k u).length c0) _ _ _ _ _ _ _
    rw [hl]
    exact st_same h.st hb
  · exact (World.frozen?_of_block hb).trans (h.fr i)
  · show World.ownsRow _ B 3 1 (.slice (some ⟨g0, 0, none⟩) (setI s.store k u).length c0) (setI s.store k u).length ((setI s.store k u).map _)
    rw [hl, ← map_setI]
    exact (h.r0.stored k _).1
  · exact ownsRow_setCell_other h.r1 (fun e => h.n01 (own_blk e)) _
  · exact ownsRow_setCell_other h.r3 (fun e => h.n03 (own_blk e)) _
theorem MachAt.drew (h : MachAt B U b g0 A1 A3 c0 c1 c3 s) : MachAt B U.drew b g0 A1 A3 c0 c1 c3 s := h.keep (fun _ _ => rfl) (Nat.le_refl _)
theorem MachAt.drewN (h : MachAt B U b g0 A1 A3 c0 c1 c3 s) (n : Nat) : MachAt B (U.drewN n) b g0 A1 A3 c0 c1 c3 s := h.keep (fun _ _ => rfl) (Nat.le_refl _)
end

/-- What the machine may do to the memory between two rounds: its own blocks, and new ones. -/
structure Moves (B : Nat) (M M' : Nat → Prop) (U V : World) : Prop where
  os : V.os = U.os
  tape : V.tape = U.tape
  output : V.output = U.output
  size : U.heap.size ≤ V.heap.size
  block : ∀ k, k < U.heap.size → ¬ M k → V.heap[k]? = U.heap[k]?
  fresh : ∀ k, M' k → M k ∨ U.heap.size ≤ k
theorem Moves.refl (B : Nat) (M : Nat → Prop) (U : World) : Moves B M M U U := ⟨rfl, rfl, rfl, Nat.le_refl _, fun _ _ _ => rfl, fun _ h => .inl h⟩
theorem Moves.trans {B : Nat} {M M' M'' : Nat → Prop} {U V W : World} (h : Moves B M M' U V) (k : Moves B M' M'' V W) : Moves B M M'' U W :=
  ⟨k.os.trans h.os, k.tape.trans h.tape, k.output.trans h.output, Nat.le_trans h.size k.size, fun i hi hM => (k.block i (Nat.lt_of_lt_of_le hi h.size) (fun hm => (h.fresh i hm).elim hM (fun e => by omega))).trans (h.block i hi hM),
    fun i hi => (k.fresh i hi).elim (h.fresh i) (fun e => .inr (Nat.le_trans h.size e))⟩
theorem Moves.below {B : Nat} {M : Nat → Prop} {U V : World} (hb : Below U.heap.size U V) : Moves B M M U V := ⟨hb.os, hb.tape, hb.output, hb.size, fun k hk _ => hb.block k hk, fun _ h => .inl h⟩
theorem Moves.set {B : Nat} {M : Nat → Prop} {U : World} {p : Addr} (hp : M p.block) (u : Value) : Moves B M M U (U.setCell p u) :=
  ⟨rfl, rfl, rfl, by simp [World.setCell], fun k _ hM => Below.heap_setCell U p u k (fun e => hM (by rw [e]; exact hp)), fun _ h => .inl h⟩
theorem Moves.drew {B : Nat} {M M' : Nat → Prop} {U V : World} (h : Moves B M M' U V) : Moves B M M' U V.drew := ⟨h.os, h.tape, h.output, h.size, h.block, h.fresh⟩
theorem Moves.drewN {B : Nat} {M M' : Nat → Prop} {U V : World} (h : Moves B M M' U V) (n : Nat) : Moves B M M' U (V.drewN n) := ⟨h.os, h.tape, h.output, h.size, h.block, h.fresh⟩
theorem Moves.under {B : Nat} {M M' : Nat → Prop} {U V : World} (h : Moves B M M' U V) (hM : ∀ k, M k → B ≤ k) (hB : B ≤ U.heap.size) : Below B U V :=
  ⟨h.os, h.tape, h.output, h.size, fun k hk => h.block k (Nat.lt_of_lt_of_le hk hB) (fun e => by have := hM k e; omega)⟩
end Go.Proofs.Ytmkcijecncdhpaa
