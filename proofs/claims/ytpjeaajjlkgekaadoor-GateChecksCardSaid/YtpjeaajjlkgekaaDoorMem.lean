/-
  WORDS FOR MEMORY: a slice that reads as a list; a row of the call's own; make and append. They hold for every program; no statement is proved here.
-/
import Derived.Test.YtpjeaajjlkgekaaDoorRows
import Derived.WalkKit
import Derived.WalkSpells
import Derived.ProofKit
import Derived.OpenShut
import Derived.Below
import Derived.Handy
import Derived.OwnWalk
import Derived.Laws.OwnMore
import Derived.Laws.AppendOwn
import Derived.Deep.AppendLies
import Derived.Deep.Draws
import Derived.Lib.Hide
namespace Go.Proofs.YtpjeaajjlkgekaaDoor
open Go.RowKit
set_option linter.unusedVariables false
set_option linter.unusedSimpArgs false

theorem add_block (a : Addr) (n : Nat) : (a.add n).block = a.block := by unfold Addr.add; split <;> rfl
theorem add_zero_off (g j : Nat) : (⟨g, 0, none⟩ : Addr).add j = ⟨g, j, none⟩ := by unfold Addr.add; split <;> simp_all
theorem add_off (g i j : Nat) : (⟨g, i, none⟩ : Addr).add j = ⟨g, i + j, none⟩ := by unfold Addr.add; split <;> simp_all

theorem add_add (a : Addr) (i j : Nat) : (a.add i).add j = a.add (i + j) := by
  unfold Addr.add
  by_cases hi : i = 0 <;> by_cases hj : j = 0 <;> simp [hi, hj, Nat.add_assoc]

/-- The slice value '.slice A n c' reads as the list xs, one cell an element, in a block below B. -/
def ListAt {α : Type} (f : α → Value) (w : World) (B : Nat) (A : Option Addr) (xs : List α) : Prop :=
  0 < xs.length → ∃ ad, A = some ad ∧ ad.block < B ∧ ∀ (j : Nat) (h : j < xs.length), w.cell? (ad.add j) = some (f xs[j])
abbrev IntsAt := @ListAt Int (Value.int .i64)
abbrev BoolsAt := @ListAt Bool Value.bool
section
variable {α : Type} {f : α → Value} {w w' : World} {B C : Nat} {A : Option Addr} {xs : List α}
theorem ListAt.below (h : ListAt f w B A xs) (hb : Below B w w') : ListAt f w' B A xs := fun h0 => by
  obtain ⟨ad, e, hlt, hc⟩ := h h0
  exact ⟨ad, e, hlt, fun j hj => (hb.cell (p := ad.add j) (by rw [add_block]; exact hlt)).trans (hc j hj)⟩
theorem ListAt.more (h : ListAt f w B A xs) (hB : B ≤ C) : ListAt f w C A xs := fun h0 => by
  obtain ⟨ad, e, hlt, hc⟩ := h h0
  exact ⟨ad, e, by omega, hc⟩
theorem ListAt.at_ (h : ListAt f w B A xs) {k : Nat} (hk : k < xs.length) : ∃ ad, A = some ad ∧ ad.block < B ∧ w.cell? (ad.add k) = some (f xs[k]) := by
  obtain ⟨ad, e, hlt, hc⟩ := h (by omega)
  exact ⟨ad, e, hlt, hc k hk⟩
theorem ListAt.nil (w : World) (B : Nat) (A : Option Addr) : ListAt f w B A [] := fun h => by simp at h
/-- A row of the call's own, as a slice that reads. -/
theorem ListAt.own {base n : Nat} {e : TypeId} {v : Value} (h : w.ownsRow base e 1 v n (xs.map f)) : ∃ A c, v = .slice A n c ∧ n = xs.length ∧ n ≤ c ∧ (∀ ad, A = some ad → base ≤ ad.block) ∧ ListAt f w w.heap.size A xs := by
  have hl : n = xs.length := by have := h.1; simp at this; omega
  rcases h.2 with ⟨rfl, h0⟩ | ⟨g, cap, cur, rfl, hb, hg, hnc, hcm, hcs, htake⟩
  · exact ⟨none, 0, by rw [h0], hl, by omega, (fun ad e => by cases e), fun hp => by omega⟩
  · refine ⟨_, _, rfl, hl, hnc, (fun ad e => by cases e; exact hb), fun hp => ⟨_, rfl, (Array.getElem?_eq_some_iff.1 hg).1, fun j hj => ?_⟩⟩
    exact h.cells rfl j _ (by simp [hj])
end

/-- A row that is owned from end to end. -/
theorem row_full {w : World} {base g n : Nat} {e : TypeId} {xs : List Value} (h : w.ownsRow base e 1 (.slice (some ⟨g, 0, none⟩) n n) n xs) : w.heap[g]? = some (.cells xs.toArray e (0, 0)) := by
  rcases h.2 with ⟨h', _⟩ | ⟨g', cap, cur, h', hb, hg, hnc, hcm, hcs, htake⟩
  · simp at h'
  · simp only [Value.slice.injEq, Option.some.injEq, Addr.mk.injEq, and_true, true_and] at h'
    obtain ⟨rfl, rfl⟩ := h'
    rw [List.take_of_length_le (by rw [Array.length_toList, hcs]; exact Nat.le_refl _)] at htake
    rw [hg, ← htake]
/-- A row known whole, as a slice that reads. -/
theorem ListAt.row {α : Type} {f : α → Value} {w : World} {g : Nat} {e : TypeId} {xs : List α} (h : w.heap[g]? = some (.cells (xs.map f).toArray e (0, 0))) : ListAt f w w.heap.size (some ⟨g, 0, none⟩) xs := fun _ =>
  ⟨_, rfl, (Array.getElem?_eq_some_iff.1 h).1, fun j hj => by rw [add_zero_off, cell_of_row w g j _ e (0, 0) h]; simp [hj]⟩

theorem cell_apart (U : World) {p q : Addr} (u : Value) (h : p.block ≠ q.block) : (U.setCell p u).cell? q = U.cell? q := World.cell?_setCell_other _ _ _ _ (fun e => h (by rw [e]))
/-- A block that is known whole. -/
def RowIs (U : World) (g : Nat) (e : TypeId) (xs : List Value) : Prop := U.heap[g]? = some (.cells xs.toArray e (0, 0))
section
variable {U V : World} {g : Nat} {e : TypeId} {xs : List Value}
theorem RowIs.lt (h : RowIs U g e xs) : g < U.heap.size := (Array.getElem?_eq_some_iff.1 h).1
theorem RowIs.cell (h : RowIs U g e xs) (j : Nat) : U.cell? ⟨g, j, none⟩ = xs[j]? := by rw [cell_of_row U g j _ e (0, 0) h]; simp
theorem RowIs.frozen (h : RowIs U g e xs) (j : Nat) : U.frozen? ⟨g, j, none⟩ = false := frozen_of_row U g j _ e h
theorem RowIs.below {B : Nat} (h : RowIs U g e xs) (hb : Below B U V) (hg : g < B) : RowIs V g e xs := (hb.block g hg).trans h
theorem RowIs.drew (h : RowIs U g e xs) : RowIs U.drew g e xs := h
theorem RowIs.alloc (h : RowIs U g e xs) (o : Obj) : RowIs (U.alloc o) g e xs := (Below.heap_alloc U o g h.lt).trans h
theorem RowIs.new (U : World) (e : TypeId) (xs : List Value) : RowIs (U.alloc (.cells xs.toArray e)) U.heap.size e xs := heap_alloc_new U _
theorem RowIs.set (h : RowIs U g e xs) (j : Nat) (u : Value) : RowIs (U.setCell ⟨g, j, none⟩ u) g e (xs.set j u) := by
  unfold RowIs at h ⊢
  rw [heap_setCell_same U g j _ e u h, List.setIfInBounds_toArray]
theorem RowIs.far (h : RowIs U g e xs) {p : Addr} (hp : g ≠ p.block) (u : Value) : RowIs (U.setCell p u) g e xs := (Below.heap_setCell U p u g hp).trans h
end

/-- T is the type of slices of E, one cell an element. -/
structure SliceT (P : Program) (T E : TypeId) (z : Value) (bytes : Nat) : Prop where
  und : P.underlying T = some (.slice E)
  info : (P.info? E).map (fun i => (i.zero, i.size, i.bytes)) = some (some z, 1, bytes)
  one : z.cells = #[z]
  small : bytes ≤ 64

section
variable {P : Program} {T E : TypeId} {z : Value} {bytes : Nat} {w : World} {ops : Array Oper} {rest : List Oper} {o : Oper} {a : Act} {Q : Exit → Act → World → Prop}

/-- append of one element. -/
theorem wp_push (S : SliceT P T E z bytes) (hgd : o.guard = none) (s x : Operand) (ho : o.op = .call { callee := .builtin .append, args := #[s, x], argTypes := #[T, T] })
    (base : Nat) (v : Value) (n : Nat) (xs : List Value) (hown : w.ownsRow base E 1 v n xs) (k : Nat) (u : Value) (hs : a.eval s = v) (hx : a.eval x = .slice (some ⟨k, 0, none⟩) 1 1)
    (hc : w.cell? ⟨k, 0, none⟩ = some u) (h1 : u.oneCell' = true) (hn : n + 1 ≤ 1000000) (hbase : base ≤ w.heap.size)
    (h : ∀ v' w', w'.ownsRow base E 1 v' (n + 1) (xs ++ [u]) → w.grownBy w' v.ownBlock → wpList P ops Q rest (a.put o.dst v') w') : wpList P ops Q (o :: rest) a w := by
  obtain ⟨i, hi, h2, h3, h4⟩ := info_parts S.info
  have hsm := S.small
  refine wpList_append_own w hgd s x T ho base E i z 1 bytes S.und hi h2 h3 h4 (by rw [S.one]; rfl) (by decide) v n xs hs hown ⟨k, 0, none⟩ 1 1 [u] hx rfl ?_ ?_ (by unfold maxLen; omega) ?_ hbase fun v' w' r1 r2 _ => h v' w' r1 r2
  · intro j v hv
    rcases j with _ | j
    · cases hv; exact hc
    · simp at hv
  · intro y hy
    simp only [List.mem_singleton] at hy
    subst hy
    exact h1
  · have : (n + 1) * bytes ≤ 1000000 * 64 := Nat.mul_le_mul hn hsm
    omega

/-- make with a length. -/
theorem wp_make (S : SliceT P T E z bytes) (hgd : o.guard = none) (l c : Operand) (ho : o.op = Op.makeSlice T l c) (base n : Nat) (L C : Int) (hl : a.eval l = .int .i64 L) (hc : a.eval c = .int .i64 C)
    (hL : L = (n : Int)) (hC : C = (n : Int)) (hn : n ≤ 1000000) (hbase : base ≤ w.heap.size)
    (h : ∀ w', w'.ownsRow base E 1 (.slice (some ⟨w.heap.size, 0, none⟩) n n) n (List.replicate n z) → w.grownBy w' none → wpList P ops Q rest (a.put o.dst (.slice (some ⟨w.heap.size, 0, none⟩) n n)) w') :
    wpList P ops Q (o :: rest) a w := by
  obtain ⟨i, hi, h2, h3, h4⟩ := info_parts S.info
  have hsm := S.small
  refine wpList_make_full w hgd l c T ho base E i z 1 S.und hi h2 h3 .i64 .i64 L C n hl hc hL hC ?_ (by unfold maxLen; omega) hbase fun w' r1 r2 => h w' ?_ r2
  · have : bytes * n ≤ 64 * 1000000 := Nat.mul_le_mul hsm hn
    rw [h4]
    omega
  · rw [S.one, Nat.mul_one, toList_madeCells_one] at r1
    exact r1

/-- make with a capacity alone. -/
theorem wp_make0 (S : SliceT P T E z bytes) (hgd : o.guard = none) (l c : Operand) (ho : o.op = Op.makeSlice T l c) (base n : Nat) (C : Int) (hl : a.eval l = .int .i64 0) (hc : a.eval c = .int .i64 C)
    (hC : C = (n : Int)) (hn : n ≤ 1000000) (hbase : base ≤ w.heap.size)
    (h : ∀ w', w'.ownsRow base E 1 (.slice (some ⟨w.heap.size, 0, none⟩) 0 n) 0 [] → w.grownBy w' none → wpList P ops Q rest (a.put o.dst (.slice (some ⟨w.heap.size, 0, none⟩) 0 n)) w') :
    wpList P ops Q (o :: rest) a w := by
  obtain ⟨i, hi, h2, h3, h4⟩ := info_parts S.info
  have hsm := S.small
  refine wpList_make_own w hgd l c T ho base E i z 1 S.und hi h2 h3 .i64 .i64 C n hl hc hC ?_ (by unfold maxLen; omega) hbase fun w' r1 r2 => h w' r1 r2
  have : bytes * n ≤ 64 * 1000000 := Nat.mul_le_mul hsm hn
  rw [h4]
  omega
end

/-- Behind an operation that may write the call's own row alone. -/
theorem below_grown {B : Nat} {a w w' : World} {base n : Nat} {e : TypeId} {v : Value} {xs : List Value} (h : Below B a w) (hg : w.grownBy w' v.ownBlock) (hB : B ≤ w.heap.size) (hown : w.ownsRow base e 1 v n xs) (hb : B ≤ base) : Below B a w' :=
  h.grown hg hB fun k hk => Nat.le_trans hb (hown.lt k hk).1
theorem below_grown0 {B : Nat} {a w w' : World} (h : Below B a w) (hg : w.grownBy w' none) (hB : B ≤ w.heap.size) : Below B a w' :=
  h.grown hg hB fun k hk => by cases hk

theorem wrap_nat {t : Nat} (h : t < 9223372036854775808) : IntKind.i64.wrap (t : Int) = t := by rw [IntKind.wrap_i64]; omega
theorem wrap_ediv (k b : Nat) (h : k < 9223372036854775808) : IntKind.i64.wrap ((k : Int) / (b : Int)) = ((k / b : Nat) : Int) := by
  have hkb : k / b ≤ k := Nat.div_le_self _ _
  rw [← Int.natCast_ediv]
  exact wrap_nat (by omega)
theorem tmod_nat (k b : Nat) : (k : Int).tmod (b : Int) = ((k % b : Nat) : Int) := by rw [Int.tmod_eq_emod_of_nonneg (by omega)]; rfl
theorem shl_one {r : Nat} (h : r ≤ 62) : Op.shift BinOp.shl IntKind.i64 1 IntKind.i64 (r : Int) = pure (.int .i64 ((2 ^ r : Nat) : Int)) := by
  have hp : 2 ^ r ≤ 2 ^ 62 := Nat.pow_le_pow_right (by decide) h
  rw [shift_shl .i64 .i64 1 (r : Int) (by omega) (by show (r : Int) ≤ 64; omega), Int.toNat_natCast, Int.one_mul]
  have e : ((2 : Int) ^ r) = ((2 ^ r : Nat) : Int) := by simp
  rw [e, wrap_nat (by omega)]

/-- '&' and '|' of numbers that are not below 0. -/
theorem band64 (a b : Nat) (ha : a < 9223372036854775808) (hb : b < 9223372036854775808) : bits .and .i64 (a : Int) (b : Int) = ((a &&& b : Nat) : Int) := by
  have hx : a &&& b < 2 ^ 63 := Nat.and_lt_two_pow _ (by omega)
  have h1 : (BitVec.ofInt 64 (a : Int)).toNat = a := by rw [BitVec.ofInt_natCast, BitVec.toNat_ofNat]; exact Nat.mod_eq_of_lt (by omega)
  have h2 : (BitVec.ofInt 64 (b : Int)).toNat = b := by rw [BitVec.ofInt_natCast, BitVec.toNat_ofNat]; exact Nat.mod_eq_of_lt (by omega)
  show IntKind.i64.wrap ((BitVec.ofInt 64 (a : Int) &&& BitVec.ofInt 64 (b : Int)).toNat : Int) = _
  rw [BitVec.toNat_and, h1, h2, IntKind.wrap_i64]
  omega
theorem bor64 (a b : Nat) (ha : a < 9223372036854775808) (hb : b < 9223372036854775808) : bits .or .i64 (a : Int) (b : Int) = ((a ||| b : Nat) : Int) := by
  have hx : a ||| b < 2 ^ 63 := Nat.or_lt_two_pow (by omega) (by omega)
  have h1 : (BitVec.ofInt 64 (a : Int)).toNat = a := by rw [BitVec.ofInt_natCast, BitVec.toNat_ofNat]; exact Nat.mod_eq_of_lt (by omega)
  have h2 : (BitVec.ofInt 64 (b : Int)).toNat = b := by rw [BitVec.ofInt_natCast, BitVec.toNat_ofNat]; exact Nat.mod_eq_of_lt (by omega)
  show IntKind.i64.wrap ((BitVec.ofInt 64 (a : Int) ||| BitVec.ofInt 64 (b : Int)).toNat : Int) = _
  rw [BitVec.toNat_or, h1, h2, IntKind.wrap_i64]
  omega
theorem band_one {x : Int} (h0 : 0 ≤ x) (h1 : x < 9223372036854775808) : bits .and .i64 x 1 = x % 2 := by
  have h := band64 x.toNat 1 (by omega) (by omega)
  rw [Nat.and_one_is_mod, Int.toNat_of_nonneg h0] at h
  have h2 : ((x.toNat % 2 : Nat) : Int) = x % 2 := by omega
  exact h.trans h2
end Go.Proofs.YtpjeaajjlkgekaaDoor
