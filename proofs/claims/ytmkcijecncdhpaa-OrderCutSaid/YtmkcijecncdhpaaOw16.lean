/-
  WHAT STANDS IN Begin's BLOCKS; copy into a row of the call's own. No statement is proved here.
-/
import Derived.Test.YtmkcijecncdhpaaOw15
import Derived.Laws.CopyOwn
namespace Go.Proofs.Ytmkcijecncdhpaa
open Go.RowKit
set_option linter.unusedVariables false
set_option linter.unusedSimpArgs false

theorem ListAt.far {α : Type} {f : α → Value} {U : World} {B : Nat} {A : Option Addr} {xs : List α} (h : ListAt f U B A xs) {p : Addr} (hp : ∀ ad, A = some ad → p.block ≠ ad.block) (u : Value) : ListAt f (U.setCell p u) B A xs := fun h0 => by
  obtain ⟨ad, e, hlt, hc⟩ := h h0
  exact ⟨ad, e, hlt, fun j hj => (cell_apart U u (by rw [add_block]; exact hp ad e)).trans (hc j hj)⟩
/-- A state is written into a block. -/
def setSt (U : World) (b : Nat) (v0 v1 v3 : Value) (a2 a4 a5 a6 a7 : Int) : World :=
  ((((((((U.setCell ⟨b, 0, none⟩ v0).setCell ⟨b, 1, none⟩ v1).setCell ⟨b, 2, none⟩ (.int .i64 a2)).setCell ⟨b, 3, none⟩ v3).setCell ⟨b, 4, none⟩ (.int .i64 a4)).setCell ⟨b, 5, none⟩ (.int .i64 a5)).setCell ⟨b, 6, none⟩ (.int .i64 a6)).setCell ⟨b, 7, none⟩ (.int .i64 a7))
section
variable {U : World} {b : Nat} {v0 v1 v3 u0 u1 u3 : Value} {a2 a4 a5 a6 a7 x2 x4 x5 x6 x7 : Int}
theorem StAt.put (h : StAt U b u0 u1 u3 x2 x4 x5 x6 x7) : StAt (setSt U b v0 v1 v3 a2 a4 a5 a6 a7) b v0 v1 v3 a2 a4 a5 a6 a7 := by
  obtain ⟨c0, c1, c2, c3, c4, c5, c6, c7⟩ := h
  unfold setSt
  constructor <;> simp [go_sem, c0, c1, c2, c3, c4, c5, c6, c7]
theorem setSt_size : (setSt U b v0 v1 v3 a2 a4 a5 a6 a7).heap.size = U.heap.size := by simp [setSt, World.setCell]
theorem setSt_below {n : Nat} (hb : n ≤ b) : Below n U (setSt U b v0 v1 v3 a2 a4 a5 a6 a7) :=
  ((((((((Below.refl n U).setCell (p := ⟨b, 0, none⟩) hb _).setCell (p := ⟨b, 1, none⟩) hb _).setCell (p := ⟨b, 2, none⟩) hb _).setCell (p := ⟨b, 3, none⟩) hb _).setCell (p := ⟨b, 4, none⟩) hb _).setCell (p := ⟨b, 5, none⟩) hb _).setCell (p := ⟨b, 6, none⟩) hb _).setCell (p := ⟨b, 7, none⟩) hb _
theorem RowIs.setSt {g : Nat} {e : TypeId} {xs : List Value} (h : RowIs U g e xs) (hne : g ≠ b) : RowIs (setSt U b v0 v1 v3 a2 a4 a5 a6 a7) g e xs :=
  (((((((h.far (p := ⟨b, 0, none⟩) hne _).far (p := ⟨b, 1, none⟩) hne _).far (p := ⟨b, 2, none⟩) hne _).far (p := ⟨b, 3, none⟩) hne _).far (p := ⟨b, 4, none⟩) hne _).far (p := ⟨b, 5, none⟩) hne _).far (p := ⟨b, 6, none⟩) hne _).far (p := ⟨b, 7, none⟩) hne _
theorem ListAt.setSt {α : Type} {f : α → Value} {B : Nat} {A : Option Addr} {xs : List α} (h : ListAt f U B A xs) (hne : ∀ ad, A = some ad → b ≠ ad.block) : ListAt f (setSt U b v0 v1 v3 a2 a4 a5 a6 a7) B A xs :=
  (((((((h.far (p := ⟨b, 0, none⟩) hne _).far (p := ⟨b, 1, none⟩) hne _).far (p := ⟨b, 2, none⟩) hne _).far (p := ⟨b, 3, none⟩) hne _).far (p := ⟨b, 4, none⟩) hne _).far (p := ⟨b, 5, none⟩) hne _).far (p := ⟨b, 6, none⟩) hne _).far (p := ⟨b, 7, none⟩) hne _
theorem StAt.alloc (h : StAt U b v0 v1 v3 a2 a4 a5 a6 a7) (hb : b < U.heap.size) (o : Obj) : StAt (U.alloc o) b v0 v1 v3 a2 a4 a5 a6 a7 := h.below ((Below.refl _ _).alloc (Nat.le_refl _) o) hb
theorem ListAt.alloc {α : Type} {f : α → Value} {A : Option Addr} {xs : List α} (h : ListAt f U U.heap.size A xs) (o : Obj) : ListAt f (U.alloc o) (U.alloc o).heap.size A xs := (h.below ((Below.refl _ _).alloc (Nat.le_refl _) o)).more (by simp)
theorem ListAt.new {α : Type} {f : α → Value} {V : World} {A : Option Addr} {xs : List α} (h : ListAt f U U.heap.size A xs) (hb : Below U.heap.size U V) : ListAt f V V.heap.size A xs := (h.below hb).more hb.size
end

def zeroL : List Value := List.replicate 128 (.int .i64 0)
def zeros128 : Array Value := (List.replicate 128 (Value.int .i64 0)).toArray
theorem make128 (w : World) : (Instr.makeSlice 22 (.int .i64 128) (.int .i64 128)).run Try.prog w = .ok (.slice (some ⟨w.heap.size, 0, none⟩) 128 128) (w.alloc (.cells zeros128 3)) := by
  obtain ⟨i, hi, h2, h3, h4⟩ := info_parts sliceI.info
  have h := run_make (P := Try.prog) w 22 3 i _ sliceI.und hi h2 .i64 .i64 128 128 (by omega) (Int.le_refl _) (by rw [h4]; omega) (by omega)
  rw [h]
  have e : madeCells (Value.int .i64 0).cells 128 = (List.replicate 128 (Value.int .i64 0)).toArray := by
    apply Array.toList_inj.1
    exact toList_madeCells_one _ 128
  rw [h3]
  simp only [Int.toNat, Nat.mul_one]
  rw [e]
  rfl
abbrev zeroV : Value := .agg #[.slice none 0 0, .slice none 0 0, .int .i64 0, .slice none 0 0, .int .i64 0, .int .i64 0, .int .i64 0, .int .i64 0]
abbrev zeroC : Obj := .cells #[.slice none 0 0, .slice none 0 0, .int .i64 0, .slice none 0 0, .int .i64 0, .int .i64 0, .int .i64 0, .int .i64 0] 24
abbrev begC (g : Nat) (A : Option Addr) (c : Nat) (z1 : List Int) (st : Int) : Obj := .cells #[.slice (some ⟨g, 0, none⟩) 128 128, .slice A z1.length c, .int .i64 0, .slice none 0 0, .int .i64 (st % 16), .int .i64 st, .int .i64 0, .int .i64 0] 24
abbrev rowC : Obj := .cells zeros128 3

def padL (z : List Int) : List Int := z ++ List.replicate (128 - z.length) 0
def BeginOk (w : World) (z0 z1 : List Int) (st : Int) (e : Ending) (w' : World) : Prop :=
  ∃ A0 c0 A1 c1, e = .returned (.tuple #[.agg #[.slice A0 128 c0, .slice A1 z1.length c1, .int .i64 0, .slice none 0 0, .int .i64 (st % 16), .int .i64 st, .int .i64 0, .int .i64 0], .int .i64 0]) ∧
    IntsAt w' w'.heap.size A0 (padL z0) ∧ IntsAt w' w'.heap.size A1 z1 ∧ Below w.heap.size w w'
/-- The result's block, before it is written. -/
structure BegP (w U : World) : Prop where
  below : Below w.heap.size w U
  res : StAt U w.heap.size (.slice none 0 0) (.slice none 0 0) (.slice none 0 0) 0 0 0 0 0
  fr : ∀ j, U.frozen? ⟨w.heap.size, j, none⟩ = false
  lt : w.heap.size < U.heap.size
theorem BegP.keep {w U V : World} (h : BegP w U) (hb : Below (w.heap.size + 1) U V) : BegP w V :=
  have hl := h.lt
  ⟨h.below.trans (below_lower (by omega) hb), h.res.below hb (by omega), fun j => (hb.frozen (p := ⟨w.heap.size, j, none⟩) (by show w.heap.size < _; omega)).trans (h.fr j), Nat.lt_of_lt_of_le hl hb.size⟩
structure BegW (w : World) (b g : Nat) (A1 : Option Addr) (c1 : Nat) (z1 : List Int) (st : Int) (U : World) : Prop where
  p : BegP w U
  s : StAt U b (.slice (some ⟨g, 0, none⟩) 128 128) (.slice A1 z1.length c1) (.slice none 0 0) 0 (st % 16) st 0 0
  row : RowIs U g 3 zeroL
  i1 : IntsAt U U.heap.size A1 z1
  hb : w.heap.size < b
  hg : w.heap.size < g
  hbg : b ≠ g
  hA : ∀ ad, A1 = some ad → ad.block ≠ g ∧ w.heap.size < ad.block
section
variable {w W X : World} {A : Option Addr} {c : Nat} {z1 : List Int} {st : Int}
theorem row_zero (U : World) : RowIs (U.alloc rowC) U.heap.size 3 zeroL := RowIs.new U 3 _
theorem alloc_below (U : World) (o : Obj) : Below U.heap.size U (U.alloc o) := (Below.refl _ _).alloc (Nat.le_refl _) o
theorem beg1 (P : BegP w W) (hs : W.heap.size = w.heap.size + 1 + 1) (hn : ∀ ad, A = some ad → (W.alloc rowC).heap.size ≤ ad.block) (hi : IntsAt X X.heap.size A z1) (hX : Below (W.alloc rowC).heap.size (W.alloc rowC) X) :
    BegW w X.heap.size (w.heap.size + 1 + 1) A c z1 st (X.alloc (begC (w.heap.size + 1 + 1) A c z1 st)) := by
  have hz := hX.size
  simp only [World.size_alloc] at hz hn hX
  refine ⟨P.keep ((below_lower (by omega) (alloc_below W rowC)).trans ((below_lower (by omega) hX).trans (below_lower (by omega) (alloc_below X _)))), StAt.new X _ _ _ _ _ _ _ _ _, ?_, hi.alloc _, by omega, by omega, by omega, fun ad e => by have := hn ad e; omega⟩
  rw [← hs]
  exact ((row_zero W).below hX (by omega)).alloc _
theorem beg2 (P : BegP w W) (hs : W.heap.size = w.heap.size + 1 + 1) (hn : ∀ ad, A = some ad → ((W.alloc rowC).alloc zeroC).heap.size ≤ ad.block) (hi : IntsAt X X.heap.size A z1) (hX : Below ((W.alloc rowC).alloc zeroC).heap.size ((W.alloc rowC).alloc zeroC) X) :
    BegW w (w.heap.size + 1 + 1 + 1) (w.heap.size + 1 + 1) A c z1 st (setSt X (w.heap.size + 1 + 1 + 1) (.slice (some ⟨w.heap.size + 1 + 1, 0, none⟩) 128 128) (.slice A z1.length c) (.slice none 0 0) 0 (st % 16) st 0 0) := by
  have hz := hX.size
  simp only [World.size_alloc] at hz hn hX
  have h1 := alloc_below W rowC
  have h2 := alloc_below (W.alloc rowC) zeroC
  simp only [World.size_alloc] at h2
  refine ⟨P.keep ((below_lower (by omega) h1).trans ((below_lower (by omega) h2).trans ((below_lower (by omega) hX).trans (setSt_below (by omega))))), ?_, ?_, ?_, by omega, by omega, by omega, fun ad e => by have := hn ad e; omega⟩
  · have := StAt.new (W.alloc rowC) (.slice none 0 0) (.slice none 0 0) (.slice none 0 0) 0 0 0 0 0 24
    simp only [World.size_alloc] at this
    rw [hs] at this hX
    exact (this.below hX (by omega)).put
  · have := ((row_zero W).alloc zeroC).below hX (by omega)
    rw [hs] at this
    exact this.setSt (by omega)
  · rw [setSt_size]
    exact hi.setSt fun ad e => by have := hn ad e; omega
theorem beg3 (P : BegP w W) (hs : W.heap.size = w.heap.size + 1 + 1) (hn : ∀ ad, A = some ad → W.heap.size ≤ ad.block) (hi : IntsAt X X.heap.size A z1) (hl : ∀ ad, A = some ad → 0 < z1.length → ad.block < X.heap.size) (hX : Below W.heap.size W X) (hA : ∀ ad, A = some ad → ad.block < X.heap.size) :
    BegW w (X.heap.size + 1) X.heap.size A c z1 st ((X.alloc rowC).alloc (begC X.heap.size A c z1 st)) := by
  have hz := hX.size
  have h1 := alloc_below X rowC
  have h2 := alloc_below (X.alloc rowC) (begC X.heap.size A c z1 st)
  simp only [World.size_alloc] at h2
  refine ⟨P.keep ((below_lower (by omega) hX).trans ((below_lower (by omega) h1).trans (below_lower (by omega) h2))), ?_, (row_zero X).alloc _, (hi.alloc rowC).alloc _, by omega, by omega, by omega, fun ad e => by have := hn ad e; have := hA ad e; omega⟩
  have := StAt.new (X.alloc rowC) (.slice (some ⟨X.heap.size, 0, none⟩) 128 128) (.slice A z1.length c) (.slice none 0 0) 0 (st % 16) st 0 0 24
  simp only [World.size_alloc] at this
  exact this
theorem beg4 (P : BegP w W) (hs : W.heap.size = w.heap.size + 1 + 1) (hn : ∀ ad, A = some ad → W.heap.size ≤ ad.block) (hi : IntsAt X X.heap.size A z1) (hX : Below W.heap.size W X) (hA : ∀ ad, A = some ad → ad.block < X.heap.size) :
    BegW w X.heap.size (X.heap.size + 1) A c z1 st ((X.alloc (begC (X.heap.size + 1) A c z1 st)).alloc rowC) := by
  have hz := hX.size
  have h1 := alloc_below X (begC (X.heap.size + 1) A c z1 st)
  have h2 := alloc_below (X.alloc (begC (X.heap.size + 1) A c z1 st)) rowC
  simp only [World.size_alloc] at h2
  have hr := row_zero (X.alloc (begC (X.heap.size + 1) A c z1 st))
  simp only [World.size_alloc] at hr
  exact ⟨P.keep ((below_lower (by omega) hX).trans ((below_lower (by omega) h1).trans (below_lower (by omega) h2))), (StAt.new X _ _ _ _ _ _ _ _ _).alloc (by simp) _, hr, (hi.alloc _).alloc _, by omega, by omega, by omega, fun ad e => by have := hn ad e; have := hA ad e; omega⟩
theorem beg5 (P : BegP w W) (hs : W.heap.size = w.heap.size + 1 + 1) (hn : ∀ ad, A = some ad → ((W.alloc zeroC).alloc rowC).heap.size ≤ ad.block) (hi : IntsAt X X.heap.size A z1) (hX : Below ((W.alloc zeroC).alloc rowC).heap.size ((W.alloc zeroC).alloc rowC) X) :
    BegW w (w.heap.size + 1 + 1) (w.heap.size + 1 + 1 + 1) A c z1 st (setSt X (w.heap.size + 1 + 1) (.slice (some ⟨w.heap.size + 1 + 1 + 1, 0, none⟩) 128 128) (.slice A z1.length c) (.slice none 0 0) 0 (st % 16) st 0 0) := by
  have hz := hX.size
  simp only [World.size_alloc] at hz hn hX
  have h1 := alloc_below W zeroC
  have h2 := alloc_below (W.alloc zeroC) rowC
  simp only [World.size_alloc] at h2
  refine ⟨P.keep ((below_lower (by omega) h1).trans ((below_lower (by omega) h2).trans ((below_lower (by omega) hX).trans (setSt_below (by omega))))), ?_, ?_, ?_, by omega, by omega, by omega, fun ad e => by have := hn ad e; omega⟩
  · have := ((StAt.new W (.slice none 0 0) (.slice none 0 0) (.slice none 0 0) 0 0 0 0 0 24).alloc (by simp) rowC).below hX (by omega)
    rw [hs] at this
    exact this.put
  · have := (row_zero (W.alloc zeroC)).below hX (by simp)
    simp only [World.size_alloc] at this
    rw [hs] at this
    exact this.setSt (by omega)
  · rw [setSt_size]
    exact hi.setSt fun ad e => by have := hn ad e; omega
theorem beg6 (P : BegP w W) (hs : W.heap.size = w.heap.size + 1 + 1) (hn : ∀ ad, A = some ad → (W.alloc zeroC).heap.size ≤ ad.block) (hi : IntsAt X X.heap.size A z1) (hX : Below (W.alloc zeroC).heap.size (W.alloc zeroC) X) (hA : ∀ ad, A = some ad → ad.block < X.heap.size) :
    BegW w (w.heap.size + 1 + 1) X.heap.size A c z1 st ((setSt X (w.heap.size + 1 + 1) (.slice (some ⟨X.heap.size, 0, none⟩) 128 128) (.slice A z1.length c) (.slice none 0 0) 0 (st % 16) st 0 0).alloc rowC) := by
  have hz := hX.size
  simp only [World.size_alloc] at hz hn hX
  have h1 := alloc_below W zeroC
  have h3 := alloc_below (setSt X (w.heap.size + 1 + 1) (.slice (some ⟨X.heap.size, 0, none⟩) 128 128) (.slice A z1.length c) (.slice none 0 0) 0 (st % 16) st 0 0) rowC
  have hr := row_zero (setSt X (w.heap.size + 1 + 1) (.slice (some ⟨X.heap.size, 0, none⟩) 128 128) (.slice A z1.length c) (.slice none 0 0) 0 (st % 16) st 0 0)
  rw [setSt_size] at h3 hr
  refine ⟨P.keep ((below_lower (by omega) h1).trans ((below_lower (by omega) hX).trans ((setSt_below (by omega)).trans (below_lower (by omega) h3)))), ?_, hr, ?_, by omega, by omega, by omega, fun ad e => by have := hn ad e; have := hA ad e; omega⟩
  · have := (StAt.new W (.slice none 0 0) (.slice none 0 0) (.slice none 0 0) 0 0 0 0 0 24).below hX (by omega)
    rw [hs] at this
    exact this.put.alloc (by rw [setSt_size]; omega) _
  · have : IntsAt (setSt X (w.heap.size + 1 + 1) (.slice (some ⟨X.heap.size, 0, none⟩) 128 128) (.slice A z1.length c) (.slice none 0 0) 0 (st % 16) st 0 0) (setSt X (w.heap.size + 1 + 1) (.slice (some ⟨X.heap.size, 0, none⟩) 128 128) (.slice A z1.length c) (.slice none 0 0) 0 (st % 16) st 0 0).heap.size A z1 := by
      rw [setSt_size]
      exact hi.setSt fun ad e => by have := hn ad e; omega
    exact this.alloc _
end

/-- One row is written, nothing else. -/
structure OnlyRow (g : Nat) (w w' : World) : Prop where
  below : Below g w w'
  size : w'.heap.size = w.heap.size
  block : ∀ k, k ≠ g → w'.heap[k]? = w.heap[k]?
theorem OnlyRow.refl (g : Nat) (w : World) : OnlyRow g w w := ⟨Below.refl _ _, rfl, fun _ _ => rfl⟩
theorem OnlyRow.cell {g : Nat} {w w' : World} (h : OnlyRow g w w') {p : Addr} (hp : p.block ≠ g) : w'.cell? p = w.cell? p := World.cell?_of_block (h.block _ hp)
theorem onlyRow_set (w : World) (g : Nat) (cs : Array Value) : OnlyRow g w (w.setRow g cs) := ⟨below_setRow (Below.refl _ _) (Nat.le_refl _) cs, by simp [World.setRow], fun k hk => setRow_other w g k cs hk⟩
theorem StAt.only {g b : Nat} {U V : World} {v0 v1 v3 : Value} {a2 a4 a5 a6 a7 : Int} (h : StAt U b v0 v1 v3 a2 a4 a5 a6 a7) (hV : OnlyRow g U V) (hb : b ≠ g) : StAt V b v0 v1 v3 a2 a4 a5 a6 a7 :=
  have c : ∀ j, V.cell? ⟨b, j, none⟩ = U.cell? ⟨b, j, none⟩ := fun j => hV.cell (p := ⟨b, j, none⟩) hb
  ⟨(c 0).trans h.c0, (c 1).trans h.c1, (c 2).trans h.c2, (c 3).trans h.c3, (c 4).trans h.c4, (c 5).trans h.c5, (c 6).trans h.c6, (c 7).trans h.c7⟩
theorem ListAt.only {α : Type} {f : α → Value} {U V : World} {B g : Nat} {A : Option Addr} {xs : List α} (h : ListAt f U B A xs) (hV : OnlyRow g U V) (hne : ∀ ad, A = some ad → ad.block ≠ g) : ListAt f V B A xs := fun h0 => by
  obtain ⟨ad, e, hlt, hc⟩ := h h0
  exact ⟨ad, e, hlt, fun j hj => (hV.cell (by rw [add_block]; exact hne ad e)).trans (hc j hj)⟩
section
variable {P : Program} {w : World} {ops : Array Oper} {rest : List Oper} {o : Oper} {a : Act} {Q : Exit → Act → World → Prop}
/-- copy into the head of a row that is known whole. -/
theorem wp_copy_ints (hgd : o.guard = none) (d s : Operand) (dT sT : TypeId) (ho : o.op = .call { callee := .builtin .copy, args := #[d, s], argTypes := #[dT, sT] }) (elem : TypeId) (hu : P.underlying dT = some (.slice elem)) (hsz : (P.info? elem).map (·.size) = some 1)
    (g n nc : Nat) (cur : List Value) (t : TypeId) (hg : RowIs w g t cur) (hcn : cur.length = n) (A : Option Addr) (zs : List Int) (sc B : Nat) (hd : a.eval d = .slice (some ⟨g, 0, none⟩) n nc) (hs : a.eval s = .slice A zs.length sc) (hA : IntsAt w B A zs) (hle : zs.length ≤ n)
    (h : ∀ w', RowIs w' g t (zs.map (Value.int .i64) ++ cur.drop zs.length) → OnlyRow g w w' → wpList P ops Q rest (a.put o.dst (goInt zs.length)) w') : wpList P ops Q (o :: rest) a w := by
  rcases Nat.eq_zero_or_pos zs.length with h0 | h0
  · obtain rfl : zs = [] := List.length_eq_zero_iff.1 h0
    exact wpList_copy_nothing hgd d s dT sT ho elem hu hsz (some ⟨g, 0, none⟩) A n nc 0 sc hd hs (by simp) (h w (by simpa using hg) (OnlyRow.refl _ _))
  · obtain ⟨ad, rfl, hlt, hc⟩ := hA h0
    refine wpList_copy_own hgd d s dT sT ho elem hu hsz g 0 n nc ad zs.length sc hd hs cur.toArray t hg (zs.map (Value.int .i64)) (by have q1 : Nat.min zs.length n = zs.length := Nat.min_eq_left hle; have q2 : Nat.min n zs.length = zs.length := Nat.min_eq_right hle; simp; omega) (fun j v hj => ?_) (by simp; omega) (fun v hv => ?_) ?_
    · have hj' : j < zs.length := by
        have := (List.getElem?_eq_some_iff.1 hj).1
        simpa using this
      rw [hc j hj']
      simpa [hj'] using hj
    · obtain ⟨m, _, rfl⟩ := List.mem_map.1 hv
      rfl
    · have hr := setRow_heap w g _ (zs.map (Value.int .i64) ++ cur.drop zs.length).toArray t _ hg
      have e : (cur.toArray.toList.take 0 ++ (zs.map (Value.int .i64) ++ cur.toArray.toList.drop (0 + (zs.map (Value.int .i64)).length))).toArray = (zs.map (Value.int .i64) ++ cur.drop zs.length).toArray := by simp
      rw [e]
      have := h (w.setRow g (zs.map (Value.int .i64) ++ cur.drop zs.length).toArray) hr (onlyRow_set w g _)
      simpa using this
end
end Go.Proofs.Ytmkcijecncdhpaa
